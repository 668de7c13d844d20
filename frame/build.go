package frame

import (
	"bytes"
	"slices"

	"parley/api"
)

// Build is the frame that says i.
func Build(i Info) (api.Frame, error) {
	// What Open does not look at, and what room is made by, is held against its bounds here.
	if !isByte(i.Type) || !isByte(i.Flags) || !isStream(i.Stream) || !isByte(i.Pad) {
		return api.Frame{}, api.ErrFrame
	}
	f := write(i)
	// A number without room, or one that the frame has no place for, is read back as another one.
	if said, err := open(f); err != nil || !same(said, i) {
		return api.Frame{}, api.ErrFrame
	}
	return f, nil
}

// write is a frame of what of i has room in one.
func write(i Info) api.Frame {
	f := api.Frame{Type: i.Type, Stream: i.Stream}
	k, ok := kinds()[i.Type]
	if !ok {
		f.Flags, f.Payload = i.Flags, bytes.Clone(i.Data)
		return f
	}
	for _, x := range k.flags {
		if *x.told(&i) {
			f.Flags |= x.bit
		}
	}
	if !i.Padded {
		f.Payload = k.write(nil, i)
		return f
	}
	f.Payload = k.write([]byte{byte(i.Pad)}, i)
	f.Payload = append(f.Payload, make([]byte, i.Pad)...)
	return f
}

func same(a, b Info) bool {
	return numbers(a) == numbers(b) && marks(a) == marks(b) && slices.Equal(a.Settings, b.Settings) && bytes.Equal(a.Data, b.Data)
}

func numbers(i Info) [10]int {
	return [10]int{i.Type, i.Flags, i.Stream, i.Pad, i.Dep, i.Weight, i.Code, i.Last, i.Inc, i.Promise}
}

func marks(i Info) [6]bool {
	return [6]bool{i.End, i.EndHeads, i.Ack, i.Padded, i.Priority, i.Alone}
}

func writeData(b []byte, i Info) []byte {
	return append(b, i.Data...)
}

func writeHeaders(b []byte, i Info) []byte {
	if i.Priority {
		b = writePriority(b, i)
	}
	return append(b, i.Data...)
}

func writePriority(b []byte, i Info) []byte {
	dep := i.Dep
	if i.Alone {
		dep |= aloneBit
	}
	return append(appendNumber(b, dep, 4), byte((i.Weight-1)&255))
}

func writeReset(b []byte, i Info) []byte {
	return appendNumber(b, i.Code, 4)
}

func writeSettings(b []byte, i Info) []byte {
	for _, s := range i.Settings {
		b = appendNumber(appendNumber(b, s.ID, 2), s.Value, 4)
	}
	return b
}

func writePush(b []byte, i Info) []byte {
	return append(appendNumber(b, i.Promise, 4), i.Data...)
}

func writeGoAway(b []byte, i Info) []byte {
	return append(appendNumber(appendNumber(b, i.Last, 4), i.Code, 4), i.Data...)
}

func writeWindow(b []byte, i Info) []byte {
	return appendNumber(b, i.Inc, 4)
}
