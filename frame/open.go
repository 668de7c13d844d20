package frame

import (
	"bytes"

	"parley/api"
)

// Info is what a frame says. Flags is told only of the types that have no meaning here.
type Info struct {
	Type, Flags, Stream      int
	End, EndHeads, Ack       bool
	Padded, Priority, Alone  bool
	Pad, Dep, Weight         int
	Code, Last, Inc, Promise int
	Settings                 []api.Setting
	Data                     []byte
}

const (
	prioritySize = 5       // bytes of Dep, Alone and Weight
	settingSize  = 6       // bytes of a setting
	leastFrame   = 1 << 14 // the least that SFrame may be set to
	aloneBit     = 1 << 31
)

// Open is what f says.
func Open(f api.Frame) (Info, error) {
	i, err := open(f)
	if err != nil {
		return Info{}, err
	}
	i.Data = bytes.Clone(i.Data)
	return i, nil
}

// open is what f says, its Data still a part of f's payload.
func open(f api.Frame) (Info, error) {
	i := Info{Type: f.Type, Stream: f.Stream}
	k, ok := kinds()[f.Type]
	if !ok {
		i.Flags, i.Data = f.Flags, f.Payload
		return i, nil
	}
	if !k.mayBeOf(f.Stream) {
		return Info{}, fault(api.CProtocol)
	}
	for _, x := range k.flags {
		*x.told(&i) = f.Flags&x.bit != 0
	}
	p, err := unpad(&i, f.Payload)
	if err != nil {
		return Info{}, err
	}
	if err := k.read(&i, p); err != nil {
		return Info{}, err
	}
	return i, nil
}

// fault is a fault of the connection.
func fault(code int) error {
	return &api.H2{Code: code}
}

// unpad tells Pad, and is the payload without it and the padding.
func unpad(i *Info, p []byte) ([]byte, error) {
	if !i.Padded {
		return p, nil
	}
	if len(p) == 0 {
		return nil, fault(api.CSize)
	}
	i.Pad = int(p[0])
	if i.Pad >= len(p) {
		return nil, fault(api.CProtocol)
	}
	return p[1 : len(p)-i.Pad], nil
}

func readData(i *Info, p []byte) error {
	i.Data = p
	return nil
}

func readHeaders(i *Info, p []byte) error {
	if i.Priority {
		if len(p) < prioritySize {
			return fault(api.CSize)
		}
		if err := readDep(i, p[:prioritySize]); err != nil {
			return err
		}
		p = p[prioritySize:]
	}
	i.Data = p
	return nil
}

func readPriority(i *Info, p []byte) error {
	if len(p) != prioritySize {
		return &api.H2{Code: api.CSize, Stream: i.Stream}
	}
	return readDep(i, p)
}

// readDep tells Dep, Alone and Weight, which p is.
func readDep(i *Info, p []byte) error {
	dep := number(p[:4])
	i.Dep, i.Alone, i.Weight = dep&api.MaxStream, dep&aloneBit != 0, int(p[4])+1
	if i.Dep == i.Stream {
		return &api.H2{Code: api.CProtocol, Stream: i.Stream}
	}
	return nil
}

func readReset(i *Info, p []byte) error {
	if len(p) != 4 {
		return fault(api.CSize)
	}
	i.Code = number(p)
	return nil
}

func readSettings(i *Info, p []byte) error {
	if i.Ack && len(p) > 0 || len(p)%settingSize != 0 {
		return fault(api.CSize)
	}
	for ; len(p) > 0; p = p[settingSize:] {
		s := api.Setting{ID: number(p[:2]), Value: number(p[2:settingSize])}
		if code := codeOf(s); code != api.CNone {
			return fault(code)
		}
		i.Settings = append(i.Settings, s)
	}
	return nil
}

// codeOf is the code of the fault that s is, or CNone.
func codeOf(s api.Setting) int {
	switch {
	case s.ID == api.SPush && s.Value > 1:
		return api.CProtocol
	case s.ID == api.SWindow && s.Value > api.MaxWindow:
		return api.CFlow
	case s.ID == api.SFrame && (s.Value < leastFrame || s.Value > mostPayload):
		return api.CProtocol
	}
	return api.CNone
}

func readPush(i *Info, p []byte) error {
	if len(p) < 4 {
		return fault(api.CSize)
	}
	i.Promise, i.Data = number(p[:4])&api.MaxStream, p[4:]
	if i.Promise == 0 {
		return fault(api.CProtocol)
	}
	return nil
}

func readPing(i *Info, p []byte) error {
	if len(p) != 8 {
		return fault(api.CSize)
	}
	return readData(i, p)
}

func readGoAway(i *Info, p []byte) error {
	if len(p) < 8 {
		return fault(api.CSize)
	}
	i.Last, i.Code, i.Data = number(p[:4])&api.MaxStream, number(p[4:8]), p[8:]
	return nil
}

func readWindow(i *Info, p []byte) error {
	if len(p) != 4 {
		return fault(api.CSize)
	}
	i.Inc = number(p) & api.MaxStream
	if i.Inc == 0 {
		return &api.H2{Code: api.CProtocol, Stream: i.Stream}
	}
	return nil
}
