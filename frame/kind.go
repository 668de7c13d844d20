package frame

import "parley/api"

// A place is where frames of a type may be.
type place int

const (
	anywhere place = iota
	ofStream
	ofConnection
)

// flag is a bit of a frame's Flags, and the field of Info that tells it.
type flag struct {
	bit  int
	told func(i *Info) *bool
}

// kind is what the frames of a type are. What read and write have to do with is the payload without what is padding; read is handed an Info whose Stream and flags are told already, and finds what faults there are behind that.
type kind struct {
	place place
	flags []flag
	read  func(i *Info, p []byte) error
	write func(b []byte, i Info) []byte
}

// kinds is the types that say more than their Data.
func kinds() map[int]kind {
	end := flag{api.FlagEnd, func(i *Info) *bool { return &i.End }}
	endHeads := flag{api.FlagEndHeads, func(i *Info) *bool { return &i.EndHeads }}
	ack := flag{api.FlagAck, func(i *Info) *bool { return &i.Ack }}
	padded := flag{api.FlagPadded, func(i *Info) *bool { return &i.Padded }}
	priority := flag{api.FlagPriority, func(i *Info) *bool { return &i.Priority }}
	return map[int]kind{
		api.FData:     {ofStream, []flag{end, padded}, readData, writeData},
		api.FHeaders:  {ofStream, []flag{end, endHeads, padded, priority}, readHeaders, writeHeaders},
		api.FPriority: {ofStream, nil, readPriority, writePriority},
		api.FReset:    {ofStream, nil, readReset, writeReset},
		api.FSettings: {ofConnection, []flag{ack}, readSettings, writeSettings},
		api.FPush:     {ofStream, []flag{endHeads, padded}, readPush, writePush},
		api.FPing:     {ofConnection, []flag{ack}, readPing, writeData},
		api.FGoAway:   {ofConnection, nil, readGoAway, writeGoAway},
		api.FWindow:   {anywhere, nil, readWindow, writeWindow},
		api.FContinue: {ofStream, []flag{endHeads}, readData, writeData},
	}
}

// mayBeOf tells whether a frame of that kind may have the number stream.
func (k kind) mayBeOf(stream int) bool {
	switch k.place {
	case ofStream:
		return stream != 0
	case ofConnection:
		return stream == 0
	}
	return true
}
