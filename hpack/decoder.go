package hpack

import (
	"parley/api"
	"parley/table"
)

// Decoder reads the blocks of an encoder, in order.
type Decoder struct {
	moving *table.Table // none behind a fault: nothing is taken any more
	limit  int
	held   int // headers in the table behind the last block that was taken
}

// NewDecoder is a decoder whose table has at most limit bytes, whatever a block says.
func NewDecoder(limit int) (*Decoder, error) {
	t, err := table.New(limit)
	if err != nil {
		return nil, err
	}
	return &Decoder{moving: t, limit: limit}, nil
}

// Len is how many headers the table has. A block with a fault has added none.
func (d *Decoder) Len() int { return d.held }

// Decode is the headers of the block b.
func (d *Decoder) Decode(b []byte) (l []api.Header, err error) {
	if d.moving == nil {
		return nil, api.ErrGone
	}
	defer func() {
		if x := recover(); x != nil {
			err = x.(fault).err // whatever else it were would be no fault of b, and is not hidden as one
			d.moving = nil
		}
	}()
	r := &reader{rest: b, moving: d.moving, limit: d.limit}
	r.readBlock()
	d.held = d.moving.Len()
	return r.list, nil
}

// fault is what a reader gives up with.
type fault struct{ err error }

// reader reads one block.
type reader struct {
	rest   []byte // what is not read yet
	moving *table.Table
	limit  int
	list   []api.Header
	size   int // of list
}

// kind is one of the kinds of things in a block: those whose first byte is from or above, but below that of the kind ahead in the list.
type kind struct {
	from byte
	read func(r *reader)
}

func kinds() []kind {
	return []kind{
		{indexed, readIndexed},
		{added, readAdded},
		{resized, readSize},
		{never, readNever},
		{plain, readPlain},
	}
}

func (r *reader) readBlock() {
	l := kinds()
	for len(r.rest) > 0 {
		kindOf(l, r.rest[0]).read(r)
	}
}

// kindOf is the first of l that b may begin: the last one begins with any byte.
func kindOf(l []kind, b byte) kind {
	i := 0
	for b < l[i].from {
		i++
	}
	return l[i]
}

func readIndexed(r *reader) {
	r.tell(r.header(r.number(indexedBits)))
}

func readAdded(r *reader) {
	h := r.named(addedBits)
	r.tell(h)
	r.moving.Add(h)
}

func readPlain(r *reader) {
	r.tell(r.named(plainBits))
}

func readNever(r *reader) {
	h := r.named(neverBits)
	h.Never = true
	r.tell(h)
}

func readSize(r *reader) {
	if len(r.list) > 0 {
		panic(fault{api.ErrTable})
	}
	size := r.number(resizedBits)
	if size > r.limit {
		panic(fault{api.ErrTable})
	}
	r.check(r.moving.Resize(size))
}

// named is a header by name and value.
func (r *reader) named(bits int) api.Header {
	var h api.Header
	if i := r.number(bits); i > 0 {
		h.Name = r.header(i).Name
	} else {
		h.Name = r.text()
	}
	h.Value = r.text()
	return h
}

// header is the one of index i.
func (r *reader) header(i int) api.Header {
	h, ok := r.moving.Get(i)
	if !ok {
		panic(fault{api.ErrIndex})
	}
	return h
}

// tell lays h behind the list.
func (r *reader) tell(h api.Header) {
	r.size += table.Size(h)
	if r.size > api.MaxList {
		panic(fault{api.ErrList})
	}
	r.list = append(r.list, h)
}

func (r *reader) number(bits int) int {
	n, size, err := Int(r.rest, bits)
	r.check(err)
	r.rest = r.rest[size:]
	return n
}

func (r *reader) text() string {
	s, size, err := Text(r.rest)
	r.check(err)
	r.rest = r.rest[size:]
	return s
}

// check gives up if there is an error.
func (r *reader) check(err error) {
	if err != nil {
		panic(fault{err})
	}
}
