package head

import (
	"strconv"

	"parley/api"
)

// Response is an answer's list: its status, and the headers behind that.
type Response struct {
	Status int
	Rest   []api.Header
}

const (
	status = ":status"

	statusDigits            = 3
	leastStatus, mostStatus = 100, 599
)

// ofAnswer is the rules by which r is told.
func ofAnswer(r *Response) rules {
	return rules{
		status: func(s string) bool {
			n, ok := decimal(s, statusDigits, statusDigits)
			r.Status = n
			return ok && n >= leastStatus && n <= mostStatus
		},
	}
}

// OpenAnswer is the answer that l is.
func OpenAnswer(l []api.Header) (Response, error) {
	var r Response
	missing := ofAnswer(&r)
	rest, err := missing.follow(l)
	if err != nil || len(missing) > 0 {
		return Response{}, api.ErrHead
	}
	r.Rest = rest
	return r, nil
}

// BuildAnswer is the list of r.
func BuildAnswer(r Response) ([]api.Header, error) {
	l := make([]api.Header, 0, 1+len(r.Rest))
	l = append(l, api.Header{Name: status, Value: strconv.Itoa(r.Status)})
	if _, err := OpenAnswer(l); err != nil {
		return nil, err
	}
	return join(l, r.Rest)
}
