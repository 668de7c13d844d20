package head

import (
	"strings"

	"parley/api"
)

// Request is a request's list: what its headers with `:` say, and the others.
type Request struct {
	Method, Scheme, Authority, Path string
	Rest                            []api.Header
}

const (
	method    = ":method"
	scheme    = ":scheme"
	authority = ":authority"
	path      = ":path"

	mostOfRequest = 4 // headers with `:`
)

// ofRequest is the rules by which r is told.
func ofRequest(r *Request) rules {
	return rules{
		method:    func(s string) bool { r.Method = s; return s != "" },
		scheme:    func(s string) bool { r.Scheme = s; return s != "" },
		authority: func(s string) bool { r.Authority = s; return true },
		path:      func(s string) bool { r.Path = s; return s == "*" || strings.HasPrefix(s, "/") },
	}
}

// Open is the request that l is.
func Open(l []api.Header) (Request, error) {
	var r Request
	missing := ofRequest(&r)
	rest, err := missing.follow(l)
	delete(missing, authority) // it need not come
	if err != nil || len(missing) > 0 {
		return Request{}, api.ErrHead
	}
	r.Rest = rest
	return r, nil
}

// Build is the list of r.
func Build(r Request) ([]api.Header, error) {
	l := make([]api.Header, 0, mostOfRequest+len(r.Rest))
	l = append(l, api.Header{Name: method, Value: r.Method}, api.Header{Name: scheme, Value: r.Scheme})
	if r.Authority != "" {
		l = append(l, api.Header{Name: authority, Value: r.Authority})
	}
	l = append(l, api.Header{Name: path, Value: r.Path})
	// Without Rest: a header with `:` there would pass for one that r has no field for.
	if _, err := Open(l); err != nil {
		return nil, err
	}
	return join(l, r.Rest)
}
