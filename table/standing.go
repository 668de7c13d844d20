package table

import "parley/api"

// Static is the i-th header of the table that stands, from 1 on.
func Static(i int) (api.Header, bool) {
	if i < 1 || i >= first {
		return api.Header{}, false
	}
	list := standing()
	return list[i-1], true
}

// standing is the table that stands, RFC 7541's appendix A.
func standing() [first - 1]api.Header {
	return [first - 1]api.Header{
		{Name: ":authority"},
		{Name: ":method", Value: "GET"}, {Name: ":method", Value: "POST"},
		{Name: ":path", Value: "/"}, {Name: ":path", Value: "/index.html"},
		{Name: ":scheme", Value: "http"}, {Name: ":scheme", Value: "https"},
		{Name: ":status", Value: "200"}, {Name: ":status", Value: "204"}, {Name: ":status", Value: "206"},
		{Name: ":status", Value: "304"}, {Name: ":status", Value: "400"}, {Name: ":status", Value: "404"},
		{Name: ":status", Value: "500"},
		{Name: "accept-charset"}, {Name: "accept-encoding", Value: "gzip, deflate"}, {Name: "accept-language"},
		{Name: "accept-ranges"}, {Name: "accept"}, {Name: "access-control-allow-origin"},
		{Name: "age"}, {Name: "allow"}, {Name: "authorization"},
		{Name: "cache-control"}, {Name: "content-disposition"}, {Name: "content-encoding"},
		{Name: "content-language"}, {Name: "content-length"}, {Name: "content-location"},
		{Name: "content-range"}, {Name: "content-type"}, {Name: "cookie"},
		{Name: "date"}, {Name: "etag"}, {Name: "expect"}, {Name: "expires"},
		{Name: "from"}, {Name: "host"},
		{Name: "if-match"}, {Name: "if-modified-since"}, {Name: "if-none-match"},
		{Name: "if-range"}, {Name: "if-unmodified-since"},
		{Name: "last-modified"}, {Name: "link"}, {Name: "location"}, {Name: "max-forwards"},
		{Name: "proxy-authenticate"}, {Name: "proxy-authorization"},
		{Name: "range"}, {Name: "referer"}, {Name: "refresh"}, {Name: "retry-after"},
		{Name: "server"}, {Name: "set-cookie"}, {Name: "strict-transport-security"},
		{Name: "transfer-encoding"}, {Name: "user-agent"},
		{Name: "vary"}, {Name: "via"}, {Name: "www-authenticate"},
	}
}
