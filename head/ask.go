package head

import "parley/api"

const mostDigits = 10 // of a content-length

// Get is the value of the first header of that name.
func Get(l []api.Header, name string) (string, bool) {
	for _, h := range l {
		if h.Name == name {
			return h.Value, true
		}
	}
	return "", false
}

// All is the values of all headers of that name.
func All(l []api.Header, name string) []string {
	var values []string
	for _, h := range l {
		if h.Name == name {
			values = append(values, h.Value)
		}
	}
	return values
}

// Length is what content-length says, and whether there is one.
func Length(l []api.Header) (int, bool, error) {
	told := All(l, "content-length")
	if len(told) == 0 {
		return 0, false, nil
	}
	for _, s := range told {
		if s != told[0] {
			return 0, false, api.ErrHead
		}
	}
	n, ok := decimal(told[0], 1, mostDigits)
	if !ok {
		return 0, false, api.ErrHead
	}
	return n, true, nil
}
