package cell

import "strata/api"

// CheckSchema tells whether the values may be a schema.
func CheckSchema(s api.Schema) api.Errno {
	if len(s.Fams) < 1 || len(s.Fams) > api.MaxFams {
		return api.ErrSchema
	}
	for i, f := range s.Fams {
		if !isFamily(f) || Family(s, f.Name) != i {
			return api.ErrSchema
		}
	}
	return api.OK
}

func isFamily(f api.Family) bool {
	return isFamilyName(f.Name) && f.Max >= 1 && f.Max <= api.MaxVersions && f.TTL >= 0 && f.TTL <= api.MaxTime
}

func isFamilyName(name string) bool {
	if len(name) < 1 || len(name) > api.MaxFamName || !isLetter(name[0]) {
		return false
	}
	for i := range len(name) {
		if c := name[i]; !isLetter(c) && !isDigit(c) && c != '_' {
			return false
		}
	}
	return true
}

func isLetter(c byte) bool { return 'a' <= c && c <= 'z' }

func isDigit(c byte) bool { return '0' <= c && c <= '9' }

// Family is the number of the family of that name, or -1.
func Family(s api.Schema, name string) int {
	for i, f := range s.Fams {
		if f.Name == name {
			return i
		}
	}
	return -1
}
