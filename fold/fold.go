// Package fold compares names of CSS without regard to lower and upper case.
// It serves the packages that know names.
package fold

// Lower returns s with the letters A to Z in lower case. (Other letters have
// no case in CSS, though Unicode may say so.)
func Lower(s string) string {
	b := []byte(s)
	for i, c := range b {
		if c >= 'A' && c <= 'Z' {
			b[i] = c + 'a' - 'A'
		}
	}
	return string(b)
}
