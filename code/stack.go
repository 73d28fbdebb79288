package code

// A stack has its top at its end. The machine keeps numbers on it, and the verifier their forms.
type stack[T any] []T

// take returns what is left of the stack without its n topmost values, and these values.
//
// They are nobody else's: what is left has no room behind it, so a value that is put on it does not overwrite them, nor
// what was put on it elsewhere, where execution may go on in two ways.
func (s stack[T]) take(n int) (stack[T], []T) {
	at := len(s) - n
	return s[:at:at], s[at:len(s):len(s)]
}
