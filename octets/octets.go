// Package octets: numbers as bytes, the highest first.
package octets

// Text is the last bytes of a number, as many as size says.
func Text(number uint32, size int) string {
	text := ""
	for i := 0; i < size; i++ {
		text = string([]byte{byte(number)}) + text
		number >>= 8
	}
	return text
}

// Number is the number of a text of at most four bytes; of a longer one, of
// its last four.
func Number(text string) uint32 {
	var number uint32
	for i := 0; i < len(text); i++ {
		number = number<<8 | uint32(text[i])
	}
	return number
}
