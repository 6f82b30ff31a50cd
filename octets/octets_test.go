package octets_test

import (
	"testing"

	"messenger/octets"
)

func TestText(t *testing.T) {
	for _, c := range []struct {
		number uint32
		size   int
		text   string
	}{
		{0, 0, ""}, {7, 0, ""}, {7, -1, ""},
		{0, 1, "\x00"}, {255, 1, "\xff"}, {256, 1, "\x00"},
		{0, 2, "\x00\x00"}, {1, 2, "\x00\x01"}, {255, 2, "\x00\xff"}, {256, 2, "\x01\x00"},
		{299, 2, "\x01\x2b"}, {300, 2, "\x01\x2c"}, {65535, 2, "\xff\xff"},
		{0x01020304, 4, "\x01\x02\x03\x04"}, {0xfffefdfc, 4, "\xff\xfe\xfd\xfc"},
		{0x80000000, 5, "\x00\x80\x00\x00\x00"},
	} {
		if text := octets.Text(c.number, c.size); text != c.text {
			t.Errorf("Text(%d, %d) = %x, want %x", c.number, c.size, text, c.text)
		}
	}
}

func TestNumber(t *testing.T) {
	for _, c := range []struct {
		text   string
		number uint32
	}{
		{"", 0}, {"\x00", 0}, {"\xff", 255}, {"\x01\x00", 256}, {"\x00\x01", 1},
		{"\x01\x2c", 300}, {"\xff\xff", 65535},
		{"\x01\x02\x03\x04", 0x01020304}, {"\xff\xfe\xfd\xfc", 0xfffefdfc},
		{"\x09\x01\x02\x03\x04", 0x01020304},
	} {
		if number := octets.Number(c.text); number != c.number {
			t.Errorf("Number(%x) = %d, want %d", c.text, number, c.number)
		}
	}
}

func TestBack(t *testing.T) {
	for n := uint32(0); n < 1<<16; n++ {
		text := octets.Text(n, 2)
		if len(text) != 2 || octets.Number(text) != n {
			t.Fatalf("%d as two bytes: %x", n, text)
		}
	}
}
