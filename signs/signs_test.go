package signs_test

import (
	"testing"

	"walkmill/signs"
)

// TestOnly is for texts that are as long as they may be, or not, and for signs at the ends of what they may be, and beyond them.
func TestOnly(t *testing.T) {
	for _, x := range []struct {
		text      string
		low, high int
		want      bool
	}{
		{"a", 1, 3, true}, {"bcd", 1, 3, true}, {"?d?", 1, 3, true}, {"", 0, 3, true}, {"", 1, 3, false}, {"abcd", 1, 3, false}, {"abc", 4, 9, false},
		{"a`c", 1, 3, false}, {"abe", 1, 3, false}, {"aBc", 1, 3, false}, {"a c", 1, 3, false}, {"ab\n", 1, 3, false}, {"\x00", 1, 3, false},
		{"é", 1, 3, false}, {"\xff", 1, 3, false}, {"aé", 1, 3, false}, {"a!", 1, 3, true}, {"a*", 1, 3, false},
	} {
		if got := signs.Only(x.text, x.low, x.high, 'a', 'd', signs.Unread, '!'); got != x.want {
			t.Errorf("Only(%q, %d, %d) = %v", x.text, x.low, x.high, got)
		}
	}
	if signs.Only("a?", 1, 3, 'a', 'd') {
		t.Error("Only has a sign that is not among the others")
	}
}

// TestMeet is for texts that cannot be read in one of them, in both or in none, and for those that are not as long.
func TestMeet(t *testing.T) {
	for _, x := range []struct {
		a, b string
		want bool
	}{
		{"", "", true}, {"", "?", false}, {"abc", "abc", true}, {"abc", "abd", false}, {"abc", "bbc", false}, {"abc", "ab", false}, {"???", "??", false},
		{"a?c", "abc", true}, {"a?c", "?bc", true}, {"a?c", "?bd", false}, {"???", "abc", true}, {"???", "???", true}, {"?bc", "?bc", true}, {"??1", "??2", false},
	} {
		if got, back := signs.Meet(x.a, x.b), signs.Meet(x.b, x.a); got != x.want || back != x.want {
			t.Errorf("Meet(%q, %q) = %v, and %v", x.a, x.b, got, back)
		}
	}
}
