package signal

import (
	"math"
	"strings"
	"testing"

	"qanat/api"
)

func TestExample(t *testing.T) {
	parsed(t, "the example", "snapshot 3", api.Signal{Table: 3, Weight: 1}, true)
	parsed(t, "two blanks", "snapshot  3", api.Signal{}, false)
}

func TestParseOfEachSignal(t *testing.T) {
	all := signals()
	if len(all) != 8+64 {
		t.Fatalf("there are %d signals", len(all))
	}
	for s, g := range all {
		parsed(t, "a signal", s, g, true)
	}
}

// TestParseOfEachDigit: in the table's place, and in the weight's, each digit that there is.
func TestParseOfEachDigit(t *testing.T) {
	for table := range 10 {
		short := "snapshot " + digits[table:table+1]
		if table > 7 {
			none(t, "no such table", short)
		} else {
			parsed(t, "no weight", short, api.Signal{Table: table, Weight: 1}, true)
		}
		for weight := range 10 {
			s := short + " " + digits[weight:weight+1]
			if table > 7 || weight < 1 || weight > 8 {
				none(t, "no such table, or weight", s)
			} else {
				parsed(t, "with a weight", s, api.Signal{Table: table, Weight: weight}, true)
			}
		}
	}
}

func TestParseOfBlanks(t *testing.T) {
	none(t, "none ahead of the table", "snapshot3", "snapshot3 1")
	none(t, "two ahead of the table", "snapshot  3", "snapshot  3 1")
	none(t, "none ahead of the weight", "snapshot 31", "snapshot 11", "snapshot 78")
	none(t, "two ahead of the weight", "snapshot 3  1", "snapshot 0  8")
	none(t, "three", "snapshot   3", "snapshot 3   1")
	none(t, "one ahead of all", " snapshot 3", " snapshot 3 1")
	none(t, "one behind all", "snapshot 3 ", "snapshot 3 1 ", "snapshot  ")
	none(t, "blanks alone", " ", "  ", "   ")
	for _, s := range []string{"\t", "\n", "\r", "\v", "\f", "\x00", "\u00a0", "\u2003", "_", "-", ","} {
		none(t, "what is no blank", "snapshot"+s+"3", "snapshot"+s+"3 1", "snapshot 3"+s+"1", "snapshot 3"+s, "snapshot 3 1"+s, s+"snapshot 3")
	}
}

func TestParseOfAnotherWord(t *testing.T) {
	for _, s := range []string{"SNAPSHOT", "Snapshot", "snapShot", "snapshoT", "snapshots", "snapsho", "napshot", "snap", "snap shot", "snapshotsnapshot", "tohspans", "\"snapshot\"", "snapshot:", "\ufeffsnapshot", "\u017fnapshot", "sn\u0430pshot"} {
		none(t, "another word", s, s+" ", s+" 3", s+" 3 1")
	}
	none(t, "no word", "", "3", " 3", "3 1", " 3 1")
	none(t, "twice", "snapshot snapshot 3", "snapshot snapshot", "snapshot 3snapshot 3", "snapshot 3 snapshot 3")
}

// TestParseOfWordsCut: a signal that ends anywhere, or begins later, is another one, or none.
func TestParseOfWordsCut(t *testing.T) {
	all := signals()
	for s := range all {
		for n := range s {
			right(t, "cut off", s[:n], all)
			none(t, "the beginning cut off", s[n+1:])
		}
	}
	none(t, "cut off in the word", "s", "sn", "sna", "snap", "snaps", "snapsh", "snapsho", "snapshot", "snapshot ")
}

func TestParseOfOtherNumbers(t *testing.T) {
	for _, n := range []string{"", "+1", "-1", "-0", "+", "-", "01", "00", "10", "11", "18", "77", "256", "257", "1.", ".1", "1e0", "0x1", "1_0", "x", "a", "O", "l", "/", ":", "\x01", "\x00", "\u0661", "\uff11", "\u00b9", "4294967297", "18446744073709551617"} {
		none(t, "for the table", "snapshot "+n, "snapshot "+n+" 1")
		none(t, "for the weight", "snapshot 3 "+n)
	}
}

func TestParseWithMoreBehind(t *testing.T) {
	all := signals()
	for s := range all {
		for _, more := range []string{" ", "\x00", "\n", "x", "1", "  ", " 1 ", " 1 1", " 11", "  1", "\xff", ";", s, " " + s} {
			none(t, "more behind", s+more)
		}
		right(t, "a weight behind", s+" 1", all)
	}
	none(t, "much behind", "snapshot 3"+strings.Repeat(" 1", 1000), "snapshot 3"+strings.Repeat(" ", api.MaxText), strings.Repeat("snapshot 3", api.MaxText))
}

// TestParseOfAnotherByte goes through all texts that are a byte away from a signal: another one, one less, one more.
func TestParseOfAnotherByte(t *testing.T) {
	all := signals()
	for s := range all {
		for at := range len(s) + 1 {
			ahead, behind := s[:at], s[at:]
			if behind != "" {
				right(t, "one less", ahead+behind[1:], all)
			}
			for v := range 256 {
				one := string([]byte{byte(v)})
				right(t, "one more", ahead+one+behind, all)
				if behind != "" {
					right(t, "another one", ahead+one+behind[1:], all)
				}
			}
		}
	}
}

// TestParseOfAnyBytes goes through all bytes in the places of the blanks and the digits.
func TestParseOfAnyBytes(t *testing.T) {
	all := signals()
	for x := range 256 {
		a := string([]byte{byte(x)})
		right(t, "one byte behind the word", "snapshot"+a, all)
		for y := range 256 {
			b := string([]byte{byte(y)})
			right(t, "a blank, and a digit", "snapshot"+a+b, all)
			right(t, "both digits", "snapshot "+a+" "+b, all)
			right(t, "both blanks", "snapshot"+a+"3"+b+"1", all)
			right(t, "a digit, and what is behind it", "snapshot "+a+b, all)
			right(t, "a blank, and the weight", "snapshot 3"+a+b, all)
		}
	}
}

// TestParseOfFewLetters goes through all texts of a few letters that a signal may have behind its blank.
func TestParseOfFewLetters(t *testing.T) {
	all := signals()
	letters := " 01789s"
	texts := []string{"snapshot "}
	for len(texts[0]) < len("snapshot 3 1 1") {
		var longer []string
		for _, s := range texts {
			right(t, "few letters", s, all)
			for i := range letters {
				longer = append(longer, s+letters[i:i+1])
			}
		}
		texts = longer
	}
}

func TestParseOfBytesAbove127(t *testing.T) {
	none(t, "above 127", "\x80", "\xff", "\xff\xfe", "snapshot \xb3", "snapshot 3\xa01", "snapshot\xa03", "snapshot 3 \xb1", "\xf3napshot 3", "snapshot 3\xff", "\xffsnapshot 3", "snapshot \u0663", "snapshot 3 \u0661", "\u00e9", "\U0001f4f7 3")
	high := []byte("snapshot 3 1")
	for i := range high {
		high[i] |= 0x80
		none(t, "above 127, from the front", string(high))
	}
}

func TestTextOfEachSignal(t *testing.T) {
	for table := range 8 {
		for weight := 1; weight <= 8; weight++ {
			want := "snapshot " + digits[table:table+1] + " " + digits[weight:weight+1]
			written(t, "a signal", api.Signal{Table: table, Weight: weight}, want, true)
		}
	}
}

func TestTextOfWhatMayNotBe(t *testing.T) {
	numbers := []int{math.MinInt, math.MinInt32, -1 << 40, -256, -255, -248, -10, -9, -8, -2, -1, 0, 1, 4, 7, 8, 9, 10, 11, 18, 255, 256, 257, 264, 1 << 16, 1<<31 - 1, 1 << 31, 1 << 32, 1<<32 + 1, 1 << 40, math.MaxInt}
	for _, table := range numbers {
		for _, weight := range numbers {
			if table >= 0 && table <= 7 && weight >= 1 && weight <= 8 {
				continue
			}
			written(t, "what may not be", api.Signal{Table: table, Weight: weight}, "", false)
		}
	}
	written(t, "zero", api.Signal{}, "", false)
}

func TestParseOfText(t *testing.T) {
	seen := map[string]bool{}
	for table := range 8 {
		for weight := 1; weight <= 8; weight++ {
			g := api.Signal{Table: table, Weight: weight}
			s, ok := Text(g)
			if !ok || seen[s] || len(s) > api.MaxSignal {
				t.Errorf("Text(%v): got %q, %v", g, s, ok)
			}
			seen[s] = true
			parsed(t, "Parse of Text", s, g, true)
		}
	}
}

// TestTextOfParse: the text of what a signal says is that signal with its weight.
func TestTextOfParse(t *testing.T) {
	for s := range signals() {
		g, _ := Parse(s)
		want := s
		if len(s) == len("snapshot 3") {
			want += " 1"
		}
		written(t, "Text of Parse", g, want, true)
	}
}
