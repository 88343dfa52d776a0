package page_test

import (
	"fmt"
	"strings"
	"testing"

	"tinsel/api"
	"tinsel/page"
)

// reads: what Read tells of a text.
func reads(t *testing.T, b, want string) {
	t.Helper()
	told(t, "Read "+brief(b), laid(page.Read([]byte(b))), want)
}

// P17.4: words with their places.
func TestRead(t *testing.T) {
	reads(t, "a  b\n c", "a 0,0|b 3,0|c 1,1")
	reads(t, "a  b\n c\n", "a 0,0|b 3,0|c 1,1")
	reads(t, "a", "a 0,0")
	reads(t, "a\n", "a 0,0")
	reads(t, "abc def", "abc 0,0|def 4,0")
	reads(t, "  abc  def  ", "abc 2,0|def 7,0")
	reads(t, "a\nb\nc", "a 0,0|b 0,1|c 0,2")
	reads(t, "\na\n\n\n b\n", "a 0,1|b 1,4")
	reads(t, "a b\nc d\n\ne f", "a 0,0|b 2,0|c 0,1|d 2,1|e 0,3|f 2,3")
	reads(t, "a \n b", "a 0,0|b 1,1")
	reads(t, "\n\n\nx", "x 0,3")
	reads(t, "x\n\n\n", "x 0,0")
}

// P17.4: no words.
func TestReadNothing(t *testing.T) {
	for _, b := range []string{"", " ", "\t", "   ", " \t \t ", "\n", "\n\n\n", " \n\t\n ", "\t\n"} {
		reads(t, b, "")
	}
	told(t, "Read of nil", laid(page.Read(nil)), "")
}

// P17.4: columns as Move counts: tabs.
func TestReadTabs(t *testing.T) {
	reads(t, "\ta", "a 8,0")
	reads(t, "\t\ta", "a 16,0")
	reads(t, "a\tb", "a 0,0|b 8,0")
	reads(t, "a\tb\tc", "a 0,0|b 8,0|c 16,0")
	reads(t, "1234567\tb", "1234567 0,0|b 8,0")
	reads(t, "12345678\tb", "12345678 0,0|b 16,0")
	reads(t, "a \tb", "a 0,0|b 8,0")
	reads(t, "a\t b", "a 0,0|b 9,0")
	reads(t, "       \tb", "b 8,0")
	reads(t, "        \tb", "b 16,0")
	reads(t, "a\tb\n\tc\n  \td", "a 0,0|b 8,0|c 8,1|d 8,2")
}

// P17.4: byte 8 and byte 13 are part of words, and move what stands behind them.
func TestReadBytesThatMove(t *testing.T) {
	reads(t, "ab\b c", "ab\b 0,0|c 2,0")
	reads(t, "\ba", "\ba 0,0")
	reads(t, "a\b\b\b b", "a\b\b\b 0,0|b 1,0")
	reads(t, "  \ba c", "\ba 2,0|c 3,0")
	reads(t, "\ta\b\b\b b", "a\b\b\b 8,0|b 7,0")
	reads(t, "ab\rc d", "ab\rc 0,0|d 2,0")
	reads(t, "ab \rc d", "ab 0,0|\rc 3,0|d 2,0")
	reads(t, "ab \r c", "ab 0,0|\r 3,0|c 1,0")
	reads(t, "ab\r\ncd\r\n", "ab\r 0,0|cd\r 0,1")
	reads(t, "abc\r\t d", "abc\r 0,0|d 9,0")
	reads(t, "\b\n\r\na", "\b 0,0|\r 0,1|a 0,2")
}

// P17.4: only blanks and line feeds part words.
func TestReadAnyBytes(t *testing.T) {
	for c := range 256 {
		s := string([]byte{byte(c)})
		want := fmt.Sprintf("ax%sbx 0,0|c 6,0", s)
		switch s {
		case " ":
			want = "ax 0,0|bx 3,0|c 6,0"
		case "\t":
			want = "ax 0,0|bx 8,0|c 11,0"
		case "\n":
			want = "ax 0,0|bx 0,1|c 3,1"
		case "\r":
			want = "ax\rbx 0,0|c 3,0"
		case "\b":
			want = "ax\bbx 0,0|c 4,0"
		}
		reads(t, "ax"+s+"bx c", want)
	}
	reads(t, "\u00e4 b", "\u00e4 0,0|b 3,0") // two bytes
	reads(t, "a\u00a0b\u2003c d", "a\u00a0b\u2003c 0,0|d 9,0")
	reads(t, "\x00 \x00", "\x00 0,0|\x00 2,0")
}

// P17.4: long words, long lines, many lines.
func TestReadMuch(t *testing.T) {
	long := strings.Repeat("x", 5000)
	reads(t, long+" y "+long, long+" 0,0|y 5001,0|"+long+" 5003,0")
	var b, want []string
	for i := range 3000 {
		b = append(b, blanks(i%7)+"w")
		want = append(want, fmt.Sprintf("w %d,%d", i%7, i))
	}
	reads(t, strings.Join(b, "\n"), strings.Join(want, "|"))
}

// P17.7: Read of Draw tells words of one row without overlap again; in whatever order they are drawn.
func TestReadOfDraw(t *testing.T) {
	for _, l := range []string{
		"", "a 0,0", "a 3,0", "ab 0,0|cd 3,0", "ab 1,4|cd 9,4|e 12,4", "x 999,0", "x 0,999|y 998,999", "\x00\xff 2,1|\u00e4 5,1|z 999,1",
	} {
		b, e := page.Draw(items(l))
		told(t, "Read of Draw "+l, laid(page.Read(b))+e.Error(), l+"Success")
		turned := items(l)
		for i, j := 0, len(turned)-1; i < j; i, j = i+1, j-1 {
			turned[i], turned[j] = turned[j], turned[i]
		}
		b, _ = page.Draw(turned)
		told(t, "Read of Draw backwards "+l, laid(page.Read(b)), l)
	}
	for row := range 20 {
		var l []api.Item
		column := row % 3
		for i := range 60 {
			l = append(l, item(strings.Repeat("w", 1+i*row%7), complex(float64(column), float64(row*50))))
			column += len(l[i].Text) + 1 + i%4
		}
		b, _ := page.Draw(l)
		told(t, "Read of Draw of many", laid(page.Read(b)), laid(l))
	}
}

// P17.7: so it does of what Columns and Across lay, if they lay it in one row, and by rows of all that Across lays.
func TestReadOfColumns(t *testing.T) {
	texts := strings.Fields("the quick brown fox jumps over a lazy dog and runs away from it all")
	for width := 9; width < 80; width++ {
		l, _ := page.Across(texts, width, 1+width%3)
		b, e := page.Draw(l)
		told(t, fmt.Sprint("Across ", width), laid(page.Read(b))+e.Error(), laid(l)+"Success")
	}
	l, _ := page.Columns(texts, 1000, 2)
	b, _ := page.Draw(l)
	told(t, "Columns in one row", laid(page.Read(b)), laid(l))
}
