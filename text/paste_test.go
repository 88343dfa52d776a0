package text_test

import (
	"fmt"
	"strings"
	"testing"

	"tinsel/text"
)

// P15.5: line by line, and each text in a line.
func TestPasteAndSerial(t *testing.T) {
	for _, x := range []struct {
		l             []string
		delims        string
		paste, serial string
	}{
		{nil, ",", "", ""},
		{nil, "", "", ""},
		{[]string{""}, ",", "", "\n"},
		{[]string{"", ""}, ",", "", "\n\n"},
		{[]string{"a"}, ",", "a\n", "a\n"},
		{[]string{"a\n"}, ",", "a\n", "a\n"},
		{[]string{"\n"}, ",", "\n", "\n"},
		{[]string{"\n\n"}, ",", "\n\n", ",\n"},
		{[]string{"a\nb\nc"}, ",", "a\nb\nc\n", "a,b,c\n"},
		{[]string{"a\nb\nc"}, ",;", "a\nb\nc\n", "a,b;c\n"},
		{[]string{"a\nb\nc\nd\ne\n"}, ",;", "a\nb\nc\nd\ne\n", "a,b;c,d;e\n"},
		{[]string{"a\nb\nc\n"}, "", "a\nb\nc\n", "abc\n"},
		{[]string{"a\nb\n", "1\n"}, ",", "a,1\nb,\n", "a,b\n1\n"},
		{[]string{"1\n", "a\nb\n"}, ",", "1,a\n,b\n", "1\na,b\n"},
		{[]string{"a\nb", "1\n2"}, ",", "a,1\nb,2\n", "a,b\n1,2\n"},
		{[]string{"a\nb\n", "", "1\n"}, ",", "a,,1\nb,,\n", "a,b\n\n1\n"},
		{[]string{"", "a\nb\n"}, ",", ",a\n,b\n", "\na,b\n"},
		{[]string{"a\n", "b\n", "c\n", "d\n"}, ",;", "a,b;c,d\n", "a\nb\nc\nd\n"},
		{[]string{"a\n1\n", "b\n2\n", "c\n3\n", "d\n4\n"}, ",;.", "a,b;c.d\n1,2;3.4\n", "a,1\nb,2\nc,3\nd,4\n"},
		{[]string{"a\n1\n", "b\n2\n", "c\n3\n"}, ",;.!", "a,b;c\n1,2;3\n", "a,1\nb,2\nc,3\n"},
		{[]string{"a\n1\n", "b\n2\n", "c\n3\n"}, ",", "a,b,c\n1,2,3\n", "a,1\nb,2\nc,3\n"},
		{[]string{"a\nb\nc\n", "1\n", "x\ny\n"}, "", "a1x\nby\nc\n", "abc\n1\nxy\n"},
		{[]string{"", "a\nb\n", "", "1\n2\n3"}, "", "a1\nb2\n3\n", "\nab\n\n123\n"},
		{[]string{"a\n\nb\n", "\n\n"}, ",", "a,\n,\nb,\n", "a,,b\n,\n"},
		{[]string{"a", "b", "c"}, "\x00\xff", "a\x00b\xffc\n", "a\nb\nc\n"},
		{[]string{"a", "b"}, "\n", "a\nb\n", "a\nb\n"},
		{[]string{"a\nb", "c\nd"}, "\n", "a\nc\nb\nd\n", "a\nb\nc\nd\n"},
		{[]string{"a", "b", "c"}, "é", "a\xc3b\xa9c\n", "a\nb\nc\n"},
		{[]string{"a", "b", "c"}, `\t`, "a\\btc\n", "a\nb\nc\n"},
		{[]string{"\x00\n\xff", "é"}, "\t", "\x00\té\n\xff\t\n", "\x00\t\xff\né\n"},
	} {
		is(t, fmt.Sprintf("Paste(%q, %q)", x.l, x.delims), text.Paste(list(x.l...), x.delims), x.paste)
		is(t, fmt.Sprintf("Serial(%q, %q)", x.l, x.delims), text.Serial(list(x.l...), x.delims), x.serial)
	}
	is(t, "Paste of nils", text.Paste([][]byte{nil, []byte("a"), {}}, ","), ",a,\n")
	is(t, "Serial of nils", text.Serial([][]byte{nil, []byte("a"), {}}, ","), "\na\n\n")
}

// P15.5: the delims begin anew in each line, behind the last of them, too.
func TestDelimsInTurn(t *testing.T) {
	for texts := 1; texts < 12; texts++ {
		for n := 1; n < 14; n++ {
			delims := "0123456789ABC"[:n]
			line := ""
			for i := range texts {
				if i > 0 {
					line += delims[(i-1)%n : (i-1)%n+1]
				}
				line += "x"
			}
			l := make([][]byte, texts)
			for i := range l {
				l[i] = []byte("x\nx\nx")
			}
			is(t, fmt.Sprint(texts, " texts, ", delims), text.Paste(l, delims), strings.Repeat(line+"\n", 3))
			one := []byte(strings.Repeat("x\n", texts))
			is(t, fmt.Sprint(texts, " lines, ", delims), text.Serial([][]byte{one, one}, delims), line+"\n"+line+"\n")
		}
	}
}
