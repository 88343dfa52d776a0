package text_test

import (
	"fmt"
	"math"
	"math/big"
	"math/rand"
	"strings"
	"testing"

	"tinsel/api"
	"tinsel/number"
	"tinsel/text"
)

// The model tells each call another way: by whole strings, by numbers of any size, by recursion.

// unit is a line of the model: its text and its end, a line feed or nothing.
type unit struct{ text, end string }

func modelLines(s string) []unit {
	var l []unit
	for _, x := range strings.SplitAfter(s, "\n") {
		if rest, ended := strings.CutSuffix(x, "\n"); ended {
			l = append(l, unit{rest, "\n"})
		} else if x != "" {
			l = append(l, unit{x, ""})
		}
	}
	return l
}

// modelMap: each line by a function, ended as it is.
func modelMap(s string, f func(string) string) string {
	out := ""
	for _, x := range modelLines(s) {
		out += f(x.text) + x.end
	}
	return out
}

// modelPick: those of all units that hold, by their numbers from 1 on.
func modelPick(l []string, holds func(n *big.Int) bool) string {
	out := ""
	for i, x := range l {
		if holds(big.NewInt(int64(i + 1))) {
			out += x
		}
	}
	return out
}

// parted: a text as lines with their ends, or as bytes.
func parted(s string, lines bool) []string {
	var l []string
	if lines {
		for _, x := range modelLines(s) {
			l = append(l, x.text+x.end)
		}
		return l
	}
	for i := range len(s) {
		l = append(l, s[i:i+1])
	}
	return l
}

func modelHead(s string, n int, lines bool) string {
	l := parted(s, lines)
	most := big.NewInt(int64(n))
	if n < 0 {
		most.Add(most, big.NewInt(int64(len(l))))
	}
	return modelPick(l, func(k *big.Int) bool { return k.Cmp(most) <= 0 })
}

func modelTail(s string, n int, from, lines bool) string {
	l := parted(s, lines)
	least := big.NewInt(int64(n))
	if !from {
		least.Sub(big.NewInt(int64(len(l)+1)), big.NewInt(int64(max(n, 0))))
	}
	return modelPick(l, func(k *big.Int) bool { return k.Cmp(least) >= 0 })
}

func modelCount(s string) string {
	longest := 0
	for _, x := range modelLines(s) {
		longest = max(longest, len(x.text))
	}
	words := strings.FieldsFunc(strings.ToValidUTF8(s, "?"), func(r rune) bool { return strings.ContainsRune(" \t\n\v\f\r", r) })
	return fmt.Sprint(strings.Count(s, "\n"), len(words), len(s), longest)
}

func modelCutBytes(s string, l []api.Range) string {
	out := ""
	for _, x := range modelLines(s) {
		out += modelPick(parted(x.text, false), func(k *big.Int) bool { return number.Has(l, int(k.Int64())) }) + "\n"
	}
	return out
}

func modelCutFields(s string, l []api.Range, delim byte, only bool) string {
	out, d := "", string([]byte{delim})
	for _, x := range modelLines(s) {
		fields := strings.Split(x.text, d)
		if len(fields) == 1 {
			if delim == '\n' || !only {
				out += x.text + "\n"
			}
			continue
		}
		var chosen []string
		for i, f := range fields {
			if number.Has(l, i+1) {
				chosen = append(chosen, f)
			}
		}
		out += strings.Join(chosen, d) + "\n"
	}
	return out
}

func modelRev(text string) string {
	out := ""
	for i := range len(text) {
		out = text[i:i+1] + out
	}
	return out
}

func modelTac(s string) string {
	out := ""
	for _, x := range modelLines(s) {
		out = x.text + x.end + out
	}
	return out
}

func modelNumber(s string, start, step, width int, all bool) string {
	n := big.NewInt(int64(start))
	width = max(1, min(width, 100))
	return modelMap(s, func(text string) string {
		if text == "" && !all || !n.IsInt64() {
			return blanks(width+1) + text
		}
		out := fmt.Sprintf("%*s\t%s", width, n.String(), text)
		n.Add(n, big.NewInt(int64(step)))
		return out
	})
}

// modelJoin: texts with delims between, drawn from delims written down again and again.
func modelJoin(l []string, delims string) string {
	out, left := "", strings.Repeat(delims, len(l))
	for i, x := range l {
		if i > 0 && left != "" {
			out, left = out+left[:1], left[1:]
		}
		out += x
	}
	return out + "\n"
}

func modelPaste(l []string, delims string) string {
	out := ""
	for n := 0; ; n++ {
		row, more := make([]string, len(l)), false
		for i, s := range l {
			if lines := modelLines(s); n < len(lines) {
				row[i], more = lines[n].text, true
			}
		}
		if !more {
			return out
		}
		out += modelJoin(row, delims)
	}
}

func modelSerial(l []string, delims string) string {
	out := ""
	for _, s := range l {
		var row []string
		for _, x := range modelLines(s) {
			row = append(row, x.text)
		}
		out += modelJoin(row, delims)
	}
	return out
}

// modelColumn: the column behind a piece.
func modelColumn(piece string) int {
	n := 0
	for _, c := range []byte(piece) {
		if c == '\t' {
			n = (n/8 + 1) * 8
		} else if c == '\b' {
			if n > 0 {
				n--
			}
		} else if c == '\r' {
			n = 0
		} else {
			n++
		}
	}
	return n
}

// modelFold: a line is broken once, and what is left of it is a line again.
func modelFold(s string, width int, words bool) string {
	for i := range len(s) {
		if modelColumn(s[:i]) == 0 || modelColumn(s[:i+1]) <= width {
			continue
		}
		cut := i
		if blank := strings.LastIndexAny(s[:i], " \t"); words && blank >= 0 {
			cut = blank + 1
		}
		return s[:cut] + "\n" + modelFold(s[cut:], width, words)
	}
	return s
}

// modelStop: the first stop behind a column; nil: there is none.
func modelStop(column *big.Int, stops []int) *big.Int {
	if len(stops) == 0 {
		stops = []int{8}
	}
	if len(stops) == 1 {
		s := big.NewInt(int64(stops[0]))
		n := new(big.Int).Div(column, s)
		return n.Mul(n.Add(n, big.NewInt(1)), s)
	}
	for _, s := range stops {
		if n := big.NewInt(int64(s)); n.Cmp(column) > 0 {
			return n
		}
	}
	return nil
}

// modelAfter: the column behind a byte, by stops.
func modelAfter(column *big.Int, c byte, stops []int) *big.Int {
	one := big.NewInt(1)
	switch c {
	case '\t':
		if stop := modelStop(column, stops); stop != nil {
			return stop
		}
	case '\b':
		if column.Sign() == 0 {
			return column
		}
		return new(big.Int).Sub(column, one)
	case '\r':
		return new(big.Int)
	}
	return new(big.Int).Add(column, one)
}

func modelExpand(line string, stops []int) string {
	out, column := "", new(big.Int)
	for i := range len(line) {
		next := modelAfter(column, line[i], stops)
		if line[i] == '\t' {
			out += blanks(int(new(big.Int).Sub(next, column).Int64()))
		} else {
			out += line[i : i+1]
		}
		column = next
	}
	return out
}

// modelRun: tabs to each stop from a column to another, then blanks.
func modelRun(from, to *big.Int, stops []int) string {
	out := ""
	for {
		stop := modelStop(from, stops)
		if stop == nil || stop.Cmp(to) > 0 {
			return out + blanks(int(new(big.Int).Sub(to, from).Int64()))
		}
		out, from = out+"\t", stop
	}
}

func modelUnexpand(line string, stops []int, all bool) string {
	out, column := "", new(big.Int)
	for i := 0; i < len(line); {
		rest := strings.TrimLeft(line[i:], " \t")
		run := line[i : len(line)-len(rest)]
		if run == "" {
			column = modelAfter(column, line[i], stops)
			out, i = out+line[i:i+1], i+1
			continue
		}
		end := column
		for _, c := range []byte(run) {
			end = modelAfter(end, c, stops)
		}
		if i > 0 && (!all || run == " ") {
			out += run
		} else {
			out += modelRun(column, end, stops)
		}
		column, i = end, i+len(run)
	}
	return out
}

func modelCmp(a, b string) string {
	for i := range max(len(a), len(b)) {
		if i >= len(a) || i >= len(b) || a[i] != b[i] {
			return fmt.Sprint(i+1, 1+strings.Count(a[:i], "\n"))
		}
	}
	return "0 0"
}

func modelOd(s string, base int) string {
	form := map[int]string{8: " %03o", 10: " %3d", 16: " %02x"}[base]
	out := ""
	for i := range len(s) {
		if i%16 == 0 {
			out += fmt.Sprintf("\n%07o", i)
		}
		out += fmt.Sprintf(form, s[i])
	}
	return strings.TrimPrefix(out+fmt.Sprintf("\n%07o\n", len(s)), "\n")
}

func modelSplit(s string, n int, lines bool, prefix string) string {
	var names, l []string
	for i, x := range parted(s, lines) {
		if i%n == 0 {
			names = append(names, prefix+string(rune('a'+i/n/26))+string(rune('a'+i/n%26)))
			l = append(l, "")
		}
		l[len(l)-1] += x
	}
	if len(l) > 676 {
		return "[] [] 34"
	}
	return fmt.Sprintf("%q %q 0", names, l)
}

// against: all calls of a text and of what a number draws, held against the model.
func against(t *testing.T, s string, r *rand.Rand) {
	t.Helper()
	b := []byte(s)
	n := r.Intn(12) - 4
	if r.Intn(20) == 0 {
		n = farInts[r.Intn(len(farInts))]
	}
	flag, lines := r.Intn(2) == 0, r.Intn(2) == 0
	if lines {
		told(t, fmt.Sprintf("Head(%q, %d)", s, n), string(text.Head(b, n)), modelHead(s, n, true))
		told(t, fmt.Sprintf("Tail(%q, %d, %v)", s, n, flag), string(text.Tail(b, n, flag)), modelTail(s, n, flag, true))
	} else {
		told(t, fmt.Sprintf("HeadBytes(%q, %d)", s, n), string(text.HeadBytes(b, n)), modelHead(s, n, false))
		told(t, fmt.Sprintf("TailBytes(%q, %d, %v)", s, n, flag), string(text.TailBytes(b, n, flag)), modelTail(s, n, flag, false))
	}
	told(t, fmt.Sprintf("Count(%q)", s), counted(s), modelCount(s))
	told(t, fmt.Sprintf("Rev(%q)", s), string(text.Rev(b)), modelMap(s, modelRev))
	told(t, fmt.Sprintf("Tac(%q)", s), string(text.Tac(b)), modelTac(s))
	step, width := r.Intn(7)-3, r.Intn(9)-1
	told(t, fmt.Sprintf("Number(%q, %d, %d, %d, %v)", s, n, step, width, flag), string(text.Number(b, n, step, width, flag)), modelNumber(s, n, step, width, flag))
	againstCut(t, s, r)
	againstColumns(t, s, r)
	other := s[:r.Intn(len(s)+1)] + []string{"", "a", "\n", s}[r.Intn(4)]
	at, line := text.Cmp(b, []byte(other))
	told(t, fmt.Sprintf("Cmp(%q, %q)", s, other), fmt.Sprint(at, line), modelCmp(s, other))
	base := []int{8, 10, 16}[r.Intn(3)]
	told(t, fmt.Sprintf("Od(%q, %d)", s, base), answer(text.Od(b, base)), modelOd(s, base))
	size := 1 + r.Intn(6)
	told(t, fmt.Sprintf("Split(%q, %d, 0)", s, size), pieces(s, size, 0, "x"), modelSplit(s, size, true, "x"))
	told(t, fmt.Sprintf("Split(%q, 0, %d)", s, size), pieces(s, 0, size, ""), modelSplit(s, size, false, ""))
}

// againstCut: likewise Cut and Paste.
func againstCut(t *testing.T, s string, r *rand.Rand) {
	t.Helper()
	var l []api.Range
	for range r.Intn(4) {
		l = append(l, api.Range{Lo: r.Intn(9) - 1, Hi: r.Intn(9) - 1})
	}
	only, delim := r.Intn(2) == 0, " \ta\n\x00\xff"[r.Intn(6)]
	told(t, fmt.Sprintf("CutBytes(%q, %v)", s, l), string(text.CutBytes([]byte(s), l)), modelCutBytes(s, l))
	told(t, fmt.Sprintf("CutFields(%q, %v, %q, %v)", s, l, delim, only), string(text.CutFields([]byte(s), l, delim, only)), modelCutFields(s, l, delim, only))
	var texts []string
	for range r.Intn(4) {
		texts = append(texts, s[:r.Intn(len(s)+1)])
	}
	texts = append(texts, s)
	delims := "01234"[:r.Intn(6)]
	told(t, fmt.Sprintf("Paste(%q, %q)", texts, delims), string(text.Paste(list(texts...), delims)), modelPaste(texts, delims))
	told(t, fmt.Sprintf("Serial(%q, %q)", texts, delims), string(text.Serial(list(texts...), delims)), modelSerial(texts, delims))
}

// drawStops: none, one, or several; far: at an int's end, too.
func drawStops(r *rand.Rand, far bool) []int {
	var l []int
	last := 0
	for range r.Intn(5) {
		last += 1 + r.Intn(5)
		l = append(l, last)
	}
	if far && r.Intn(3) == 0 {
		l = append(l, math.MaxInt)
	}
	return l
}

// againstColumns: likewise Fold, Expand, Unexpand.
func againstColumns(t *testing.T, s string, r *rand.Rand) {
	t.Helper()
	width, words := 1+r.Intn(20), r.Intn(2) == 0
	told(t, fmt.Sprintf("Fold(%q, %d, %v)", s, width, words), answer(text.Fold([]byte(s), width, words)), modelMap(s, func(x string) string { return modelFold(x, width, words) }))
	stops := drawStops(r, false)
	expands(t, s, stops, modelMap(s, func(x string) string { return modelExpand(x, stops) }))
	stops = drawStops(r, true)
	all := r.Intn(3) > 0
	told(t, fmt.Sprintf("Unexpand(%q, %v, %v)", s, stops, all), answer(text.Unexpand([]byte(s), stops, all)), modelMap(s, func(x string) string { return modelUnexpand(x, stops, all) }))
}

// Every short text of a few bytes, with what is drawn beside it.
func TestModelOfShortTexts(t *testing.T) {
	r := rand.New(rand.NewSource(15))
	for _, letters := range []string{"a\n", "a \n", " \t\n", "a \t\b\r\n"} {
		most := map[int]int{2: 9, 3: 7, 6: 5}[len(letters)]
		for _, s := range everyText(letters, most) {
			against(t, s, r)
		}
		if t.Failed() {
			return
		}
	}
}

// Longer texts, drawn from fixed seeds.
func TestModelOfDrawnTexts(t *testing.T) {
	for seed := range int64(6000) {
		r := rand.New(rand.NewSource(seed))
		letters := []string{"ab  \n", "a \t\n", "ab \t\b\r\n", "    \t\ta\n", "aaaaaaa \b\r", "\x00\xff\v\f \n", "a\b\b  \t"}[seed%7]
		var b strings.Builder
		for range r.Intn(80) {
			b.WriteByte(letters[r.Intn(len(letters))])
		}
		against(t, b.String(), r)
		if t.Failed() {
			t.Fatalf("seed %d", seed)
		}
	}
}

// Every short line by every width, and by some stops, with both flags.
func TestModelOfColumns(t *testing.T) {
	stops := [][]int{nil, {1}, {2}, {3}, {1, 2}, {1, 3}, {2, 3, 5}, {math.MaxInt}, {2, math.MaxInt}, {math.MaxInt - 1, math.MaxInt}}
	for _, s := range everyText("a \t\b\r", 6) {
		for _, flag := range []bool{false, true} {
			for _, width := range []int{1, 2, 3, 4, 7, 8, 9} {
				told(t, fmt.Sprintf("Fold(%q, %d, %v)", s, width, flag), answer(text.Fold([]byte(s), width, flag)), modelFold(s, width, flag))
			}
			for _, l := range stops {
				told(t, fmt.Sprintf("Unexpand(%q, %v, %v)", s, l, flag), answer(text.Unexpand([]byte(s), l, flag)), modelUnexpand(s, l, flag))
			}
		}
		for _, l := range stops[:7] {
			expands(t, s, l, modelExpand(s, l))
		}
	}
}
