package line

import (
	"math/rand"
	"slices"
	"strings"
	"testing"

	"cattlecreep/api"
)

// The limits as numbers: a text has at most 3000 bytes and 60 lines, a key has 1 to 30 bytes, and a value has at most 70.
const (
	mostText  = 3000
	mostLines = 60
	mostKey   = 30
	mostValue = 70

	letters = "abcdefghijklmnopqrstuvwxyz_"
	printed = "!\"#$%&'()*+,-./0123456789:;<=>?@ABCDEFGHIJKLMNOPQRSTUVWXYZ[\\]^_`abcdefghijklmnopqrstuvwxyz{|}~"
)

// noKeys are wrong by their bytes; in some, a part or a rune would be right.
var noKeys = []string{
	"A", "Z", "aB", "Ba", "aBa", "0", "a0", "-", "a-b", "a b", " a", "a ", "a\t", "\x00", "a\x00", "a\n", "a\r", "a=", "=", "`", "{", "@",
	"é", "aé", "ａ", "\x7f", "\x80", "\xff", "a\xff", "\xe1", "\xdf", "public key", "Public_key", "public_keY",
}

// noValues: likewise.
var noValues = []string{
	" ", "a ", " a", "a b", "\t", "a\t", "\n", "a\n", "\r", "a\r", "\x00", "a\x00b", "\x1f", "\x7f", "a\x7f", "\x80", "\xa1", "\xff", "a\xff", "é", "aé", "ａ", "\u00a0", "\u2028",
}

// long string of n bytes that differ from place to place.
func long(bytes string, n int) string {
	b := make([]byte, n)
	for i := range b {
		b[i] = bytes[(i*i+5*i)%len(bytes)]
	}
	return string(b)
}

// lineError is what Check is to return, by the words of the chapter.
func lineError(l api.Line) api.Errno {
	if len(l.Key) < 1 || len(l.Key) > mostKey || len(l.Value) > mostValue {
		return api.ErrSize
	}
	for _, c := range []byte(l.Key) {
		if strings.IndexByte(letters, c) < 0 {
			return api.ErrForm
		}
	}
	for _, c := range []byte(l.Value) {
		if c < 33 || c > 126 {
			return api.ErrForm
		}
	}
	return api.OK
}

// parts of a text between its line feeds.
func parts(s string) []string {
	if s == "" {
		return nil
	}
	list := []string{""}
	for _, c := range []byte(s) {
		last := len(list) - 1
		if c == 10 {
			list = append(list, "")
		} else {
			list[last] += string([]byte{c})
		}
	}
	return list
}

// wantSplit is what Split is to return, by the words of the chapter.
func wantSplit(s string) ([]api.Line, int, api.Errno) {
	if len(s) > mostText {
		return nil, 0, api.ErrSize
	}
	list := parts(s)
	if len(list) > mostLines {
		return nil, 0, api.ErrSize
	}
	var lines []api.Line
	for i, part := range list {
		at := strings.IndexByte(part, '=')
		if at < 0 {
			return nil, i + 1, api.ErrForm
		}
		l := api.Line{Key: part[:at], Value: part[at+1:]}
		if err := lineError(l); err != api.OK {
			return nil, i + 1, err
		}
		lines = append(lines, l)
	}
	return lines, 0, api.OK
}

// wantJoin is what Join is to return, by the words of the chapter.
func wantJoin(l []api.Line) (string, api.Errno) {
	if len(l) > mostLines {
		return "", api.ErrSize
	}
	s := ""
	for i, x := range l {
		if err := lineError(x); err != api.OK {
			return "", err
		}
		if i > 0 {
			s += "\n"
		}
		s += x.Key + "=" + x.Value
	}
	if len(s) > mostText {
		return "", api.ErrSize
	}
	return s, api.OK
}

// checkLine: Check says of a line what it is to say, and so do Split and Join.
func checkLine(t *testing.T, l api.Line, want api.Errno) {
	t.Helper()
	if got := Check(l); got != want {
		t.Errorf("Check(%q) = %d, want %d", l, got, want)
	}
	checkJoin(t, []api.Line{l}, want)
	checkSplit(t, l.Key+"="+l.Value)
}

// checkSplit: Split returns what it is to return.
func checkSplit(t *testing.T, s string) {
	t.Helper()
	want, line, wantErr := wantSplit(s)
	got, at, err := Split(s)
	if err != wantErr || at != line || !slices.Equal(got, want) {
		t.Errorf("Split(%q) = %q, %d, %d, want %q, %d, %d", s, got, at, err, want, line, wantErr)
	}
}

// checkRefused: Split has an error and the number of a line, and nothing comes with them.
func checkRefused(t *testing.T, s string, line int, want api.Errno) {
	t.Helper()
	if l, at, err := Split(s); err != want || at != line || len(l) != 0 {
		t.Errorf("Split(%q) = %q, %d, %d, want none, %d, %d", s, l, at, err, line, want)
	}
}

// checkJoin: Join has an error, or returns what it is to return.
func checkJoin(t *testing.T, l []api.Line, want api.Errno) {
	t.Helper()
	text, wantErr := wantJoin(l)
	if want != wantErr {
		t.Fatalf("the test's own answer for %q is %d, want %d", l, wantErr, want)
	}
	if got, err := Join(l); err != want || got != text {
		t.Errorf("Join(%q) = %q, %d, want %q, %d", l, got, err, text, want)
	}
}

// checkBoth: lines and a text become each other.
func checkBoth(t *testing.T, l []api.Line, s string) {
	t.Helper()
	if got, err := Join(l); err != api.OK || got != s {
		t.Errorf("Join(%q) = %q, %d, want %q, 0", l, got, err, s)
	}
	if got, at, err := Split(s); err != api.OK || at != 0 || !slices.Equal(got, l) {
		t.Errorf("Split(%q) = %q, %d, %d, want %q, 0, 0", s, got, at, err, l)
	}
}

// TestExamples covers P11.2 and P11.3 with texts that are written out.
func TestExamples(t *testing.T) {
	checkBoth(t, nil, "")
	checkBoth(t, []api.Line{{Key: "a", Value: "1"}, {Key: "b"}}, "a=1\nb=")
	checkBoth(t, []api.Line{{Key: "_"}}, "_=")
	checkBoth(t, []api.Line{{Key: "a", Value: "="}}, "a==")
	checkBoth(t, []api.Line{{Key: "a", Value: "b=c=d"}, {Key: "a", Value: "b"}, {Key: "a", Value: "b"}}, "a=b=c=d\na=b\na=b")
	checkBoth(t, []api.Line{{Key: "allowed_ip", Value: "10.2.0.0/16"}, {Key: "z_", Value: "!~"}}, "allowed_ip=10.2.0.0/16\nz_=!~")
	checkBoth(t, []api.Line{{Key: letters, Value: printed[:mostValue]}, {Key: letters, Value: printed[mostValue:]}}, letters+"="+printed[:mostValue]+"\n"+letters+"="+printed[mostValue:])
	if got, err := Join([]api.Line{}); err != api.OK || got != "" {
		t.Errorf("Join of no lines = %q, %d, want none, 0", got, err)
	}
}

// TestCheckSizes covers ErrSize of P11.1 for each length of a key and a value: it comes ahead of ErrForm.
func TestCheckSizes(t *testing.T) {
	sizes := []int{128, 255, 256, 257, 286, 326, 65536, 65536 + 1, 65536 + 30, 65536 + 70, 1 << 20}
	for n := range 100 {
		sizes = append(sizes, n)
	}
	for _, key := range sizes {
		for _, value := range sizes {
			want := api.OK
			if key == 0 || key > mostKey || value > mostValue {
				want = api.ErrSize
			}
			if l := (api.Line{Key: long(letters, key), Value: long(printed, value)}); Check(l) != want {
				t.Errorf("Check of %d and %d bytes = %d, want %d", key, value, Check(l), want)
			}
			if key > 300 || value > 300 || want == api.OK {
				continue
			}
			for _, l := range []api.Line{
				{Key: strings.Repeat("A", key), Value: long(printed, value)},
				{Key: long(letters, key), Value: strings.Repeat(" ", value)},
				{Key: strings.Repeat("\xff", key), Value: strings.Repeat("\n", value)},
			} {
				if got := Check(l); got != api.ErrSize {
					t.Errorf("Check(%q) = %d, want 1", l, got)
				}
			}
		}
	}
}

// TestCheckRunes covers P11.1: lengths are counted in bytes, and not in runes.
func TestCheckRunes(t *testing.T) {
	checkLine(t, api.Line{Key: strings.Repeat("é", 15)}, api.ErrForm)
	checkLine(t, api.Line{Key: strings.Repeat("é", 16)}, api.ErrSize)
	checkLine(t, api.Line{Key: "a", Value: strings.Repeat("é", 35)}, api.ErrForm)
	checkLine(t, api.Line{Key: "a", Value: strings.Repeat("é", 36)}, api.ErrSize)
}

// TestCheckBytes covers ErrForm of P11.1 for each byte at each place of keys and values.
func TestCheckBytes(t *testing.T) {
	for c := range 256 {
		inKey, inValue := api.ErrForm, api.ErrForm
		if c >= 'a' && c <= 'z' || c == '_' {
			inKey = api.OK
		}
		if c >= 33 && c <= 126 {
			inValue = api.OK
		}
		for _, n := range []int{1, 2, 3, mostKey} {
			for place := range n {
				key := long(letters, n)
				key = key[:place] + string([]byte{byte(c)}) + key[place+1:]
				if got := Check(api.Line{Key: key, Value: "v"}); got != inKey {
					t.Errorf("Check of the key %q = %d, want %d", key, got, inKey)
				}
			}
		}
		for _, n := range []int{1, 2, 3, mostValue} {
			for place := range n {
				value := long(printed, n)
				value = value[:place] + string([]byte{byte(c)}) + value[place+1:]
				if got := Check(api.Line{Key: "k", Value: value}); got != inValue {
					t.Errorf("Check of the value %q = %d, want %d", value, got, inValue)
				}
			}
		}
	}
}

// TestWrong covers ErrForm of P11.1 to P11.3.
func TestWrong(t *testing.T) {
	for _, key := range noKeys {
		checkLine(t, api.Line{Key: key}, api.ErrForm)
		checkLine(t, api.Line{Key: key, Value: "b"}, api.ErrForm)
		for _, value := range noValues {
			checkLine(t, api.Line{Key: key, Value: value}, api.ErrForm)
		}
	}
	for _, value := range noValues {
		checkLine(t, api.Line{Key: "a", Value: value}, api.ErrForm)
		checkLine(t, api.Line{Value: value}, api.ErrSize)
	}
}

// TestSplitShort covers P11.2 for each short text of a few bytes.
func TestSplitShort(t *testing.T) {
	const bytes = "a=\n A"
	texts := []string{""}
	for range 7 {
		var longer []string
		for _, s := range texts {
			checkSplit(t, s)
			for i := range len(bytes) {
				longer = append(longer, s+bytes[i:i+1])
			}
		}
		texts = longer
	}
}

// TestSplitEmptyLines covers P11.2: an empty line is a line, also after the last line feed, and has no `=`.
func TestSplitEmptyLines(t *testing.T) {
	checkRefused(t, "\n", 1, api.ErrForm)
	checkRefused(t, "a=\n", 2, api.ErrForm)
	checkRefused(t, "\na=", 1, api.ErrForm)
	checkRefused(t, "a=\n\nb=", 2, api.ErrForm)
	checkRefused(t, "a=\r\nb=", 1, api.ErrForm)
	checkRefused(t, "a=\nb=\n", 3, api.ErrForm)
	checkRefused(t, strings.Repeat("a=\n", mostLines-1), mostLines, api.ErrForm)
	checkRefused(t, strings.Repeat("a=\n", mostLines), 0, api.ErrSize)
	checkRefused(t, strings.Repeat("\n", mostLines-1), 1, api.ErrForm)
	checkRefused(t, strings.Repeat("\n", mostLines), 0, api.ErrSize)
}

// TestSplitText covers the first ErrSize of P11.2: it comes ahead of all else.
func TestSplitText(t *testing.T) {
	full := strings.Repeat("abcdefghijklmnopqrst="+strings.Repeat("v", 38)+"\n", 50)[:mostText-1]
	for _, s := range []string{full, full + "w", full + "ww", full + "www", full + "\n", full + "\n\n", full + "\n=", full[:mostText-2]} {
		checkSplit(t, s)
	}
	if l, at, err := Split(full + "w"); err != api.OK || at != 0 || len(l) != 50 {
		t.Errorf("Split of 3000 bytes = %d lines, %d, %d, want 50, 0, 0", len(l), at, err)
	}
	for _, s := range []string{"\n", " ", "a", "=", "a=", "\x00", "A=b\n", "a=\n"} {
		for _, n := range []int{mostText + 1, mostText + 2, 65536, 65536 + 1, 65536 + mostText, 1 << 20} {
			checkRefused(t, strings.Repeat(s, n)[:n], 0, api.ErrSize)
		}
	}
	checkRefused(t, strings.Repeat(" ", mostText), 1, api.ErrForm)
	checkRefused(t, "a="+strings.Repeat("b", mostText-2), 1, api.ErrSize)
	checkRefused(t, "a="+strings.Repeat("b", mostText-1), 0, api.ErrSize)
	checkRefused(t, strings.Repeat("\n", mostText), 0, api.ErrSize)
}

// TestCounts covers P11.2 and P11.3 for each number of lines, and the ErrSize of too many ones: it comes ahead of what is wrong with a line.
func TestCounts(t *testing.T) {
	for n := range 2 * mostLines {
		lines := make([]api.Line, n)
		texts := make([]string, n)
		for i := range lines {
			lines[i] = api.Line{Key: long(letters[i%9:], 1+i%7), Value: long(printed[i%50:], i%8)}
			texts[i] = lines[i].Key + "=" + lines[i].Value
		}
		s := strings.Join(texts, "\n")
		if n <= mostLines {
			checkBoth(t, lines, s)
			continue
		}
		checkRefused(t, s, 0, api.ErrSize)
		checkJoin(t, lines, api.ErrSize)
		checkRefused(t, "a\n"+s, 0, api.ErrSize)
		checkRefused(t, s+"\nA=", 0, api.ErrSize)
		lines[0].Key = "A"
		checkJoin(t, lines, api.ErrSize)
	}
	for _, n := range []int{255, 256, 257, 256 + mostLines, 65536, 65536 + 1, 65536 + mostLines} {
		checkJoin(t, make([]api.Line, n), api.ErrSize)
	}
}

// TestSplitWhere covers P11.2: each line is wrong in turn, and then also the ones after it, in another way.
func TestSplitWhere(t *testing.T) {
	for _, c := range []struct {
		text string
		want api.Errno
	}{
		{"", api.ErrForm}, {"a", api.ErrForm}, {"A", api.ErrForm}, {strings.Repeat("a", 101), api.ErrForm},
		{"=", api.ErrSize}, {"=b", api.ErrSize}, {"= ", api.ErrSize}, {"==", api.ErrSize}, {long(letters, 31) + "=", api.ErrSize}, {"A=" + long(printed, 71), api.ErrSize},
		{"A=", api.ErrForm}, {" a=", api.ErrForm}, {"a =b", api.ErrForm}, {"a= b", api.ErrForm}, {"a=b\r", api.ErrForm}, {"a=\x00", api.ErrForm},
	} {
		for n := 1; n <= mostLines; n++ {
			lines := slices.Repeat([]string{"key=value"}, n)
			for i := range lines {
				wrong := slices.Clone(lines)
				wrong[i] = c.text
				checkWhere(t, wrong, i+1, c.want)
				for j := i + 1; j < n; j++ {
					// The other error comes later, so that it does not count.
					wrong[j] = "A=b"
					if c.want == api.ErrForm {
						wrong[j] = "=b"
					}
				}
				checkWhere(t, wrong, i+1, c.want)
			}
		}
	}
}

// checkWhere: Split names a line of some texts, and its error.
func checkWhere(t *testing.T, texts []string, line int, want api.Errno) {
	t.Helper()
	// One empty line alone is no line at all.
	if s := strings.Join(texts, "\n"); s != "" {
		checkRefused(t, s, line, want)
	}
}

// TestJoinWhere covers P11.3: each line is wrong in turn, and the first one that is wrong counts.
func TestJoinWhere(t *testing.T) {
	tooShort, capital := api.Line{Value: " "}, api.Line{Key: "A", Value: "b"}
	for n := 1; n <= mostLines; n++ {
		lines := slices.Repeat([]api.Line{{Key: long(letters, 30), Value: long(printed, 70)}}, n)
		for i := range lines {
			wrong := slices.Clone(lines)
			wrong[i] = capital
			checkJoin(t, wrong, api.ErrForm)
			for j := i + 1; j < n; j++ {
				wrong[j] = tooShort
			}
			checkJoin(t, wrong, api.ErrForm)
			wrong[i] = tooShort
			for j := i + 1; j < n; j++ {
				wrong[j] = capital
			}
			checkJoin(t, wrong, api.ErrSize)
		}
	}
}

// TestJoinText covers the last ErrSize of P11.3: texts around 3000 bytes, of few long lines and of many shorter ones.
func TestJoinText(t *testing.T) {
	for _, count := range []int{30, 31, 40, 50, 59, mostLines} {
		for total := mostText - 5; total <= mostText+5; total++ {
			lines := make([]api.Line, count)
			for i := range lines {
				lines[i].Key = "k"
			}
			// The line feeds, and a key and `=` for each line; the values make up the rest.
			rest := total - (count - 1) - 2*count
			for i := 0; rest > 0 && i < count; i++ {
				n := min(rest, mostValue)
				lines[i].Value = long(printed, n)
				rest -= n
			}
			for i := 0; rest > 0; i++ {
				n := min(rest, mostKey-1)
				lines[i].Key = long(letters, 1+n)
				rest -= n
			}
			if s, _ := wantJoin(lines); total <= mostText {
				if len(s) != total {
					t.Fatalf("the test's own text has %d bytes, want %d", len(s), total)
				}
				checkBoth(t, lines, s)
			} else {
				checkJoin(t, lines, api.ErrSize)
			}
		}
	}
	checkJoin(t, slices.Repeat([]api.Line{{Key: long(letters, 30), Value: long(printed, 70)}}, mostLines), api.ErrSize)
	// A line that is wrong comes first, also the last one.
	checkJoin(t, append(slices.Repeat([]api.Line{{Key: long(letters, 30), Value: long(printed, 70)}}, mostLines-1), api.Line{Key: "A"}), api.ErrForm)
}

// TestRandom covers P11.2 and P11.3 for texts of random lines, and for those with a byte changed, put in or left out.
func TestRandom(t *testing.T) {
	r := rand.New(rand.NewSource(11))
	for range 400 {
		lines := make([]api.Line, 1+r.Intn(mostLines/2))
		for i := range lines {
			key, value := r.Intn(len(letters)), r.Intn(len(printed))
			lines[i] = api.Line{Key: long(letters[key:], 1+r.Intn(mostKey)), Value: long(printed[value:], r.Intn(mostValue+1))}
		}
		s, err := wantJoin(lines)
		checkJoin(t, lines, err)
		if err != api.OK {
			continue
		}
		checkBoth(t, lines, s)
		for range 10 {
			at, c := r.Intn(len(s)), string([]byte{byte(r.Intn(256))})
			checkSplit(t, s[:at]+c+s[at:])
			checkSplit(t, s[:at]+c+s[at+1:])
			checkSplit(t, s[:at]+s[at+1:])
			checkSplit(t, s[:at]+"\n"+s[at:])
			checkSplit(t, s[:at]+"="+s[at+1:])
		}
	}
}

// spoil all of a list that can be reached.
func spoil(l []api.Line) {
	l = l[:cap(l)]
	for i := range l {
		l[i] = api.Line{Key: "spoiled", Value: "spoiled"}
	}
}

// TestJoinMemory covers the rules of memory for P11.3: its argument stays as it is, the unused room included.
func TestJoinMemory(t *testing.T) {
	for _, lines := range [][]api.Line{
		{}, {{Key: "a", Value: "b"}}, {{Key: "a"}, {Key: "b", Value: "c"}, {Key: "d"}}, {{Key: "a"}, {Key: "A"}}, {{Key: "a"}, {}},
		slices.Repeat([]api.Line{{Key: "k", Value: long(printed, 70)}}, mostLines), make([]api.Line, mostLines+1),
	} {
		roomy := append(slices.Clone(lines), make([]api.Line, 20)...)[:len(lines)]
		before := slices.Clone(roomy[:cap(roomy)])
		Join(roomy)
		if !slices.Equal(roomy[:cap(roomy)], before) {
			t.Errorf("Join(%q) changes its argument", lines)
		}
	}
}

// TestSplitMemory covers the rules of memory for P11.2: no two results share memory.
func TestSplitMemory(t *testing.T) {
	for _, s := range []string{"", "a=b", "a=b\nc=d\ne=", "a=b\nc", "=", strings.Repeat("a=b\n", mostLines-1) + "c="} {
		one, _, _ := Split(s)
		two, _, _ := Split(s)
		kept := slices.Clone(two)
		spoil(one)
		if !slices.Equal(two, kept) {
			t.Errorf("two results of Split(%q) share memory", s)
		}
		spoil(two)
		checkSplit(t, s)
	}
}
