package lex

import (
	"slices"
	"strings"
	"testing"
	"time"

	"tidewrack/api"
)

func TestExamples(t *testing.T) {
	want := []api.Token{
		{Kind: api.TokWord, At: 0, Text: "rate"},
		{Kind: api.TokSign, At: 4, Text: "("},
		{Kind: api.TokWord, At: 5, Text: "x"},
		{Kind: api.TokSign, At: 6, Text: "{"},
		{Kind: api.TokWord, At: 7, Text: "a"},
		{Kind: api.TokSign, At: 8, Text: "="},
		{Kind: api.TokText, At: 9, Text: "b"},
		{Kind: api.TokSign, At: 12, Text: "}"},
		{Kind: api.TokSign, At: 13, Text: "["},
		{Kind: api.TokSpan, At: 14, Text: "5m", Span: 300},
		{Kind: api.TokSign, At: 16, Text: "]"},
		{Kind: api.TokSign, At: 17, Text: ")"},
		{Kind: api.TokEnd, At: 18},
	}
	if l, at, e := Lex(`rate(x{a="b"}[5m])`); !same(l, want) || at != 0 || e != api.OK {
		t.Errorf("P17.1: %s", told(l, at, e))
	}
	for s, want := range map[string]api.Errno{"01": api.ErrLexNumber, "1.": api.ErrLexNumber, "5x": api.ErrLexNumber, "\"a": api.ErrLexText, "$": api.ErrLexByte, "0s": api.ErrLexNumber} {
		if l, at, e := Lex(s); len(l) != 0 || at != 0 || e != want {
			t.Errorf("P17.1: Lex(%q): %s; want %d", s, told(l, at, e), want)
		}
	}
}

// TestEachByte: each byte alone, in each place of each kind of token, and beside it.
func TestEachByte(t *testing.T) {
	around := []string{"", "a", "0", "7", "1.5", "5m", ":", `"`, `""`, `"a`, `"\`, `"\"`, "=", "!", "<", "~", "(", " ", "\n", "$", "_x"}
	for c := range 256 {
		b := string([]byte{byte(c)})
		for _, ahead := range around {
			for _, behind := range around {
				lexIs(t, ahead+b+behind)
			}
		}
	}
}

// each hands on all texts of at most n of the pieces.
func each(pieces []string, n int, to func(string)) {
	texts := []string{""}
	for range n {
		for _, s := range texts {
			to(s)
		}
		var longer []string
		for _, s := range texts {
			for _, p := range pieces {
				longer = append(longer, s+p)
			}
		}
		texts = longer
	}
	for _, s := range texts {
		to(s)
	}
}

// TestShort: all short texts of bytes that mean something. Of each error and of none there are some.
func TestShort(t *testing.T) {
	for _, x := range []struct {
		bytes string
		n     int
	}{
		{"0159.smx_:", 5},
		{"\"\\na\n\x1f \xff", 6},
		{"=!<>~+ ", 6},
		{"0.m:a\"\\n=!( \n$", 4},
	} {
		seen := map[api.Errno]int{}
		each(strings.Split(x.bytes, ""), x.n, func(s string) {
			_, e := lexIs(t, s)
			seen[e]++
		})
		if seen[api.OK] < 100 || len(seen) < 2 {
			t.Errorf("%q: %v", x.bytes, seen)
		}
	}
}

// TestAtEdges: tokens that may just be, and ones that may just not be, by themselves and among others.
func TestAtEdges(t *testing.T) {
	for s, want := range edges() {
		if _, e := lexIs(t, s); e != want {
			t.Errorf("P17.1: Lex(%.99q): %d; want %d", s, e, want)
		}
		for _, ahead := range []string{"", " ", "x ", "(", "x\n=", `"t"`} {
			for _, behind := range []string{"", " ", "\t)", "]", ":", "=~", `"t"`, "\x00", "$"} {
				lexIs(t, ahead+s+behind)
			}
		}
	}
}

func edges() map[string]api.Errno {
	out := map[string]api.Errno{}
	const no = api.ErrLexNumber
	for s, e := range map[string]api.Errno{
		"2147483647s": api.OK, "2147483648s": no, "35791394m": api.OK, "35791395m": no, "596523h": api.OK, "596524h": no, "24855d": api.OK, "24856d": no,
		"1s": api.OK, "1m": api.OK, "1h": api.OK, "1d": api.OK, "0s": no, "0m": no, "0h": no, "0d": no, "00s": no, "01s": no, "010d": no,
		"4294967297s": no, "4294967356s": no, "18446744073709551617s": no, "18446744073709551616d": no, "9223372036854775808h": no, "106751991167301d": no, "213503982334602d": no,
		"1.5s": no, "1.s": no, "1ss": no, "1s1": no, "1s.": no, "1s_": no, "1w": no, "1y": no, "1S": no, "1M": no, "1ms": no, "1h30m": no,
		"0": api.OK, "0.0": api.OK, "0.00": api.OK, "1.50": api.OK, "9": api.OK, "10": api.OK, "00": no, "00.0": no, "01": no, "01.5": no,
		"1.": no, "1..5": no, "1.5.": no, "1.5.2": no, "1._": no, "1.a": no, "1.5e": no, "1e5": no, "0x1": no, "1_000": no, "1_": no,
		".5": api.ErrLexByte, ".": api.ErrLexByte, "!": api.ErrLexByte, "~": api.ErrLexByte, "'a'": api.ErrLexByte, "\\n": api.ErrLexByte, "\x00": api.ErrLexByte, "\x0b": api.ErrLexByte, "\x0c": api.ErrLexByte, "\x7f": api.ErrLexByte, "\u00a0": api.ErrLexByte, "\u00e9": api.ErrLexByte, "\ufeffx": api.ErrLexByte,
		`""`: api.OK, `"\n"`: api.OK, `"\t"`: api.ErrLexText, `"\N"`: api.ErrLexText, `"\x41"`: api.ErrLexText, `"\'"`: api.ErrLexText, "\"\\\n\"": api.ErrLexText, "\"\x1f\"": api.ErrLexText, "\"\t\"": api.ErrLexText, "\"\x7f\x80\xff\u00e9\"": api.OK, `"'$;"`: api.OK, `"\\"`: api.OK, `"\"`: api.ErrLexText, `"\\\"`: api.ErrLexText, `"`: api.ErrLexText,
	} {
		out[s] = e
	}
	for whole := 1; whole <= 20; whole++ { // digits are counted on both sides of the point
		ok := func(n int) api.Errno {
			if n <= 15 {
				return api.OK
			}
			return no
		}
		out[strings.Repeat("1", whole)] = ok(whole)
		for part := 1; part <= 20; part++ {
			out[strings.Repeat("9", whole)+"."+strings.Repeat("0", part)] = ok(whole + part)
			if whole == 1 {
				out["0."+strings.Repeat("0", part)] = ok(1 + part)
			}
		}
	}
	return out
}

// TestSpans: spans by the numbers about each bound, read as so many seconds.
func TestSpans(t *testing.T) {
	for unit, seconds := range map[string]int64{"s": 1, "m": 60, "h": 3600, "d": 86400} {
		for _, x := range []struct {
			count string
			n     int64
		}{{"1", 1}, {"2", 2}, {"9", 9}, {"10", 10}, {"24855", 24855}} {
			l, at, e := Lex(x.count + unit)
			want := []api.Token{{Kind: api.TokSpan, Text: x.count + unit, Span: x.n * seconds}, {At: len(x.count + unit)}}
			if !same(l, want) || at != 0 || e != api.OK {
				t.Errorf("P17.1: Lex(%s%s): %s", x.count, unit, told(l, at, e))
			}
		}
		for n := 1; n < 4000; n += 7 {
			lexIs(t, strings.Repeat("9", n)+unit)
			lexIs(t, "1"+strings.Repeat("0", n)+unit)
		}
	}
}

// TestFirstFromTheLeft: of several that are wrong the first is told, whatever stands behind it.
func TestFirstFromTheLeft(t *testing.T) {
	wrong := []struct {
		s string
		e api.Errno
	}{{"$", api.ErrLexByte}, {"!", api.ErrLexByte}, {"01", api.ErrLexNumber}, {"5x", api.ErrLexNumber}, {`"\q"`, api.ErrLexText}, {"\"\n", api.ErrLexText}}
	for _, first := range wrong {
		for _, ahead := range []string{"", "x ", "1 ", "5m\t", `"a" `, "== ", "  \n", strings.Repeat("(", 99)} {
			for _, second := range wrong {
				s := ahead + first.s + " " + second.s
				if l, at, e := Lex(s); len(l) != 0 || at != len(ahead) || e != first.e {
					t.Errorf("P17.1: Lex(%.99q): %s; want %d, %d", s, told(l, at, e), len(ahead), first.e)
				}
			}
		}
	}
}

// TestLength: what is too long is refused whatever is in it, blanks count, too, and the longest tokens may be.
func TestLength(t *testing.T) {
	for _, one := range []string{"x", "(", " ", "\n", "$", "0", "9", `"`, "\\", "=", "\xff", "\x00", "é", "x ", "5m+", `"a"`} {
		for _, n := range []int{4094, 4095, 4096, 4097, 4098, 8192, 1 << 20} {
			s := strings.Repeat(one, n)[:n]
			if _, e := lexIs(t, s); (e == api.ErrLexLong) != (n > 4096) {
				t.Errorf("P17.1: %d bytes of %q: %d", n, one, e)
			}
		}
	}
	for _, long := range []string{strings.Repeat("w", 4096), `"` + strings.Repeat("t", 4094) + `"`, `"` + strings.Repeat(`\n`, 2047) + `"`} {
		if l, e := lexIs(t, long); len(l) != 2 || e != api.OK {
			t.Errorf("P17.1: Lex(%.9q ..): %d tokens, %d", long, len(l), e)
		}
		lexIs(t, long[:4095])
		lexIs(t, " "+long)
	}
}

// samples are tokens of each kind, as they may stand.
func samples() []string {
	return []string{"0", "1", "0.5", "123456789012345", "5m", "1d", "x", "a:b_9", ":", "_", "or", "s", `""`, `"a"`, `" "`, `"\""`, `"\\\n"`, "==", "!=", "<=", ">=", "=~", "!~", "<", ">", "=", "+", "-", "*", "/", "(", ")", "{", "}", "[", "]", ","}
}

// TestBlanks: blanks between tokens, and around them, change nothing but places.
func TestBlanks(t *testing.T) {
	gaps := []string{" ", "\t", "\n", "\r", "\r\n", "  ", " \t\r\n\n"}
	for _, a := range samples() {
		for _, b := range samples() {
			spaced, e := lexIs(t, a+" "+b)
			if len(spaced) != 3 || e != api.OK {
				t.Fatalf("P17.2: Lex(%q): %d tokens, %d", a+" "+b, len(spaced), e)
			}
			for _, ahead := range append(gaps, "") {
				for _, between := range gaps {
					want := slices.Clone(spaced)
					want[0].At = len(ahead)
					want[1].At = len(ahead + a + between)
					want[2].At = len(ahead + a + between + b + ahead)
					s := ahead + a + between + b + ahead
					if l, at, e := Lex(s); !same(l, want) || at != 0 || e != api.OK {
						t.Errorf("P17.2: Lex(%q): %s", s, told(l, at, e))
					}
				}
			}
			lexIs(t, a+b)
			lexIs(t, a+b+a)
		}
	}
}

// TestGlued: tokens of which none could go on into the next one need no blanks.
func TestGlued(t *testing.T) {
	parts := []string{"(", "x", "{", "a", "=", `"b c"`, ",", "d", "!~", `"\\"`, "}", "[", "5m", "]", "+", "0.5", ")", "<=", "1"}
	glued, e := lexIs(t, strings.Join(parts, ""))
	if len(glued) != len(parts)+1 || e != api.OK {
		t.Fatalf("P17.2: %d tokens, %d", len(glued), e)
	}
	spaced, _ := lexIs(t, "\n"+strings.Join(parts, " \t")+"\r")
	for i, x := range spaced {
		x.At = glued[i].At
		if x != glued[i] {
			t.Errorf("P17.2: %+v, not %+v", x, glued[i])
		}
	}
}

func TestNewMemory(t *testing.T) {
	const s = `x{a="b\n"}[5m] + 1`
	want, _, _ := lexOf(s)
	first, _, _ := Lex(s)
	second, _, _ := Lex(s)
	for _, x := range first[len(first):cap(first)] {
		if x != (api.Token{}) {
			t.Errorf("R3: behind the tokens: %+v", x)
		}
	}
	for i := range first[:cap(first)] {
		first[:cap(first)][i] = api.Token{Kind: 9, Text: "spoilt"}
	}
	if third, _, _ := Lex(s); !same(second, want) || !same(third, want) {
		t.Errorf("R3: whoever writes into an answer changes another one: %+v, %+v", second, third)
	}
}

// TestSizes: the longest queries in a moment, and what is too long without a look at it.
func TestSizes(t *testing.T) {
	queries := []string{strings.Repeat("(", 4096), strings.Repeat("a ", 2048), strings.Repeat("1d", 2048), strings.Repeat("9", 4096), `"` + strings.Repeat(`\n`, 2047) + `"`, strings.Repeat(`"`, 4096), strings.Repeat(" ", 4096)}
	much := strings.Repeat("x", 1<<28)
	start := time.Now()
	for range 200 {
		for _, s := range queries {
			Lex(s)
		}
	}
	for range 1000 {
		if l, at, e := Lex(much); len(l) != 0 || at != 0 || e != api.ErrLexLong {
			t.Errorf("P17.1: %d bytes: %d tokens, %d, %d", len(much), len(l), at, e)
		}
	}
	if took := time.Since(start); took > 5*time.Second {
		t.Errorf("R1: took %v", took)
	}
}
