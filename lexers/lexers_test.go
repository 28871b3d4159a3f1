package lexers

import (
	"math/rand"
	"strings"
	"testing"

	"countersign/api"
)

func texts(l []Token) string {
	var out []string
	for _, x := range l {
		out = append(out, string(rune('0'+x.Kind))+x.Text)
	}
	return strings.Join(out, " ")
}

func TestP12_1Lex(t *testing.T) {
	for s, want := range map[string]string{
		"relation a: [b#c] = this->d;": "2relation 1a 3: 3[ 1b 3# 1c 3] 3= 2this 3-> 1d 3;",
		"a-b":                          "1a 3- 1b",
		"a--b->c":                      "1a 3- 3- 1b 3-> 1c",
		"":                             "",
		" \t\r\n":                      "",
		"namespace0 thisa{}()|&,":      "1namespace0 1thisa 3{ 3} 3( 3) 3| 3& 3,",
		"0123456789abcdef":             "10123456789abcdef",
		"a-":                           "1a 3-",
		"az09 z 0":                     "1az09 1z 10",
		strings.Repeat(" ", 1<<20):     "",
	} {
		if l, at, e := Lex(s); e != api.OK || at != len(s) || texts(l) != want || cap(l) != len(l) {
			t.Error(s, texts(l), at, e)
		}
	}
	many := strings.Repeat("a ", MaxTokens)
	for i, x := range []struct {
		s  string
		at int
		e  api.Errno
	}{
		{"a- >b", 3, api.ErrForm}, {"aB", 1, api.ErrForm}, {"0123456789abcdefg", 0, api.ErrName}, {" ;\x00", 2, api.ErrForm}, {"a\v", 1, api.ErrForm}, {"aé", 1, api.ErrForm},
		{strings.Repeat(" ", 1<<20+1), 0, api.ErrLimit}, {many + "  b", len(many) + 2, api.ErrLimit}, {many + "B", len(many), api.ErrForm}, {many + "0123456789abcdefg", len(many), api.ErrName},
	} {
		if l, at, e := Lex(x.s); at != x.at || e != x.e || len(l) != 0 {
			t.Error(i, at, e)
		}
	}
	if l, _, e := Lex(many); e != api.OK || len(l) != MaxTokens {
		t.Error(e)
	}
}

func TestP12_2Check(t *testing.T) {
	for i, x := range []struct {
		x Token
		e api.Errno
	}{
		{Token{Name, "this", 0}, api.ErrName}, {Token{Word, "a", 0}, api.ErrForm}, {Token{Name, "a", -5}, 0}, {Token{Name, "", 0}, api.ErrName}, {Token{Name, "a b", 0}, api.ErrName}, {Token{Name, ";", 0}, api.ErrName},
		{Token{Name, "0123456789abcdefg", 0}, api.ErrName}, {Token{Word, "this", 0}, 0}, {Token{Word, "relation", 0}, 0}, {Token{Word, "namespace", 0}, 0}, {Token{Word, "", 0}, api.ErrForm}, {Token{Word, " this", 0}, api.ErrForm},
		{Token{Sign, "->", 0}, 0}, {Token{Sign, "-", 0}, 0}, {Token{Sign, ">", 0}, api.ErrForm}, {Token{Sign, "", 0}, api.ErrForm}, {Token{Sign, "a", 0}, api.ErrForm}, {Token{Sign, "()", 0}, api.ErrForm}, {Token{Sign, " ", 0}, api.ErrForm},
		{Token{0, "a", 0}, api.ErrKind}, {Token{4, "a", 0}, api.ErrKind},
	} {
		if e := Check(x.x); e != x.e {
			t.Error(i, e)
		}
	}
	for _, s := range strings.Fields("{ } [ ] ( ) : , ; = | & # - ->") {
		if Check(Token{Sign, s, 0}) != api.OK {
			t.Error(s)
		}
	}
}

func TestP12_3Text(t *testing.T) {
	if s, e := Text([]Token{{Name, "a", 0}, {Sign, "->", 0}, {Word, "this", 0}}); e != api.OK || s != "a -> this" {
		t.Error(s, e)
	}
	exact := make([]Token, 1<<16)
	for i := range exact {
		exact[i] = Token{Name, "0123456789abcde", 0}
	}
	exact[0].Text += "f"
	if s, e := Text(exact); e != api.OK || len(s) != 1<<20 {
		t.Error(len(s), e)
	}
	if s, e := Text(nil); e != api.OK || s != "" {
		t.Error(s, e)
	}
	if _, e := Text(make([]Token, MaxTokens+1)); e != api.ErrLimit {
		t.Error(e)
	}
	long := make([]Token, MaxTokens)
	for i := range long {
		long[i] = Token{Name, "0123456789abcdef", 0}
	}
	if s, e := Text(long); e != api.ErrLimit || s != "" {
		t.Error(e)
	}
	long[5], long[9] = Token{Word, "x", 0}, Token{}
	if _, e := Text(long); e != api.ErrForm {
		t.Error(e)
	}
}

func TestP12_4Same(t *testing.T) {
	a := []Token{{Name, "a", 5}}
	if !Same(a, []Token{{Name, "a", 6}}) || Same(a, []Token{{Word, "a", 5}}) || Same(a, []Token{{Name, "b", 5}}) || Same(a, nil) || !Same(nil, []Token{}) {
		t.Error("Same")
	}
}

func TestP12_5Place(t *testing.T) {
	for i, x := range []struct{ at, line, column int }{{0, 1, 1}, {1, 1, 2}, {2, 1, 3}, {3, 2, 1}, {4, 2, 2}, {5, 2, 3}} {
		if line, column, e := Place("ab\n c", x.at); line != x.line || column != x.column || e != api.OK {
			t.Error(i, line, column, e)
		}
	}
	for _, at := range []int{-1, 6} {
		if line, column, e := Place("ab\n c", at); line != 0 || column != 0 || e != api.ErrRange {
			t.Error(at)
		}
	}
}

func TestP12_6Consequences(t *testing.T) {
	r := rand.New(rand.NewSource(1))
	const signs = "abthis09{}[]():,;=|&#->- \t\n\r"
	blanks := strings.NewReplacer(" ", "", "\t", "", "\n", "", "\r", "")
	for range 2000 {
		b := make([]byte, r.Intn(30))
		for i := range b {
			b[i] = signs[r.Intn(len(signs))]
		}
		s := string(b)
		l, _, e := Lex(s)
		if e != api.OK {
			continue
		}
		text, _ := Text(l)
		again, _, e := Lex(text)
		if e != api.OK || !Same(again, l) || blanks.Replace(text) != blanks.Replace(s) {
			t.Fatal(s)
		}
		for i, x := range l {
			if !strings.HasPrefix(s[x.At:], x.Text) || i > 0 && x.At <= l[i-1].At {
				t.Fatal(s)
			}
		}
	}
}
