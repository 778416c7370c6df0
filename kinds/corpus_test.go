package kinds_test

import (
	"errors"
	"math"
	"runtime"
	"strings"
	"testing"

	"errata/api"
	"errata/kinds"
)

var (
	nan    = math.NaN()
	inf    = math.Inf(1)
	minus0 = math.Copysign(0, -1)
)

// other is told of a panic that is neither own nor run-time.
const other = 99

// panicOf calls f and tells the panic: its sort, and an own one's text.
func panicOf(f func()) (sort int, word string) {
	defer func() {
		switch x := recover().(type) {
		case nil:
		case kinds.Note:
			sort, word = api.OwnPanic, string(x)
		case runtime.Error:
			sort = api.RuntimePanic
		default:
			sort = other
		}
	}()
	f()
	return api.NoPanic, ""
}

// tells is what an error's Error comes to: its text, or an own panic's.
func tells(e error) (text string, sort int) {
	sort, word := panicOf(func() { text = e.Error() })
	if sort == api.OwnPanic {
		text = word
	}
	return text, sort
}

// build makes an error that must be made. The parts' numbers are any; 0 of no error.
func build(t *testing.T, s api.Spec, parts ...error) error {
	t.Helper()
	e, no := kinds.Make(about(s, parts...), parts)
	if no != api.OK {
		t.Fatalf("Make(%+v, %v): %d", s, parts, no)
	}
	return e
}

// about is a spec with a number for each part: 0 of no error.
func about(s api.Spec, parts ...error) api.Spec {
	for i, p := range parts {
		n := 0
		if p != nil {
			n = i + 1
		}
		s.Parts = append(s.Parts, n)
	}
	return s
}

// stranger is an error of the tests' own; it counts who calls it.
type stranger struct {
	text  string
	calls *int
}

func (s stranger) Error() string     { *s.calls++; return s.text }
func (s stranger) Unwrap() error     { *s.calls++; return nil }
func (s stranger) Is(error) bool     { *s.calls++; return true }
func (s stranger) As(any) bool       { *s.calls++; return false }
func (s stranger) Grade() int8       { *s.calls++; return 0 }
func (s stranger) Code() int16       { *s.calls++; return 0 }
func (s stranger) Details() []string { *s.calls++; return nil }

func alien(text string) stranger { return stranger{text, new(int)} }

// sample is a spec with its parts, and what the Error of what is made of it
// comes to: a text, or a panic (text is an own one's).
type sample struct {
	s     api.Spec
	parts []error
	text  string
	sort  int
}

// The parts of samples.
var (
	note   error = kinds.Note("n")
	boom   error = kinds.Lazy(func() string { panic(kinds.Note("boom")) })
	noText error = (*kinds.Plain)(nil)
	aWrap        = new(kinds.Wrap)
)

// leaves is samples of the kinds that have no parts.
func leaves() []sample {
	long := strings.Repeat("\xff", api.MaxWord)
	return []sample{
		{s: api.Spec{Kind: 1, Number: 300}, text: "code 300"},
		{s: api.Spec{Kind: 1}, text: "code 0"},
		{s: api.Spec{Kind: 1, Number: -32768}, text: "code -32768"},
		{s: api.Spec{Kind: 2}, text: ""},
		{s: api.Spec{Kind: 2, Text: "a\n\xff\""}, text: "a\n\xff\""},
		{s: api.Spec{Kind: 2, Text: long}, text: long},
		{s: api.Spec{Kind: 3, Re: nan}, text: "level NaN"},
		{s: api.Spec{Kind: 3, Re: 1}, text: "level 1.0"},
		{s: api.Spec{Kind: 3, Re: minus0}, text: "level -0.0"},
		{s: api.Spec{Kind: 3, Re: 1e6}, text: "level 1e+06"},
		{s: api.Spec{Kind: 3, Re: -inf}, text: "level -Inf"},
		{s: api.Spec{Kind: 4, Re: 1, Im: -2}, text: "sway (1.0-2.0i)"},
		{s: api.Spec{Kind: 4, Re: 1.25, Im: 100}, text: "sway (1.25+100.0i)"},
		{s: api.Spec{Kind: 4, Re: minus0, Im: nan}, text: "sway (-0.0+NaNi)"},
		{s: api.Spec{Kind: 4, Im: minus0}, text: "sway (0.0-0.0i)"},
		{s: api.Spec{Kind: 5, Text: "\x00\xff\x1aZ"}, text: "mark 00ff1a5a"},
		{s: api.Spec{Kind: 5, Text: "abcd"}, text: "mark 61626364"},
		{s: api.Spec{Kind: 6, Items: []string{"b", "a", "b"}, Number: 7}, text: "tags a=8 b=9"},
		{s: api.Spec{Kind: 6}, text: "tags"},
		{s: api.Spec{Kind: 6, Number: 5}, text: "tags"},
		{s: api.Spec{Kind: 6, Number: 32767, Items: []string{"y", "x", "z"}}, text: "tags x=-32768 y=32767 z=-32767"},
		{s: api.Spec{Kind: 6, Number: -2, Items: []string{"\xff", "é", "a", "Z", "", "aa", "a b\n"}}, text: "tags =2 Z=1 a=0 a b\n=4 aa=3 é=-1 \xff=-2"},
		{s: api.Spec{Kind: 6, Nil: true}, text: "tags"},
		{s: api.Spec{Kind: 7, Text: "l"}, text: "l"},
		{s: api.Spec{Kind: 7, Text: "l", Flag: true}, text: "l", sort: api.OwnPanic},
		{s: api.Spec{Kind: 7, Flag: true}, sort: api.OwnPanic},
		{s: api.Spec{Kind: 7, Nil: true}, sort: api.RuntimePanic},
		{s: api.Spec{Kind: 8}, text: "line"},
		{s: api.Spec{Kind: 8, Nil: true}, text: "line"},
		{s: api.Spec{Kind: 9, Text: "p"}, text: "p"},
		{s: api.Spec{Kind: 9, Nil: true}, sort: api.RuntimePanic},
		{s: api.Spec{Kind: 10, Text: "q", Flag: true}, text: "q"},
		{s: api.Spec{Kind: 10}, text: ""},
		{s: api.Spec{Kind: 10, Nil: true}, text: "quiet"},
		{s: api.Spec{Kind: 11, Number: 128, Text: "c"}, text: "c"},
		{s: api.Spec{Kind: 12, Text: "b", Items: []string{"x", "", "x"}}, text: "b"},
		{s: api.Spec{Kind: 12}, text: ""},
		{s: api.Spec{Kind: 19, Number: -7, Re: 0.5}, text: "twin -7 0.5"},
		{s: api.Spec{Kind: 19, Number: 300, Re: 0.125}, text: "twin 300 0.125"},
		{s: api.Spec{Kind: 19, Re: nan}, text: "twin 0 NaN"},
		{s: api.Spec{Kind: 21, Text: "e"}, text: "e"},
		{s: api.Spec{Kind: 21, Text: "e", Flag: true}, text: "e"},
		{s: api.Spec{Kind: 21, Nil: true}, sort: api.RuntimePanic},
		{s: api.Spec{Kind: 22, Text: "g", Number: 5}, text: "g"},
		{s: api.Spec{Kind: 22, Nil: true}, sort: api.RuntimePanic},
		{s: api.Spec{Kind: 23, Number: 1, Small: -128}, text: "box -128"},
		{s: api.Spec{Kind: 23, Number: 1}, text: "box 0"},
		{s: api.Spec{Kind: 23, Number: 2, Re: minus0}, text: "box -0.0"},
		{s: api.Spec{Kind: 23, Number: 2, Re: nan}, text: "box NaN"},
		{s: api.Spec{Kind: 23, Number: 3, Text: "b\xff"}, text: "box b\xff"},
		{s: api.Spec{Kind: 23, Number: 3}, text: "box "},
		{s: api.Spec{Kind: 23, Number: 3, Nil: true}, text: "box "},
		{s: api.Spec{Kind: 24, Text: "s"}, text: "s"},
		{s: api.Spec{Kind: 24, Text: "s", Flag: true}, text: "s", sort: api.OwnPanic},
		{s: api.Spec{Kind: 24, Nil: true}, sort: api.RuntimePanic},
	}
}

// trees is samples of the kinds that may have parts.
func trees() []sample {
	plain := error(new(kinds.Plain))
	many := make([]error, api.MaxParts)
	for i := range many {
		many[i] = kinds.Code(i % 3)
	}
	return []sample{
		{s: api.Spec{Kind: 13, Text: "h"}, text: "h"},
		{s: api.Spec{Kind: 13, Text: "h"}, parts: []error{nil}, text: "h"},
		{s: api.Spec{Kind: 13, Text: "h"}, parts: []error{boom}, text: "h"},
		{s: api.Spec{Kind: 14, Text: "w"}, parts: []error{note}, text: "w: n"},
		{s: api.Spec{Kind: 14, Text: "w"}, parts: []error{nil}, text: "w"},
		{s: api.Spec{Kind: 14, Text: "w"}, text: "w"},
		{s: api.Spec{Kind: 14}, parts: []error{kinds.Note("")}, text: ": "},
		{s: api.Spec{Kind: 14, Text: "w"}, parts: []error{boom}, text: "boom", sort: api.OwnPanic},
		{s: api.Spec{Kind: 14, Text: "w"}, parts: []error{noText}, sort: api.RuntimePanic},
		{s: api.Spec{Kind: 14, Nil: true}, sort: api.RuntimePanic},
		{s: api.Spec{Kind: 15, Text: "o"}, parts: []error{note}, text: "o: n"},
		{s: api.Spec{Kind: 15, Text: "o"}, parts: []error{nil}, text: "o"},
		{s: api.Spec{Kind: 15}, text: ""},
		{s: api.Spec{Kind: 15, Text: "o"}, parts: []error{boom}, text: "boom", sort: api.OwnPanic},
		{s: api.Spec{Kind: 16}, text: ""},
		{s: api.Spec{Kind: 16}, parts: []error{nil, nil}, text: ""},
		{s: api.Spec{Kind: 16}, parts: []error{nil, note, nil, kinds.Code(2), kinds.Note("")}, text: "n\ncode 2\n"},
		{s: api.Spec{Kind: 16}, parts: []error{note, note}, text: "n\nn"},
		{s: api.Spec{Kind: 16}, parts: []error{note, boom, noText}, text: "boom", sort: api.OwnPanic},
		{s: api.Spec{Kind: 16}, parts: []error{noText, boom}, sort: api.RuntimePanic},
		{s: api.Spec{Kind: 16}, parts: many, text: strings.Repeat("code 0\ncode 1\ncode 2\n", 21) + "code 0"},
		{s: api.Spec{Kind: 16, Nil: true}, sort: api.RuntimePanic},
		{s: api.Spec{Kind: 17, Flag: true}, parts: []error{note}, text: "n"},
		{s: api.Spec{Kind: 17, Flag: true}, parts: []error{nil}, sort: api.RuntimePanic},
		{s: api.Spec{Kind: 17}, sort: api.RuntimePanic},
		{s: api.Spec{Kind: 17}, parts: []error{boom}, text: "boom", sort: api.OwnPanic},
		{s: api.Spec{Kind: 18, Number: 9}, parts: []error{plain}, text: ""},
		{s: api.Spec{Kind: 18, Number: 9}, parts: []error{noText}, sort: api.RuntimePanic},
		{s: api.Spec{Kind: 18, Number: -9}, parts: []error{nil}, sort: api.RuntimePanic},
		{s: api.Spec{Kind: 18}, sort: api.RuntimePanic},
		{s: api.Spec{Kind: 20}, text: "veil"},
		{s: api.Spec{Kind: 20}, parts: []error{nil}, text: "veil"},
		{s: api.Spec{Kind: 20}, parts: []error{note}, text: "veil: n"},
		{s: api.Spec{Kind: 20}, parts: []error{noText}, sort: api.RuntimePanic},
		{s: api.Spec{Kind: 25, Number: 5, Text: "t"}, text: "full: t"},
		{s: api.Spec{Kind: 25, Text: "t"}, parts: []error{nil}, text: "full: t"},
		{s: api.Spec{Kind: 25, Number: 300, Text: "t"}, parts: []error{aWrap}, text: "full: t"},
		{s: api.Spec{Kind: 25}, parts: []error{(*kinds.Wrap)(nil)}, text: "full: "},
		{s: api.Spec{Kind: 26, Items: []string{"disk.full"}, Text: "o", Mask: 8}, text: "o"},
		{s: api.Spec{Kind: 26, Items: []string{"\xff"}}, parts: []error{nil, boom, note}, text: ""},
		{s: api.Spec{Kind: 26, Items: []string{"x"}, Text: "o"}, parts: many, text: "o"},
		{s: api.Spec{Kind: 26, Nil: true}, sort: api.RuntimePanic},
	}
}

// samples is all of them.
func samples() []sample { return append(leaves(), trees()...) }

// kindOf is the kind whose row names the error's type.
func kindOf(e error) uint8 {
	switch e.(type) {
	case kinds.Code:
		return 1
	case kinds.Note:
		return 2
	case kinds.Level:
		return 3
	case kinds.Sway:
		return 4
	case kinds.Mark:
		return 5
	case kinds.Tags:
		return 6
	case kinds.Lazy:
		return 7
	case kinds.Line:
		return 8
	case *kinds.Plain:
		return 9
	case *kinds.Quiet:
		return 10
	case kinds.Coded:
		return 11
	case kinds.Bag:
		return 12
	case kinds.Hold:
		return 13
	case *kinds.Wrap:
		return 14
	case kinds.Over:
		return 15
	case *kinds.Join:
		return 16
	case kinds.Timed:
		return 17
	case kinds.Placed:
		return 18
	case kinds.Twin:
		return 19
	case kinds.Veil:
		return 20
	case *kinds.Echo:
		return 21
	case *kinds.Guise:
		return 22
	case kinds.Box[int8], kinds.Box[float64], kinds.Box[[]uint8]:
		return 23
	case *kinds.Slow:
		return 24
	case kinds.Full:
		return 25
	case *kinds.Opaque:
		return 26
	}
	return 0
}

// The samples are of all kinds, each kind's typed nil among them.
func TestSamples(t *testing.T) {
	var kind, nils [27]int
	for _, x := range samples() {
		kind[x.s.Kind]++
		if x.s.Nil {
			nils[x.s.Kind]++
		}
	}
	for k := 1; k <= 26; k++ {
		if kind[k] == 0 || (nils[k] == 1) != strings.Contains(rows[k], " Nil") {
			t.Errorf("kind %d: %d samples, %d of Nil", k, kind[k], nils[k])
		}
	}
	if s, _ := panicOf(func() { panic(errors.New("")) }); s != other {
		t.Error("the tests' own panics")
	}
}
