package show_test

import (
	"slices"
	"strings"
	"testing"

	"madrigal/api"
	"madrigal/lex"
	"madrigal/parse"
	"madrigal/show"
)

// wholeIn27 is the text with all rules in lines of 27 bytes.
const wholeIn27 = `specification spec[a,b](n:
  nat,m:nat,k:bool):exit(
  nat,bool)
  library l,m endlib
  library k endlib
  type nat is
    bool,l
    formalsorts f,g
    formalopns x:f,g->f_#_(
    3 right):f,g->f y:f,g->
    f 1:->g
    formaleqns
    forall v:f,w:g
    ofsort f v#w=v;
    ofsort g 1=1;
    sorts nat,int
    opns 0:->nat s:nat->nat
    -_(6):nat->nat_+_(5
    left):nat->nat_*_:->nat
    _~:->nat if_then_(9
    left):nat->nat
    eqns
    forall x:nat,y:nat,z:
    int
    ofsort nat x=y,z+x=y=>x
    +(y+z)=x*y;
    ofsort nat
    ofsort int if x then(-y
    )=0;
    x=x;
  endtype
  type empty is
  endtype
  type uses is
    nat,empty
  endtype
  type r is
    nat renamedby sortnames
    num for nat opnnames 0
    for 1_@_for_+_
  endtype
  type r is
    nat renamedby
  endtype
  type u is
    nat actualizedby bool,
    nat using sortnames a
    for b opnnames x for y
    z for 7
  endtype
  type u is
    nat actualizedby bool
    using
  endtype
  behaviour P[a,b](0+0*0)>>
  accept x:nat,y:nat in
  stop
  where
  type w is
  endtype
  process P[g](x:nat,y:nat)
    :noexit:=
    g?u:nat?v:nat;(stop[]
    stop)
    where
    process Q:exit:=
      exit
    endproc
  endproc
  process R:exit(nat):=
    hide g in stop
    where
    process S:noexit:=
      stop
    endproc
    type x is
    endtype
  endproc
endspec`

// P3.2: a text in which each rule occurs.
func TestLay(t *testing.T) {
	if s, err := show.Lay(mustParse(t, whole), 27); s != wholeIn27 || err != api.OK {
		t.Errorf("Lay: error %d\n%s", err, s)
	}
	long := strings.Repeat("x", 32)
	nested := "specification s:noexit behaviour stop " + strings.Repeat("where process p:noexit:=stop ", 6) + strings.Repeat("endproc ", 6) + "endspec"
	for _, x := range []struct {
		text  string
		width int
		want  string
	}{
		{"specification x : noexit behaviour stop endspec", 22, "specification x:noexit\n  behaviour stop\nendspec"},
		{"specification x : noexit behaviour stop endspec", 21, "specification x:\n  noexit\n  behaviour stop\nendspec"},
		{"specification x : noexit behaviour stop endspec", 1000, "specification x:noexit\n  behaviour stop\nendspec"},
		{"specification " + long + " : noexit behaviour stop endspec", 20, "specification\n  " + long + "\n  :noexit\n  behaviour stop\nendspec"},
		{"specification " + long + " : noexit behaviour stop endspec", 45, "specification\n  " + long + ":noexit\n  behaviour stop\nendspec"},
		{"specification " + long + " : noexit behaviour stop endspec", 46, "specification " + long + "\n  :noexit\n  behaviour stop\nendspec"},
		{"specification " + long + " : noexit behaviour stop endspec", 47, "specification " + long + ":\n  noexit\n  behaviour stop\nendspec"},
		{"specification x : noexit behaviour aaaaaaaa;b;c;stop endspec", 22, "specification x:noexit\n  behaviour aaaaaaaa;b\n  ;c;stop\nendspec"},
		{"specification x : noexit behaviour aaaaaaa;b;c;stop endspec", 22, "specification x:noexit\n  behaviour aaaaaaa;b;\n  c;stop\nendspec"},
		{"specification x : noexit type t is eqns ofsort s a = b; endtype behaviour a; stop endspec", 40, "specification x:noexit\n  type t is\n    eqns\n    ofsort s a=b;\n  endtype\n  behaviour a;stop\nendspec"},
		{"specification x : noexit type t is formaleqns ofsort s a = b; c = c => d = e; sorts s endtype behaviour stop endspec", 40, "specification x:noexit\n  type t is\n    formaleqns\n    ofsort s a=b;\n    c=c=>d=e;\n    sorts s\n  endtype\n  behaviour stop\nendspec"},
		{nested, 20, "specification s:\n  noexit\n  behaviour stop\n  where\n  process p:noexit:=\n    stop\n    where\n    process p:noexit\n      :=\n      stop\n      where\n      process p:\n        noexit:=\n        stop\n        where\n        process p:\n          noexit:=\n          stop\n          where\n          process p:\n          noexit:=\n          stop\n          where\n          process p:\n          noexit:=\n          stop\n          endproc\n          endproc\n        endproc\n      endproc\n    endproc\n  endproc\nendspec"},
	} {
		if s, err := show.Lay(mustParse(t, x.text), x.width); s != x.want || err != api.OK {
			t.Errorf("Lay(%q, %d): error %d\n%s\nwant\n%s", x.text, x.width, err, s, x.want)
		}
	}
	for width, blanks := range map[int]int{20: 10, 21: 10, 22: 11, 23: 11, 24: 12, 25: 12, 26: 12, 1000: 12} {
		s, err := show.Lay(mustParse(t, nested), width)
		if most := "\n" + strings.Repeat(" ", blanks); err != api.OK || !strings.Contains(s, most+"endproc\n") || strings.Contains(s, most+" ") && blanks < 12 {
			t.Errorf("Lay in %d bytes: error %d\n%s", width, err, s)
		}
	}
}

// P3.2: widths that are none.
func TestWidths(t *testing.T) {
	n := mustParse(t, "specification x : noexit behaviour stop endspec")
	for width, want := range map[int]api.Errno{-1 << 63: api.ErrWidth, -20: api.ErrWidth, 0: api.ErrWidth, 19: api.ErrWidth, 20: api.OK, 1000: api.OK, 1001: api.ErrWidth, 1<<63 - 1: api.ErrWidth} {
		if s, err := show.Lay(n, width); err != want || (s == "") != (err != api.OK) {
			t.Errorf("Lay in %d bytes: %q, error %d", width, s, err)
		}
	}
}

const (
	wordsAhead = "behaviour where endspec process endproc type endtype library sorts opns eqns formalsorts formalopns formaleqns forall ofsort"
	wordsBegin = "specification process type"
	wordsEnd   = "endspec endproc endtype"
)

// checkLines checks each line of a text by the chapter.
func checkLines(t *testing.T, text string, width int) {
	t.Helper()
	has := func(words string, x api.Token) bool {
		return x.Kind == api.TkKey && slices.Contains(strings.Fields(words), x.S)
	}
	var last api.Token
	var open []string
	before := 0
	for i, line := range strings.Split(text, "\n") {
		l := mustTokens(t, line)
		if len(l) == 0 || strings.HasSuffix(line, " ") || len(line) > width && len(l) > 1 {
			t.Fatalf("the line %q of %q in %d bytes", line, text, width)
		}
		deep := len(open)
		if has(wordsEnd, l[0]) {
			deep--
		}
		blanks := len(line) - len(strings.TrimLeft(line, " "))
		if blanks != min(2*deep, width/2) || mustJoin(t, l) != line[blanks:] {
			t.Fatalf("the line %q of %q, within %v", line, text, open)
		}
		for k, x := range l {
			behind := has("is", last) || last.S == ":=" || last.S == ";" && open[len(open)-1] == "type"
			if k > 0 && (behind || has(wordsAhead, x)) || i == 0 && k > 0 && x.S == "specification" {
				t.Fatalf("no line begins at the token %d of the line %q of %q", k, line, text)
			}
			if beside, _ := lex.Apart(last, x); i > 0 && k == 0 && !behind && !has(wordsAhead, x) {
				if gap := map[bool]int{true: 0, false: 1}[beside]; before+gap+len(spelled(x)) <= width {
					t.Fatalf("the line %q of %q in %d bytes would go into the one ahead of it", line, text, width)
				}
			}
			if has(wordsBegin, x) {
				open = append(open, x.S)
			}
			if has(wordsEnd, x) {
				open = open[:len(open)-1]
			}
			last = x
		}
		before = len(line)
	}
}

// P3.2, P3.5, P3.8: texts in lines have the same tokens, are read back, and go as far as they can.
func TestLines(t *testing.T) {
	g := grower{newRandom(), table()}
	for range 250 {
		n := g.specification()
		width := 20 + g.r.Intn(30)
		if g.chance() {
			width += g.r.Intn(1000 - width)
		}
		s, err := show.Lay(n, width)
		flat, _ := show.Text(n)
		if err != api.OK || !slices.Equal(mustTokens(t, s), mustTokens(t, flat)) {
			t.Fatalf("Lay(%s, %d): %q, error %d", written(n), width, s, err)
		}
		if again := mustParse(t, s); !parse.Same(again, n) {
			t.Fatalf("Lay(%s, %d): %q is read as %s", written(n), width, s, written(again))
		}
		checkLines(t, s, width)
	}
}
