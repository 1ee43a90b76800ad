package lang

import (
	"strings"
	"testing"

	"doppelganger/api"
)

// P1.8: plain texts.
func TestText(t *testing.T) {
	for text, want := range map[string]string{
		"|-com:skip":                "|- com : skip",
		"p:com|-com:p;skip;p":       "p : com |- com : p; skip; p",
		"q:exp,p:com|-exp:q":        "p : com, q : exp |- exp : q",
		"b:com,ab:com,a:com|-exp:1": "a : com, ab : com, b : com |- exp : 1",
		"b : exp, a(com,exp):com |- com : a({ stop },(b-(b-1))==(1))":    "a(com, exp) : com, b : exp |- com : a({ stop }, b - (b - 1) == 1)",
		"f ( val,com ):exp|-com:block k{new x=f(1,{exit k}){x:=exit k}}": "f(val, com) : exp |- com : block k { new x = f(1, { exit k }) { x := exit k } }",
		"|-exp:new x=1[x+x*2]":                           "|- exp : new x = 1 [ x + x * 2 ]",
		"|-com:proc f():exp[1]{skip}":                    "|- com : proc f() : exp [ 1 ] { skip }",
		"|-exp:proc f(a:com,b:exp,c:val):com{a;a}[3]":    "|- exp : proc f(a : com, b : exp, c : val) : com { a; a } [ 3 ]",
		"|-com:if 1{skip;skip}{stop};while 0{fault}":     "|- com : if 1 { skip; skip } { stop }; while 0 { fault }",
		"|-exp:if 1[2][3]":                               "|- exp : if 1 [ 2 ] [ 3 ]",
		"|-exp:do{skip}[do{block k{exit k}}[stop]]":      "|- exp : do { skip } [ do { block k { exit k } } [ stop ] ]",
		"f(com,exp,val):com|-com:f({skip;skip},1+1,(2))": "f(com, exp, val) : com |- com : f({ skip; skip }, 1 + 1, 2)",
	} {
		wantText(t, text, want)
	}
}

// P1.8: parentheses stand only where the tree would be another one without them.
func TestParentheses(t *testing.T) {
	for text, want := range map[string]string{
		"((1))":                        "1",
		"(1+2)+3":                      "1 + 2 + 3",
		"1+(2+3)":                      "1 + (2 + 3)",
		"1-(2-3)":                      "1 - (2 - 3)",
		"(1-2)+3":                      "1 - 2 + 3",
		"1+(2*3)":                      "1 + 2 * 3",
		"(1+2)*3":                      "(1 + 2) * 3",
		"1*(2+3)":                      "1 * (2 + 3)",
		"1*(2*3)":                      "1 * (2 * 3)",
		"(1*2)*3":                      "1 * 2 * 3",
		"(1*2)+(2*3)":                  "1 * 2 + 2 * 3",
		"(1==2)==3":                    "(1 == 2) == 3",
		"1==(2==3)":                    "1 == (2 == 3)",
		"(1<2)==(2<3)":                 "(1 < 2) == (2 < 3)",
		"(1==2)<3":                     "(1 == 2) < 3",
		"(1+2)<(2-3)":                  "1 + 2 < 2 - 3",
		"(1<2)+1":                      "(1 < 2) + 1",
		"1*(1<2)":                      "1 * (1 < 2)",
		"(stop)+(fault)":               "stop + fault",
		"(if 1[2][3])*(new x=1[x])":    "if 1 [ 2 ] [ 3 ] * new x = 1 [ x ]",
		"if(1<2)[(2+3)][((1==2))]":     "if 1 < 2 [ 2 + 3 ] [ 1 == 2 ]",
		"new x=(1<2)[x]==1":            "new x = 1 < 2 [ x ] == 1",
		"(do{skip}[1])-(do{skip}[2])":  "do { skip } [ 1 ] - do { skip } [ 2 ]",
		"proc f():exp[(1+2)][(f)*f]+1": "proc f() : exp [ 1 + 2 ] [ f * f ] + 1",
	} {
		wantText(t, "|- exp : "+text, "|- exp : "+want)
	}
}

// P1.8: a text may be longer than what Read takes.
func TestLongText(t *testing.T) {
	short := "|-com:new abcdefgh=0{abcdefgh:=abcdefgh" + strings.Repeat(";abcdefgh:=abcdefgh", 198) + "}"
	long := "|- com : new abcdefgh = 0 { abcdefgh := abcdefgh" + strings.Repeat("; abcdefgh := abcdefgh", 198) + " }"
	if len(long) <= api.MaxText {
		t.Fatalf("%d bytes are too few", len(long))
	}
	wantText(t, short, long)
	wantRead(t, long, api.ErrForm)
}
