package tell

import (
	"slices"

	"doppelganger/api"
	"doppelganger/lang"
	"doppelganger/terms"
)

// hole is the name by which a context calls the piece.
const hole = "hole"

// round is a move of the other side, and what the piece says then.
type round struct {
	asked, said api.Move
}

// variable is a variable of a context: in each round it has the value that it has while the piece is about to say its move. In the first round this is 0.
type variable struct {
	name   string
	values []int
}

// used reports whether it is another number than 0 at any time. If not, it need not be there.
func (v variable) used() bool {
	return slices.Max(v.values) > 0
}

func (v variable) read() terms.Term {
	if !v.used() {
		return terms.Number(0)
	}
	return terms.Read(v.name)
}

// builder puts a context together. Whatever the piece does comes to the context at few places: the names that the piece asks about are procedures, arguments that these ask about come to an end, and so does the hole. At each of these places only those rounds go on in which the piece has to say just this; in all others the context stops. What goes on is always the call that waits, so nothing has to be known of the calls around it.
type builder struct {
	decls  []api.Decl
	rounds []round
	free   []string                           // names that are not declared, for what the context binds itself
	params [api.MaxArgs]string                // of all procedures
	heard  string                             // the variable that has the value of an answer
	digits []variable                         // of the number of the round that is under way, the first one counting most
	ask    variable                           // the number of the argument that is to be asked about, 0 if there is none
	reply  variable                           // the answer that is to be given
	todo   []func(heard ...string) terms.Term // what is to be done in each round when its move comes, with its values in some variables
}

// newContext returns the context of a row of moves that is possible.
func newContext(decls []api.Decl, typ api.Type, play []api.Move) (*lang.Piece, api.Errno) {
	// Each round is at least one node.
	if len(play) > 2*api.MaxNodes {
		return nil, api.ErrFull
	}
	b := newBuilder(decls, play)
	whole := b.whole(terms.Call(hole, typ))
	return lang.Build([]api.Decl{{Name: hole, Result: typ}}, api.Com, whole.Nodes())
}

func newBuilder(decls []api.Decl, play []api.Move) *builder {
	b := &builder{decls: decls, free: freeNames(decls)}
	for two := range slices.Chunk(play, 2) {
		b.rounds = append(b.rounds, round{two[0], two[1]})
	}
	for i := range b.params {
		b.params[i] = b.newName()
	}
	b.heard = b.newName()
	b.ask = b.newVariable(func(at int) int { return b.rounds[at].asked.Arg })
	b.reply = b.newVariable(func(at int) int { return b.rounds[at].asked.Value })
	for weight := 1; weight < len(b.rounds); weight *= api.Width {
		digit := b.newVariable(func(at int) int { return at / weight % api.Width })
		b.digits = slices.Insert(b.digits, 0, digit)
	}
	for at, r := range b.rounds {
		b.todo = append(b.todo, func(heard ...string) terms.Term {
			return when(b.goOn(at), stop(), have(r.said.Value, heard...)...)
		})
	}
	return b
}

// freeNames returns names that are not declared.
func freeNames(decls []api.Decl) []string {
	var names []string
	for letter := 'a'; letter <= 'z'; letter++ {
		if name := string(letter); !declares(decls, name) {
			names = append(names, name)
		}
	}
	return names
}

// newName returns a name that nothing has yet.
func (b *builder) newName() string {
	name := b.free[0]
	b.free = b.free[1:]
	return name
}

// newVariable returns a variable whose values are known by the rounds.
func (b *builder) newVariable(value func(at int) int) variable {
	v := variable{name: b.newName()}
	for at := range b.rounds {
		v.values = append(v.values, value(at))
	}
	return v
}

// variables returns those that the context has.
func (b *builder) variables() []variable {
	list := slices.Concat(b.digits, []variable{b.ask, b.reply})
	return slices.DeleteFunc(list, func(v variable) bool { return !v.used() })
}

// whole returns the whole context around a call of the hole.
func (b *builder) whole(t terms.Term) terms.Term {
	t = b.receive(t, api.Move{Answer: true})
	for _, decl := range b.decls {
		t = b.procedure(decl, t)
	}
	for _, v := range b.variables() {
		t = terms.New(v.name, terms.Number(0), t)
	}
	return t
}

// procedure returns a block within the procedure that a declared name is: it hears the question, asks about arguments as long as this is to be done, and answers.
func (b *builder) procedure(decl api.Decl, block terms.Term) terms.Term {
	head := api.Node{Kind: api.Proc, Name: decl.Name, Result: decl.Result}
	var values []string
	for i, arg := range decl.Args {
		head.Params = append(head.Params, api.Param{Name: b.params[i], Type: arg})
		if arg == api.Val {
			values = append(values, b.params[i])
		}
	}
	body := row(b.expect(api.Move{Name: decl.Name}, values...), b.asking(decl)...)
	if decl.Result == api.Exp {
		body = terms.Do(body, b.reply.read())
	}
	return terms.Of(head, body, block)
}

// asking returns what asks about the arguments of a name as long as this is to be done; nothing if it never is.
func (b *builder) asking(decl api.Decl) []terms.Term {
	var asks []terms.Term
	for i, arg := range decl.Args {
		question := api.Move{Name: decl.Name, Arg: i + 1}
		if !slices.ContainsFunc(b.rounds, func(r round) bool { return r.asked == question }) {
			continue
		}
		one := b.receive(terms.Call(b.params[i], arg), api.Move{Name: decl.Name, Arg: i + 1, Answer: true})
		if len(asks) > 0 {
			one = when(one, asks[0], is(b.ask.name, i+1))
		}
		asks = []terms.Term{one}
	}
	if len(asks) == 0 {
		return nil
	}
	return []terms.Term{terms.Of(api.Node{Kind: api.While}, b.ask.read(), asks[0])}
}

// receive returns what runs what is asked about, and hears the answer.
func (b *builder) receive(asked terms.Term, answer api.Move) terms.Term {
	if asked.Type == api.Exp {
		return terms.New(b.heard, asked, b.expect(answer, b.heard))
	}
	return row(asked, b.expect(answer))
}

// expect returns what is done when a move of the piece comes, with its values in some variables.
func (b *builder) expect(move api.Move, heard ...string) terms.Term {
	var rounds []int
	for at, r := range b.rounds {
		said := r.said
		said.Value = 0
		if said == move {
			rounds = append(rounds, at)
		}
	}
	return b.choose(rounds, b.digits, heard...)
}

// choose returns what is done in the round that is under way, if it is one of some that differ in some digits. In all others the context stops.
func (b *builder) choose(rounds []int, digits []variable, heard ...string) terms.Term {
	t := stop()
	if len(rounds) == 0 {
		return t
	}
	if len(digits) == 0 {
		return b.todo[rounds[0]](heard...)
	}
	for value := range api.Width {
		var with []int
		for _, at := range rounds {
			if digits[0].values[at] == value {
				with = append(with, at)
			}
		}
		if len(with) > 0 {
			t = when(b.choose(with, digits[1:], heard...), t, is(digits[0].name, value))
		}
	}
	return t
}

// have returns what is true if variables have the values that a move tells.
func have(value int, variables ...string) []terms.Term {
	var conditions []terms.Term
	for _, name := range variables {
		conditions = append(conditions, is(name, value%api.Width))
		value /= api.Width
	}
	return conditions
}

// goOn returns what makes the move of the other side that follows a round, as far as its variables are other ones then; behind the last round it is the fault.
func (b *builder) goOn(at int) terms.Term {
	if at == len(b.rounds)-1 {
		return fault()
	}
	var steps []terms.Term
	for _, v := range b.variables() {
		if next := v.values[at+1]; next != v.values[at] {
			steps = append(steps, set(v.name, next))
		}
	}
	return row(steps[0], steps[1:]...)
}
