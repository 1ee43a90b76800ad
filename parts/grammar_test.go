package parts

import (
	"math/rand"
	"slices"
	"strings"
	"testing"

	"doppelganger/api"
	"doppelganger/lang"
)

// formed reports whether lang finds a text well formed.
func formed(text string) bool {
	_, err := lang.Read(text)
	return err != api.ErrForm
}

func isName(part string) bool {
	return part != "" && formed(part+" : com |- com : skip")
}

func isDigit(part string) bool {
	return len(part) == 1 && part >= "0" && part <= "3"
}

// byGrammar reports whether some parts are a module. It tries all ends of each body.
func byGrammar(parts []string) bool {
	var names []string
	for len(parts) >= 5 && parts[0] == "new" && isName(parts[1]) && !slices.Contains(names, parts[1]) && parts[2] == "=" && isDigit(parts[3]) && parts[4] == ";" {
		names = append(names, parts[1])
		parts = parts[5:]
	}
	return len(names) <= 4 && !slices.Contains(names, "client") && areOperations(parts, names, 3)
}

func areOperations(parts, names []string, most int) bool {
	if most == 0 || len(parts) < 4 || !isName(parts[0]) || slices.Contains(names, parts[0]) || parts[1] != ":" {
		return false
	}
	names = append(slices.Clone(names), parts[0])
	word, left, right := parts[2], "{", "}"
	if word == "exp" {
		left, right = "[", "]"
	}
	if word != "com" && word != "exp" || parts[3] != left {
		return false
	}
	for end := 4; end < len(parts); end++ {
		if parts[end] != right || !formed("|- "+word+" : "+strings.Join(parts[4:end], " ")) {
			continue
		}
		rest := parts[end+1:]
		if len(rest) == 0 || rest[0] == ";" && areOperations(rest[1:], names, most-1) {
			return true
		}
	}
	return false
}

// broken returns the parts of a text by the grammar, of which some are changed, left out or put in.
func broken(random *rand.Rand, text string) []string {
	for _, mark := range []string{"(", ")", "{", "}", "[", "]", ",", ";", ": "} {
		text = strings.ReplaceAll(text, mark, " "+mark+" ")
	}
	parts := strings.Fields(text)
	other := strings.Fields(":= : == = |- { } { } [ ] ( ) ; ; , < + - * 0 3 4 12 new com exp val skip stop x y oq pr client abcdefgh abcdefghi A")
	for range random.Intn(3) {
		at, more := random.Intn(len(parts)), other[random.Intn(len(other))]
		switch random.Intn(4) {
		case 0:
			parts[at] = more
		case 1:
			parts = slices.Delete(parts, at, at+1)
		case 2:
			parts = slices.Insert(parts, at, more)
		case 3:
			to := random.Intn(len(parts))
			parts[at], parts[to] = parts[to], parts[at]
		}
		if len(parts) == 0 {
			break
		}
	}
	return parts
}

// P7.1, P7.2: Read finds the form of a text as the grammar has it.
func TestGrammar(t *testing.T) {
	count := map[bool]int{}
	for seed := range 8000 {
		random := rand.New(rand.NewSource(int64(seed)))
		types := sampleTypes(random)
		if random.Intn(10) == 0 {
			types = append(types, api.Com) // possibly one operation too many
		}
		p := sample(int64(seed), types[:min(3, len(types))], random.Intn(3), random)
		text := p.text()
		if len(types) > 3 {
			text += "; more: com { skip }"
		}
		if random.Intn(10) == 0 {
			text = "new v = 0; " + text // possibly one variable too many
		}
		parts := broken(random, text)
		text = strings.Join(parts, []string{" ", "\n", "\t "}[random.Intn(3)])
		if len(text) > api.MaxText-100 {
			continue
		}
		_, err := Read(text)
		want := byGrammar(parts)
		if want == (err == api.ErrForm) {
			t.Errorf("Read(%q): %d; by the grammar: %v", text, err, want)
		}
		count[want]++
	}
	if count[true] < 2000 || count[false] < 3000 {
		t.Errorf("the texts say little: %v", count)
	}
}
