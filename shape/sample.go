package shape

import (
	"herald/act"
	"herald/api"
	"herald/rope"
)

const (
	bytesThere = 256
	one        = 64 // a gain that leaves a number as it is
	letterA    = 'a'
)

// What the shifts of a sample are, or what they are above the share of the row's length in them.
const (
	sampleEmbedS  = 2
	sampleScoreS  = 3
	sampleInwards = 7 // of what goes on as 8 bits: QS, KS, VS, GateS, UpS
	sampleOutward = 4 // of what is added to the row or said: OS, DownS, LogitS
)

// generator is numbers in no order that the eye could tell, always the same ones of one seed.
type generator uint64

// next is the generator's next number.
func (g *generator) next() int8 {
	*g = *g*6364136223846793005 + 1442695040888963407
	return int8(*g >> 56)
}

// numbers is the generator's next n numbers.
func (g *generator) numbers(n int) []int8 {
	l := make([]int8, n)
	for i := range l {
		l[i] = g.next()
	}
	return l
}

// Sample is the model of a number and a shape.
func Sample(s api.Shape, seed int) (api.Model, api.Errno) {
	if e := Check(s); e != api.OK {
		return api.Model{}, e
	}
	p, g := sizesOf(s), generator(seed)
	m := api.Model{Shape: s, Vocab: sampleVocab(s.Vocab), EmbedShift: sampleEmbedS, Gain: gains(s.Dim), LogitS: sampleOutward + doublings(s.Dim)}
	m.Cos, m.Sin, _ = rope.Table(s.Context, Half(s))
	m.Bend, _ = act.Table(api.BendSoft)
	m.Embed = g.numbers(p.words)
	for range s.Layers {
		m.Blocks = append(m.Blocks, g.block(s, p))
	}
	m.Unembed = g.numbers(p.words)
	return m, api.OK
}

// block is a block of the generator's next numbers.
func (g *generator) block(s api.Shape, p sizes) api.Block {
	in, out := sampleInwards+doublings(s.Dim), sampleOutward+doublings(s.Dim)
	b := api.Block{Gain1: gains(s.Dim), Gain2: gains(s.Dim), QS: in, KS: in, VS: in, OS: out, ScoreS: sampleScoreS}
	b.Q, b.K, b.V, b.O = g.numbers(p.square), g.numbers(p.square), g.numbers(p.square), g.numbers(p.square)
	b.Middle = api.Middle{GateS: in, UpS: in, DownS: sampleOutward + doublings(s.Hidden)}
	b.Middle.Gate, b.Middle.Up, b.Middle.Down = g.numbers(p.inner), g.numbers(p.inner), g.numbers(p.inner)
	return b
}

// gains is n gains that leave numbers as they are.
func gains(n int) []int8 {
	l := make([]int8, n)
	for i := range l {
		l[i] = one
	}
	return l
}

// doublings is the least s with 4^s at least n: how often the root of n doubles 1.
func doublings(n int) int {
	s := 0
	for 1<<(2*s) < n {
		s++
	}
	return s
}

// sampleVocab is the vocabulary of n tokens: single bytes, and behind them pairs that begin with an a.
func sampleVocab(n int) api.Vocab {
	v := api.Vocab{Texts: make([]string, n)}
	for i := 1; i < min(n, bytesThere); i++ {
		v.Texts[i] = text(letterA - 1 + i)
	}
	for i := bytesThere; i < n; i++ {
		second := i - bytesThere
		v.Texts[i] = text(letterA) + text(letterA+second)
		// No token says the last byte of all by itself, so nothing merges into the last pair.
		if second+1 < bytesThere {
			v.Merges = append(v.Merges, api.Merge{Left: 1, Right: second + 1, Out: i})
		}
	}
	return v
}

// text is the text of one byte, modulo 256.
func text(value int) string { return string([]byte{byte(value)}) }
