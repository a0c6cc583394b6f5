package vocab_test

import (
	"math"
	"slices"
	"strings"
	"testing"

	"herald/api"
	"herald/vocab"
)

// checks asks what Check says of a vocabulary, and whether all calls that are handed one say the same, if it is not right.
func checks(t *testing.T, what string, v api.Vocab, place int, err api.Errno) {
	t.Helper()
	if at, e := vocab.Check(v); at != place || e != err {
		t.Errorf("%s: Check: %d, %d and not %d, %d", what, at, e, place, err)
	}
	if err == api.OK {
		return
	}
	for _, text := range texts("", "a", "\x00") {
		fails(t, what+": Encode", place, err)(vocab.Encode(v, text))
		fails(t, what+": Longest", place, err)(vocab.Longest(v, text))
		fails(t, what+": Fewest", place, err)(vocab.Fewest(v, text))
		fails(t, what+": Uses", place, err)(vocab.Uses(v, texts(text)))
	}
	fails(t, what+": Uses of none", place, err)(vocab.Uses(v, nil))
	isText(t, what+": Decode", "", place, err)(vocab.Decode(v, tokens(0)))
	isText(t, what+": Decode of none", "", place, err)(vocab.Decode(v, tokens(-1)))
	if s, e := vocab.Print(v); s != "" || e != err {
		t.Errorf("%s: Print: %q, %d", what, s, e)
	}
}

// 13.1
func TestCheckOfTexts(t *testing.T) {
	long := strings.Repeat("x", 64)
	for what, c := range map[string]struct {
		l     []string
		place int
		e     api.Errno
	}{
		"none":                              {nil, 0, api.ErrTexts},
		"the end alone":                     {texts(""), 1, api.ErrTexts},
		"no end alone":                      {texts("a"), 0, api.ErrTexts},
		"two":                               {texts("", "a"), 0, api.OK},
		"no end":                            {texts("a", "b"), 0, api.ErrTexts},
		"no end, and the end behind":        {texts("a", ""), 0, api.ErrTexts},
		"two ends":                          {texts("", ""), 1, api.ErrTexts},
		"an end behind":                     {texts("", "a", "b", ""), 3, api.ErrTexts},
		"twice":                             {texts("", "a", "b", "c", "b"), 4, api.ErrTexts},
		"twice, then an end":                {texts("", "a", "a", ""), 2, api.ErrTexts},
		"an end, then twice":                {texts("", "a", "", "a"), 2, api.ErrTexts},
		"as long as may be":                 {texts("", long), 0, api.OK},
		"too long":                          {texts("", long+"x"), 1, api.ErrTexts},
		"too long, by bytes":                {texts("", strings.Repeat("é", 33)), 1, api.ErrTexts},
		"as long as may be, by bytes":       {texts("", strings.Repeat("é", 32)), 0, api.OK},
		"an end that is too long":           {texts(long + "x"), 0, api.ErrTexts},
		"alike but for their last bytes":    {texts("", long, long[1:], long[1:]+"y"), 0, api.OK},
		"no characters":                     {texts("", "\x00", "\xff", "\xe2\x82", "\n"), 0, api.OK},
		"alike but for their letters' size": {texts("", "a", "A"), 0, api.OK},
		"as many as may be":                 {manyTexts(512), 0, api.OK},
		"one too many":                      {manyTexts(513), 512, api.ErrTexts},
		"many too many":                     {manyTexts(5000), 512, api.ErrTexts},
		"one too many, and no end":          {manyTexts(514)[1:], 512, api.ErrTexts},
		"the last one wrong":                {append(manyTexts(511), "t1"), 511, api.ErrTexts},
	} {
		checks(t, what, of(c.l), c.place, c.e)
	}
}

// 13.1
func TestCheckOfMerges(t *testing.T) {
	ok, other := api.Merge{Left: 1, Right: 2, Out: 3}, api.Merge{Left: 3, Right: 2, Out: 4}
	for what, c := range map[string]struct {
		l     []api.Merge
		place int
	}{
		"Left 0":               {[]api.Merge{{Left: 0, Right: 2, Out: 2}}, 0},
		"Right 0":              {[]api.Merge{{Left: 1, Right: 0, Out: 1}}, 0},
		"Out 0":                {[]api.Merge{{Left: 1, Right: 2, Out: 0}}, 0},
		"all 0":                {[]api.Merge{ok, {}}, 1},
		"Left below 0":         {[]api.Merge{{Left: -1, Right: 2, Out: 3}}, 0},
		"Right below 0":        {[]api.Merge{{Left: 1, Right: -1, Out: 3}}, 0},
		"Out below 0":          {[]api.Merge{{Left: 1, Right: 2, Out: -1}}, 0},
		"Left too great":       {[]api.Merge{{Left: 5, Right: 2, Out: 3}}, 0},
		"Right too great":      {[]api.Merge{{Left: 1, Right: 5, Out: 3}}, 0},
		"Out too great":        {[]api.Merge{{Left: 1, Right: 2, Out: 5}}, 0},
		"far too great":        {[]api.Merge{ok, {Left: math.MaxInt, Right: math.MinInt, Out: math.MaxInt}}, 1},
		"another text":         {[]api.Merge{ok, {Left: 1, Right: 2, Out: 4}}, 1},
		"the other way round":  {[]api.Merge{{Left: 2, Right: 1, Out: 3}}, 0},
		"twice":                {[]api.Merge{ok, other, ok}, 2},
		"twice, then a wrong":  {[]api.Merge{ok, ok, {}}, 1},
		"a wrong, then twice":  {[]api.Merge{ok, {}, ok}, 1},
		"a wrong one at first": {[]api.Merge{{Left: 1, Right: 1, Out: 4}, ok, other}, 0},
	} {
		checks(t, what, of(texts("", "a", "b", "ab", "abb"), c.l...), c.place, api.ErrMerge)
	}
	checks(t, "none", of(texts("", "a", "b", "ab", "abb")), 0, api.OK)
	checks(t, "two", of(texts("", "a", "b", "ab", "abb"), other, ok), 0, api.OK)
	abc := texts("", "a", "b", "c", "ab", "bc", "abc")
	checks(t, "two with one Out", of(abc, api.Merge{Left: 1, Right: 5, Out: 6}, api.Merge{Left: 4, Right: 3, Out: 6}), 0, api.OK)
}

// 13.1, R6
func TestCheckOfManyMerges(t *testing.T) {
	checks(t, "as many as may be", manyMerges(1024), 0, api.OK)
	checks(t, "one too many", manyMerges(1025), 1024, api.ErrMerge)
	checks(t, "many too many", manyMerges(2000), 1024, api.ErrMerge)
	v := manyMerges(1025)
	v.Merges[3] = api.Merge{}
	checks(t, "one too many, and a wrong one", v, 1024, api.ErrMerge)
	v = manyMerges(1024)
	v.Merges[1023] = v.Merges[0]
	checks(t, "the last one again", v, 1023, api.ErrMerge)
	v.Merges[1023] = api.Merge{Left: 1, Right: 2, Out: 4}
	checks(t, "the last one wrong", v, 1023, api.ErrMerge)
}

// 13.1, R2: what is wrong with texts is told ahead of what is wrong with merges.
func TestOrderOfFaults(t *testing.T) {
	wrong := make([]api.Merge, 1025)
	for what, c := range map[string]struct {
		l     []string
		place int
	}{
		"too many":       {manyTexts(513), 512},
		"a wrong one":    {texts("", "a", "a"), 2},
		"fewer than two": {texts(""), 1},
		"none":           {nil, 0},
	} {
		checks(t, what, of(c.l, wrong...), c.place, api.ErrTexts)
		checks(t, what, of(c.l, wrong[0]), c.place, api.ErrTexts)
	}
	checks(t, "texts that are right", of(texts("", "a"), wrong...), 1024, api.ErrMerge)
}

// 13.1: held against the chapter's words, of vocabularies with which here and there something is wrong.
func TestCheckByTheWords(t *testing.T) {
	s := spread(1)
	faults := map[api.Errno]int{}
	for range 4000 {
		v := s.vocab("abc", 12, 30)
		for range s.below(3) {
			v.Texts[s.below(len(v.Texts))] = texts("", "a", "q", v.Texts[s.below(len(v.Texts))])[s.below(4)]
		}
		for range s.below(3) {
			if len(v.Merges) == 0 {
				break
			}
			i, m := s.below(len(v.Merges)), v.Merges[s.below(len(v.Merges))]
			m.Left += s.below(3) - 1
			m.Out += s.below(3) - 1
			v.Merges[i] = m
		}
		if s.below(8) == 0 {
			v.Texts = slices.Clone(v.Texts[:s.below(4)])
		}
		at, e := checkOf(v)
		faults[e]++
		checks(t, "by the words", v, at, e)
	}
	if faults[api.OK] < 100 || faults[api.ErrTexts] < 100 || faults[api.ErrMerge] < 100 {
		t.Error(faults)
	}
}
