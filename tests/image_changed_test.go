package tests

import (
	"fmt"
	"math"
	"slices"
	"testing"

	"loop.example/g00295/impl"
)

// standing is what stands in a block, told from the cache's end on.
func standing(d impl.Disk, at int64) []int64 {
	for _, p := range slices.Backward(d.Cache) {
		if p.At == at {
			return p.Words
		}
	}
	return d.Blocks[at]
}

// modelChanged is ChangedPuts of a disk that has no fault.
func modelChanged(d impl.Disk, all []impl.Put) impl.PutsResult {
	if len(all) > 60 {
		return impl.PutsResult{Code: impl.ErrMany}
	}
	var changed []impl.Put
	for _, p := range all {
		if p.At < 0 || p.At >= int64(len(d.Blocks)) {
			return impl.PutsResult{Code: impl.ErrRange}
		}
		if keyOf(p.Words) != keyOf(standing(d, p.At)) {
			changed = append(changed, p)
		}
	}
	return impl.PutsResult{Puts: changed}
}

func TestChangedPutsByHand(t *testing.T) {
	d := impl.Disk{
		Blocks: [][]int64{{1, 2}, {3}, nil, {0}, fill(64, 5)},
		Cache:  puts(putOf(1, 4), putOf(2, 6, 7), putOf(1, 8, 9), putOf(3)),
	}
	for _, c := range []struct {
		what string
		puts []impl.Put
		want []impl.Put
	}{
		{"nothing", nil, nil},
		{"an empty list", puts(), nil},
		{"what stands in Blocks alone", puts(putOf(0, 1, 2)), nil},
		{"another word", puts(putOf(0, 1, 3)), puts(putOf(0, 1, 3))},
		{"another first word", puts(putOf(0, 0, 2)), puts(putOf(0, 0, 2))},
		{"the words turned round", puts(putOf(0, 2, 1)), puts(putOf(0, 2, 1))},
		{"a word more", puts(putOf(0, 1, 2, 0)), puts(putOf(0, 1, 2, 0))},
		{"a word more that is not 0", puts(putOf(0, 1, 2, 3)), puts(putOf(0, 1, 2, 3))},
		{"a word fewer", puts(putOf(0, 1)), puts(putOf(0, 1))},
		{"no words", puts(putOf(0)), puts(putOf(0))},
		{"what stands in another block", puts(putOf(0, 8, 9)), puts(putOf(0, 8, 9))},
		{"what stands by the Cache and not by the Blocks", puts(putOf(1, 8, 9)), nil},
		{"what stands by the Blocks and not by the Cache", puts(putOf(1, 3)), puts(putOf(1, 3))},
		{"what stood in the Cache ahead", puts(putOf(1, 4)), puts(putOf(1, 4))},
		{"no words by the Blocks, some by the Cache", puts(putOf(2)), puts(putOf(2))},
		{"those of the Cache", puts(putOf(2, 6, 7)), nil},
		{"no words by the Cache, some by the Blocks", puts(putOf(3)), nil},
		{"those of the Blocks", puts(putOf(3, 0)), puts(putOf(3, 0))},
		{"nil and empty", puts(impl.Put{At: 3, Words: []int64{}}), nil},
		{"MaxWords words", puts(impl.Put{At: 4, Words: fill(64, 5)}), nil},
		{"MaxWords words, the last is another", puts(impl.Put{At: 4, Words: append(fill(63, 5), 6)}), puts(impl.Put{At: 4, Words: append(fill(63, 5), 6)})},
		{"one fewer", puts(impl.Put{At: 4, Words: fill(63, 5)}), puts(impl.Put{At: 4, Words: fill(63, 5)})},
		{"one more", puts(impl.Put{At: 4, Words: fill(65, 5)}), puts(impl.Put{At: 4, Words: fill(65, 5)})},
		{"many more", puts(impl.Put{At: 4, Words: fill(70000, 5)}), puts(impl.Put{At: 4, Words: fill(70000, 5)})},
		{"words that no block has", puts(putOf(0, -1), putOf(0, 65536), putOf(0, math.MaxInt64, math.MinInt64)), puts(putOf(0, -1), putOf(0, 65536), putOf(0, math.MaxInt64, math.MinInt64))},
		{"words that are the same in 16 bits", puts(putOf(0, 65537, 65538), putOf(0, 1<<32+1, 2)), puts(putOf(0, 65537, 65538), putOf(0, 1<<32+1, 2))},
		{"twice what stands there", puts(putOf(0, 1, 2), putOf(0, 1, 2)), nil},
		{"twice another", puts(putOf(0, 9), putOf(0, 9)), puts(putOf(0, 9), putOf(0, 9))},
		{"another, then what stands there", puts(putOf(0, 9), putOf(0, 1, 2)), puts(putOf(0, 9))},
		{"what stands there, then another", puts(putOf(0, 1, 2), putOf(0, 9)), puts(putOf(0, 9))},
		{"some of several, in their order", puts(putOf(3, 1), putOf(0, 1, 2), putOf(1), putOf(2, 6, 7), putOf(0)), puts(putOf(3, 1), putOf(1), putOf(0))},
	} {
		wantPuts(t, c.what, impl.ChangedPuts(d, c.puts), c.want)
		if !same(modelChanged(d, c.puts), impl.PutsResult{Puts: c.want}) {
			t.Errorf("%s: the model has %v", c.what, modelChanged(d, c.puts))
		}
	}
}

// samePuts is n puts of what stands at 0, and otherPuts of something else.
func samePuts(n int) []impl.Put {
	return slices.Repeat(puts(putOf(0, 1, 2)), n)
}

func otherPuts(n int) []impl.Put {
	return slices.Repeat(puts(putOf(1, 3)), n)
}

func TestHowManyPutsAreChanged(t *testing.T) {
	d := impl.Disk{Blocks: [][]int64{{1, 2}, nil}}
	for n := range 75 {
		code := codeIf(n > 60, impl.ErrMany)
		for what, c := range map[string][2][]impl.Put{
			"what stands there": {samePuts(n), nil},
			"others":            {otherPuts(n), otherPuts(n)},
			"by turns":          {append(samePuts(n/2), otherPuts(n-n/2)...), otherPuts(n - n/2)},
		} {
			told := fmt.Sprint(n, " puts of ", what)
			if code == impl.OK {
				wantPuts(t, told, impl.ChangedPuts(d, c[0]), c[1])
			} else {
				wantNoPuts(t, told, impl.ChangedPuts(d, c[0]), code)
			}
		}
	}
	wantNoPuts(t, "many", impl.ChangedPuts(d, samePuts(70000)), impl.ErrMany)
	wantNoPuts(t, "many for no blocks", impl.ChangedPuts(impl.Disk{}, samePuts(61)), impl.ErrMany)
	wantPuts(t, "none for no blocks", impl.ChangedPuts(impl.Disk{}, nil), nil)
}

// A put of no place is found wherever it stands, and behind how many there are.
func TestPlacesOfChangedPuts(t *testing.T) {
	for _, n := range list(0, 1, 2, 46, 47, 60) {
		d := newDisk(t, n)
		for _, at := range list(math.MinInt64, -1<<32, -n, -1, 0, 1, n-1, n, n+1, 60, 1<<32, 1<<32+1, math.MaxInt64) {
			is := at >= 0 && at < n
			what := fmt.Sprint(n, " blocks, a put at ", at)
			for _, words := range [][]int64{nil, list(1), fill(65, -1)} {
				p := impl.Put{At: at, Words: words}
				if want := modelChanged(d, puts(p)); want.Code != codeIf(!is, impl.ErrRange) || !same(impl.ChangedPuts(d, puts(p)), want) {
					t.Errorf("%s: %v, not %v", what, impl.ChangedPuts(d, puts(p)), want)
				}
				if n == 0 {
					continue
				}
				for _, place := range []int{0, 1, 30, 59} {
					all := slices.Insert(slices.Repeat(puts(putOf(0, 9)), 59), place, p)
					r := impl.ChangedPuts(d, all)
					if !same(r, modelChanged(d, all)) || r.Code != codeIf(!is, impl.ErrRange) {
						t.Errorf("%s, as the put %d of 60: %v", what, place, r)
					}
					wantNoPuts(t, what+", of 61", impl.ChangedPuts(d, append(all, putOf(0, 9))), impl.ErrMany)
				}
			}
		}
	}
}

// Of ChangedPuts all that may be wrong, together.
func TestWhichCodeOfChangedPutsComesFirst(t *testing.T) {
	for set := range 16 {
		d := newDisk(t, 3)
		var all []impl.Put
		var codes []int64
		has := func(bit int, code int64) bool {
			codes = append(codes, codeIf(set>>bit&1 == 1, code))
			return set>>bit&1 == 1
		}
		if has(0, impl.ErrMany) {
			d.Cache = emptyPuts(201)
		}
		if has(1, impl.ErrRange) {
			d.Blocks[2] = list(65536)
		}
		if has(2, impl.ErrMany) {
			all = append(all, otherPuts(61)...)
		}
		if has(3, impl.ErrRange) {
			all = append(all, putOf(3))
		}
		if code := firstCode(codes...); code != impl.OK {
			wantNoPuts(t, fmt.Sprint("set ", set), impl.ChangedPuts(d, all), code)
		} else {
			wantPuts(t, "nothing wrong", impl.ChangedPuts(d, all), nil)
		}
	}
}

// Each word of each block is turned, alone: that put alone is changed.
func TestEachWordThatChanges(t *testing.T) {
	d := newDisk(t, 4)
	for at := range d.Blocks {
		d.Blocks[at] = list(int64(at), 65535, 0, 7, 256)
	}
	d.Blocks[3] = fill(64, 0)
	for at := range d.Blocks {
		for place := range d.Blocks[at] {
			for _, word := range list(1, 0, 65535, 8, -1) {
				all := standingPuts(d)
				all[at].Words[place] = word
				var want []impl.Put
				if word != d.Blocks[at][place] {
					want = puts(all[at])
				}
				wantPuts(t, fmt.Sprint("word ", place, " of ", at, " is ", word), impl.ChangedPuts(d, all), want)
			}
		}
	}
}

// standingPuts is a put of each block of a disk, with what stands in it.
func standingPuts(d impl.Disk) []impl.Put {
	var all []impl.Put
	for at := range d.Blocks {
		all = append(all, impl.Put{At: int64(at), Words: copyOfWords(standing(d, int64(at)))})
	}
	return all
}

// dicePuts are some puts of a disk, many of which stand there.
func dicePuts(x *dice, d impl.Disk) []impl.Put {
	var all []impl.Put
	for range x.below(63) {
		at := x.below(int64(len(d.Blocks)))
		p := impl.Put{At: at, Words: copyOfWords(standing(d, at))}
		switch x.below(8) {
		case 0:
			p.Words = append(p.Words, x.below(2))
		case 1:
			p.Words = p.Words[:len(p.Words)/2]
		case 2:
			p.Words = copyOfWords(d.Blocks[at])
		case 3:
			p.Words = x.words()
		case 4:
			p.At = x.below(int64(len(d.Blocks)))
		}
		if x.below(600) == 0 {
			p.At = []int64{-1, int64(len(d.Blocks))}[x.below(2)]
		}
		all = append(all, p)
	}
	return all
}

func TestChangedPutsAgainstModel(t *testing.T) {
	x := dice(31)
	var count [11]int
	var stood, other int
	for range 3000 {
		d := newDisk(t, 1+x.below(60))
		for at := range d.Blocks {
			d.Blocks[at] = list(0, 1, 0)[:x.below(4)]
		}
		for range x.below(30) {
			d.Cache = append(d.Cache, impl.Put{At: x.below(int64(len(d.Blocks))), Words: list(0, 1, 0, 0)[:x.below(5)]})
		}
		all := dicePuts(&x, d)
		r, want := impl.ChangedPuts(d, all), modelChanged(d, all)
		if !same(r, want) {
			t.Fatalf("ChangedPuts of %v, %v: %v, not %v", d, all, r, want)
		}
		count[r.Code]++
		stood += len(all) - len(r.Puts)
		other += len(r.Puts)
		if r.Code != impl.OK {
			continue
		}
		// What is changed is put: then all that is told last is there.
		turned := d
		for _, p := range r.Puts {
			turned = put(t, turned, p.At, p.Words...)
		}
		for _, p := range all {
			if !slices.ContainsFunc(r.Puts, func(o impl.Put) bool { return o.At == p.At }) {
				wantRead(t, "what is not changed", turned, p.At, p.Words...)
			}
		}
	}
	if count[0] < 1000 || count[impl.ErrMany] < 20 || count[impl.ErrRange] < 50 || stood < 10000 || other < 10000 {
		t.Errorf("too few of something: %v, %d the same, %d others", count, stood, other)
	}
}
