package tests

import (
	"fmt"
	"slices"
	"testing"

	"loop.example/g00295/impl"
)

// somePuts are n puts of inodes, the first of which stands at the last place.
// They need not be such as an inode is read from.
func somePuts(n int) []impl.Put {
	var all []impl.Put
	for i := range int64(n) {
		all = append(all, impl.Put{At: 26 - i%10, Words: fill(int(i*7)%65, i)})
	}
	return all
}

// wantFound asks for a journal of these puts and for its mount, with the number
// 5 ahead of it.
func wantFound(t *testing.T, what string, d impl.Disk, all []impl.Put) {
	t.Helper()
	wantTx(t, what, impl.ScanJournal(d), all)
	wantSteps(t, what, impl.PlanMount(d), modelHome(5, all))
	checkJournal(t, what, d)
}

func wantNotFound(t *testing.T, what string, d impl.Disk) {
	t.Helper()
	wantNoTx(t, what, impl.ScanJournal(d), impl.OK)
	wantSteps(t, what, impl.PlanMount(d), nil)
	checkJournal(t, what, d)
}

// As many puts as there may be, and more: the blocks of the latter would go on
// behind the last one.
func TestHowManyPutsAJournalHas(t *testing.T) {
	for n := range 62 {
		d := imageDisk(5, tenInodes())
		all := somePuts(n)
		rows := journalRows(5, all...)
		cached := d
		for i, words := range rows {
			if i < 46 {
				d.Blocks[1+i] = words
				cached = put(t, cached, int64(1+i), words...)
			}
		}
		for what, now := range map[string]impl.Disk{"in Blocks": d, "in Cache": cached} {
			what := fmt.Sprint(n, " puts ", what)
			if n <= 10 {
				wantFound(t, what, now, all)
			} else {
				wantNotFound(t, what, now)
			}
		}
	}
	for n := range 11 {
		for said := range int64(64) {
			rows := journalRows(5, somePuts(n)...)
			rows[0][2] = said
			d := withJournal(formatted(t, 5), rows...)
			if int64(n) == said {
				wantFound(t, fmt.Sprint(n, " puts, ", said, " told"), d, somePuts(n))
				continue
			}
			wantNotFound(t, fmt.Sprint(n, " puts, ", said, " told"), d)
			// So also where the last block stands where it would have to.
			if said < 45 {
				d.Blocks[2+said] = list(2, 5, said)
				wantNotFound(t, fmt.Sprint(n, " puts, ", said, " told and ended"), d)
			}
		}
	}
}

// Each thing that a journal needs is turned, alone.
func TestJournalsTurned(t *testing.T) {
	all := puts(putOf(20, 1, 1, 0), putOf(17, 2, 0, 0, 1, 3, 1, 97))
	whole := [][]int64{{1, 5, 2, 20, 17}, {1, 1, 0}, {2, 0, 0, 1, 3, 1, 97}, {2, 5, 2}}
	d := formatted(t, 5)
	wantFound(t, "as it is", withJournal(d, whole...), all)
	for what, c := range map[string]struct {
		row   int
		words [][]int64
	}{
		"the first word":           {0, [][]int64{{0, 5, 2, 20, 17}, {2, 5, 2, 20, 17}, {7, 5, 2, 20, 17}, {257, 5, 2, 20, 17}, {65535, 5, 2, 20, 17}}},
		"the number":               {0, [][]int64{{1, 4, 2, 20, 17}, {1, 6, 2, 20, 17}, {1, 0, 2, 20, 17}, {1, 1, 2, 20, 17}, {1, 261, 2, 20, 17}, {1, 65535, 2, 20, 17}}},
		"how many":                 {0, [][]int64{{1, 5, 0, 20, 17}, {1, 5, 1, 20, 17}, {1, 5, 3, 20, 17}, {1, 5, 10, 20, 17}, {1, 5, 11, 20, 17}, {1, 5, 258, 20, 17}, {1, 5, 65535, 20, 17}}},
		"fewer places":             {0, [][]int64{{1, 5, 2, 20}, {1, 5, 2}, {1, 5}, {1}, {}, nil}},
		"more places":              {0, [][]int64{{1, 5, 2, 20, 17, 18}, {1, 5, 2, 20, 17, 17}, {1, 5, 2, 20, 17, 0}, append(list(1, 5, 2), fill(61, 17)...)}},
		"the first place":          {0, [][]int64{{1, 5, 2, 16, 17}, {1, 5, 2, 27, 17}, {1, 5, 2, 0, 17}, {1, 5, 2, 1, 17}, {1, 5, 2, 46, 17}, {1, 5, 2, 47, 17}, {1, 5, 2, 273, 17}, {1, 5, 2, 65535, 17}}},
		"the last place":           {0, [][]int64{{1, 5, 2, 20, 16}, {1, 5, 2, 20, 27}, {1, 5, 2, 20, 0}, {1, 5, 2, 20, 1}, {1, 5, 2, 20, 46}, {1, 5, 2, 20, 47}, {1, 5, 2, 20, 65535}}},
		"words that are exchanged": {0, [][]int64{{5, 1, 2, 20, 17}, {1, 2, 5, 20, 17}, {2, 5, 1, 20, 17}, {1, 5, 20, 17, 2}}},
		"the last block's words":   {3, [][]int64{{1, 5, 2}, {0, 5, 2}, {3, 5, 2}, {258, 5, 2}, {65535, 5, 2}, {5, 2, 2}, {2, 2, 5}}},
		"the last block's number":  {3, [][]int64{{2, 4, 2}, {2, 6, 2}, {2, 0, 2}, {2, 65535, 2}}},
		"the last block's count":   {3, [][]int64{{2, 5, 1}, {2, 5, 3}, {2, 5, 0}, {2, 5, 10}, {2, 5, 11}, {2, 5, 65535}}},
		"a word more":              {3, [][]int64{{2, 5, 2, 0}, {2, 5, 2, 20}, {2, 5, 2, 20, 17}, fill(64, 2)}},
		"words fewer":              {3, [][]int64{{2, 5}, {2}, {}, nil}},
	} {
		for _, words := range c.words {
			rows := slices.Clone(whole)
			rows[c.row] = words
			what := fmt.Sprint(what, ": ", words)
			turned := withJournal(d, rows...)
			wantNotFound(t, what, turned)
			wantNotFound(t, what+" in Cache", put(t, withJournal(d, whole...), 1+int64(c.row), words...))
			wantFound(t, what+" mended in Cache", put(t, turned, 1+int64(c.row), whole[c.row]...), all)
			wantFound(t, what+" dropped", crash(t, put(t, withJournal(d, whole...), 1+int64(c.row), words...)), all)
		}
	}
	// The words of no block are below 0: that is the disk's own fault.
	for what, rows := range map[string][][]int64{
		"how many is -1":       {{1, 5, -1}, {2, 5, -1}},
		"a place of -1":        {{1, 5, 1, -1}, {0, 0, 0}, {2, 5, 1}},
		"a number of -1":       {{1, -1, 0}, {2, -1, 0}},
		"a last word of -1":    {{1, 5, 0}, {2, 5, -1}},
		"a place of 65536":     {{1, 5, 1, 65536}, {0, 0, 0}, {2, 5, 1}},
		"a word of -1 between": {{1, 5, 1, 17}, {0, 0, -1}, {2, 5, 1}},
	} {
		wantNoTx(t, what, impl.ScanJournal(withJournal(d, rows...)), impl.ErrRange)
		wantNoSteps(t, what, impl.PlanMount(withJournal(d, rows...)), impl.ErrRange)
	}
}

// A journal of no puts is one, too: its mount makes the number rise.
func TestJournalsOfNoPuts(t *testing.T) {
	d := withJournal(formatted(t, 5), list(1, 5, 0), list(2, 5, 0))
	wantFound(t, "no puts", d, nil)
	wantSteps(t, "no puts", impl.PlanMount(d), steps(flushStep(), stepOf(0, 7, 6), flushStep()))
	mounted := run(t, "no puts", d, impl.PlanMount(d).Steps)
	wantNumber(t, "no puts", impl.SeqOf(mounted), 6)
	wantFs(t, "no puts", impl.LoadImage(mounted), tree(dir()))
	wantNotFound(t, "its head alone", withJournal(formatted(t, 5), list(1, 5, 0)))
	wantNotFound(t, "its end alone", withJournal(formatted(t, 5), nil, list(2, 5, 0)))
	wantNotFound(t, "its end a block later", withJournal(formatted(t, 5), list(1, 5, 0), nil, list(2, 5, 0)))
	wantNotFound(t, "nothing", formatted(t, 5))
}

// The last block stands right behind the words, and nowhere else.
func TestWhereTheLastBlockStands(t *testing.T) {
	for n := range 11 {
		for at := int64(2); at < 17; at++ {
			rows := journalRows(5, somePuts(n)...)
			last := rows[1+n]
			d := withJournal(formatted(t, 5), rows[:1+n]...)
			d.Blocks[at] = last
			what := fmt.Sprint(n, " puts, the last block at ", at)
			if at == int64(2+n) {
				wantFound(t, what, d, somePuts(n))
			} else {
				wantNotFound(t, what, d)
			}
		}
	}
}

// Each place may be told, by itself, and as one of several; the same one may be
// told twice. They stand as they were told.
func TestPlacesOfJournals(t *testing.T) {
	for at := range int64(70) {
		for _, all := range [][]impl.Put{
			puts(putOf(at, 7)),
			puts(putOf(18, 1), putOf(at, 2, 3), putOf(17)),
			puts(putOf(at, 1), putOf(at, 2)),
			append(somePuts(9), putOf(at, 4)),
			append(puts(putOf(at, 4)), somePuts(9)...),
		} {
			d := withJournal(formatted(t, 5), journalRows(5, all...)...)
			what := fmt.Sprint("at ", at, " of ", len(all))
			if at >= 17 && at <= 26 {
				wantFound(t, what, d, all)
			} else {
				wantNotFound(t, what, d)
			}
		}
	}
}

// Words between are told whatever they are, in Blocks and in Cache, flushed and
// not, and those of the last put.
func TestWordsOfJournals(t *testing.T) {
	all := puts(impl.Put{At: 19, Words: fill(64, 65535)}, putOf(17), putOf(26, 0), putOf(18, 2, 5, 4), putOf(25, 1, 5, 0))
	rows := journalRows(5, all...)
	d := withJournal(formatted(t, 5), rows...)
	wantFound(t, "in Blocks", d, all)
	cached := formatted(t, 5)
	for row := len(rows) - 1; row >= 0; row-- {
		wantNotFound(t, fmt.Sprint("without the first ", row+1, " rows"), cached)
		cached = put(t, cached, 1+int64(row), rows[row]...)
	}
	wantFound(t, "in Cache alone", cached, all)
	wantFound(t, "flushed", flush(t, cached), all)
	wantNotFound(t, "dropped", crash(t, cached))
	for row := range rows {
		picks := slices.Repeat([]bool{true}, len(rows))
		picks[row] = false
		now := crash(t, cached, picks...)
		if last := int64(len(rows) - 1 - row); last >= 1 && last <= 5 {
			// A block between that is missing is not seen: it has no words.
			want := slices.Clone(all)
			want[last-1].Words = nil
			wantFound(t, fmt.Sprint("row ", last, " dropped"), now, want)
		} else {
			wantNotFound(t, fmt.Sprint("row ", last, " dropped"), now)
		}
	}
	turned := put(t, put(t, d, 3, 8, 8), 3, 9)
	want := slices.Clone(all)
	want[1].Words = list(9)
	wantFound(t, "the last put counts", turned, want)
	wantFound(t, "beside others", put(t, put(t, d, 8, 1), 16, 2), all)
	wantNotFound(t, "another number in Cache", put(t, d, 0, 7, 6))
	wantFound(t, "the same number in Cache", put(t, put(t, d, 0, 7, 6), 0, 7, 5), all)
}
