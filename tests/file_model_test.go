package tests

import (
	"fmt"
	"slices"
	"testing"

	"loop.example/g00295/impl"
)

// modelPlaceCode is the code that all of chapter 7 asks first.
func modelPlaceCode(f impl.Fs, at int64) int64 {
	if code := modelReachCode(f); code != impl.OK {
		return code
	}
	if code := modelTreeCode(f); code != impl.OK {
		return code
	}
	switch {
	case at < 0 || at >= int64(len(f.Inodes)):
		return impl.ErrRange
	case f.Inodes[at].Kind == impl.KindDir:
		return impl.ErrDir
	case f.Inodes[at].Kind == impl.KindFree:
		return impl.ErrNone
	}
	return impl.OK
}

// modelBusyCode is the code that those that write ask next.
func modelBusyCode(busy []int64) int64 {
	if len(busy) > 20 {
		return impl.ErrMany
	}
	for _, at := range busy {
		if !among(upTo(20), at) {
			return impl.ErrRange
		}
	}
	return impl.OK
}

// firstCode is the first one of these that is so.
func firstCode(codes ...int64) int64 {
	for _, code := range codes {
		if code != impl.OK {
			return code
		}
	}
	return impl.OK
}

func codeIf(is bool, code int64) int64 {
	if is {
		return code
	}
	return impl.OK
}

// modelText is the bytes of a file, told by its blocks.
func modelText(f impl.Fs, at int64) []byte {
	var text []byte
	for _, block := range f.Inodes[at].Blocks {
		text = append(text, f.Data[block]...)
	}
	return text
}

// overlaid is a text with data in it from a place on.
func overlaid(text []byte, from int64, data []byte) []byte {
	out := slices.Clone(text)
	for i, b := range data {
		for int64(len(out)) <= from+int64(i) {
			out = append(out, 0)
		}
		out[from+int64(i)] = b
	}
	return out
}

// checkAsked holds all functions against the model at one place, and gives the
// codes of those that write: SetBytes, WriteFile, CutFile.
func checkAsked(t *testing.T, a asked) [3]int64 {
	t.Helper()
	what := fmt.Sprintf("at %d, from %d, n %d, size %d, %d bytes, busy %v of %v", a.at, a.from, a.n, a.size, len(a.data), a.busy, a.fs)
	place := modelPlaceCode(a.fs, a.at)
	fromCode := codeIf(a.from < 0 || a.from > 1000, impl.ErrRange)
	sizeCode := codeIf(a.size < 0 || a.size > 32, impl.ErrRange)

	read := impl.ReadFile(a.fs, a.at, a.from, a.n)
	if code := firstCode(place, fromCode, codeIf(a.n < 0 || a.n > 100, impl.ErrRange)); code != impl.OK {
		wantNoBytes(t, "ReadFile "+what, read, code)
	} else {
		text := append(modelText(a.fs, a.at), make([]byte, 2000)...)
		size := a.fs.Inodes[a.at].Size
		wantBytes(t, "ReadFile "+what, read, text[:size][min(a.from, size):min(a.from+a.n, size)])
	}

	busy := modelBusyCode(a.busy)
	end := int64(len(a.data))
	codes := [3]int64{
		firstCode(place, busy, codeIf(end > 32, impl.ErrMany)),
		firstCode(place, busy, fromCode, codeIf(a.from > 32-end, impl.ErrMany)),
		firstCode(place, busy, sizeCode),
	}
	results := [3]impl.FsResult{
		impl.SetBytes(a.fs, a.at, a.data, a.busy),
		impl.WriteFile(a.fs, a.at, a.from, a.data, a.busy),
		impl.CutFile(a.fs, a.at, a.size, a.busy),
	}
	for i, code := range codes {
		if code != impl.OK {
			wantNoFs(t, fmt.Sprint([]string{"SetBytes ", "WriteFile ", "CutFile "}[i], what), results[i], code)
		}
	}
	if codes[0] == impl.OK {
		checkSet(t, "SetBytes "+what, a.fs, a.at, a.data, a.busy, results[0])
	}
	if codes[1] == impl.OK && len(a.data) == 0 {
		checkNothingWritten(t, what, a.fs, a.at, a.busy)
	} else if codes[1] == impl.OK {
		checkSet(t, "WriteFile "+what, a.fs, a.at, overlaid(modelText(a.fs, a.at), a.from, a.data), a.busy, results[1])
	}
	if codes[2] == impl.OK {
		text := append(modelText(a.fs, a.at), make([]byte, 32)...)[:a.size]
		checkSet(t, "CutFile "+what, a.fs, a.at, text, a.busy, results[2])
	}
	checkDropped(t, "DropFile "+what, a, place)
	return [3]int64{results[0].Code, results[1].Code, results[2].Code}
}

func checkDropped(t *testing.T, what string, a asked, place int64) {
	t.Helper()
	r := impl.DropFile(a.fs, a.at)
	if place != impl.OK {
		wantNoFs(t, what, r, place)
		return
	}
	want := impl.Fs{Inodes: slices.Clone(a.fs.Inodes), Data: slices.Clone(a.fs.Data)}
	for _, block := range want.Inodes[a.at].Blocks {
		want.Data[block] = nil
	}
	want.Inodes[a.at] = kind(0)
	if r.Code != impl.OK || !impl.SameFs(r.Fs, want) {
		t.Errorf("%s: %v, not %v", what, r, want)
	}
}

func diceText(d *dice, n int64) []byte {
	text := make([]byte, n)
	for i := range text {
		text[i] = byte(d.below(256))
	}
	return text
}

// diceAsked is mostly right, and each part of it wrong now and then.
func diceAsked(d *dice, f impl.Fs) asked {
	a := asked{fs: f, at: d.below(int64(len(f.Inodes))), from: d.below(33), n: d.below(40), size: d.below(33), busy: diceBusy(d)}
	if files := filesIn(f); len(files) > 0 && d.below(6) > 0 {
		a.at = files[d.below(int64(len(files)))]
	}
	a.data = diceText(d, d.below(34-a.from))
	if d.below(3) == 0 {
		a.busy = a.busy[:len(a.busy)/4]
	}
	switch d.below(20) {
	case 0:
		a.at = list(-1, int64(len(f.Inodes)), 10)[d.below(3)]
	case 1:
		a.from = list(-1, 33, 1000, 1001)[d.below(4)]
	case 2:
		a.n = list(-1, 100, 101)[d.below(3)]
	case 3:
		a.size = list(-1, 33)[d.below(2)]
	case 4:
		a.data = diceText(d, 30+d.below(8))
	case 5:
		a.busy = append(a.busy, list(-1, 20)[d.below(2)])
	case 6:
		a.busy = fill(21, d.below(21))
	}
	return a
}

func TestFilesAgainstModel(t *testing.T) {
	d := dice(9)
	var count [3][11]int
	for range 6000 {
		f := diceTree(&d)
		if d.below(12) == 0 {
			diceFault(&d, &f)
		}
		for i, code := range checkAsked(t, diceAsked(&d, f)) {
			count[i][code]++
		}
		if t.Failed() {
			t.FailNow()
		}
	}
	for i := range count {
		for _, code := range []int{impl.OK, impl.ErrForm, impl.ErrMany, impl.ErrRange, impl.ErrNone, impl.ErrFull, impl.ErrDir} {
			if count[i][code] == 0 {
				t.Errorf("no call had code %d: %v", code, count[i])
			}
		}
	}
}

// Many calls one behind the other, held against texts kept by hand: the files
// have their texts, and the tree stays whole, whatever is busy.
func TestFilesWrittenOnAndOn(t *testing.T) {
	for seed := range dice(60) {
		d := seed
		f := diceTree(&d)
		files := filesIn(f)
		if len(files) == 0 {
			continue
		}
		texts := map[int64][]byte{}
		for _, at := range files {
			texts[at] = modelText(f, at)
		}
		for range 60 {
			at := files[d.below(int64(len(files)))]
			from, size := d.below(33), d.below(33)
			data := diceText(&d, d.below(33-from))
			busy := diceBusy(&d)[:0:0]
			if d.below(2) == 0 {
				busy = diceBusy(&d)
			}
			r, text := impl.FsResult{}, []byte(nil)
			switch d.below(3) {
			case 0:
				r, text = impl.SetBytes(f, at, data, busy), data
			case 1:
				r, text = impl.WriteFile(f, at, from, data, busy), overlaid(texts[at], from, data)
			case 2:
				r, text = impl.CutFile(f, at, size, busy), append(slices.Clone(texts[at]), make([]byte, 32)...)[:size]
			}
			if r.Code == impl.OK {
				f, texts[at] = r.Fs, text
			} else {
				wantNoFs(t, "on and on", r, impl.ErrFull)
			}
			wantCode(t, "on and on: FsFault", impl.FsFault(f), impl.OK)
			for _, other := range files {
				wantBytes(t, fmt.Sprint("on and on: file ", other), impl.BytesIn(f, other), texts[other])
			}
		}
	}
}
