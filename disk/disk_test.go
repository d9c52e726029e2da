package disk_test

import (
	"bytes"
	"math"
	"math/rand/v2"
	"slices"
	"strconv"
	"testing"

	"wristband/api"
	"wristband/disk"
)

const (
	// most bytes of an area.
	most = 1048576
	// areas of a disk.
	areas = 2
)

// some bytes by chance.
func some(r *rand.Rand, n int) []byte {
	b := make([]byte, n)
	for k := range b {
		b[k] = byte(r.Uint32())
	}
	return b
}

// area of a text, of which the first bytes are sure.
func area(text string, sure int) api.Area {
	return api.Area{Bytes: []byte(text), Sure: sure}
}

// of two areas: a disk that nothing befalls.
func of(one, other api.Area) api.Disk {
	return api.Disk{Areas: [areas]api.Area{one, other}, Fuse: -1}
}

// set a disk's Fuse and Keep.
func set(d api.Disk, fuse, keep int) api.Disk {
	d.Fuse, d.Keep = fuse, keep
	return d
}

// down is a disk without power.
func down(d api.Disk) api.Disk {
	d.Down = true
	return d
}

// deep copy of a disk.
func deep(d api.Disk) api.Disk {
	for k, a := range d.Areas {
		d.Areas[k].Bytes = slices.Clone(a.Bytes)
	}
	return d
}

// same disks? Bytes may be nil or empty alike.
func same(a, b api.Disk) bool {
	for k := range a.Areas {
		if a.Areas[k].Sure != b.Areas[k].Sure || !bytes.Equal(a.Areas[k].Bytes, b.Areas[k].Bytes) {
			return false
		}
	}
	return a.Fuse == b.Fuse && a.Keep == b.Keep && a.Down == b.Down
}

// told is a disk in few words, since an area may be a long one.
func told(d api.Disk) string {
	out := ""
	for _, a := range d.Areas {
		text := "<" + strconv.Itoa(len(a.Bytes)) + " bytes>"
		if len(a.Bytes) < 50 {
			text = strconv.Quote(string(a.Bytes))
		}
		out += text + " sure " + strconv.Itoa(a.Sure) + ", "
	}
	out += "fuse " + strconv.Itoa(d.Fuse) + ", keep " + strconv.Itoa(d.Keep)
	if d.Down {
		out += ", down"
	}
	return out
}

// call is one that changes a disk.
type call struct {
	name string
	do   func(d api.Disk) (api.Disk, api.Errno)
}

func write(k int, b []byte) call {
	name := "Write(.., " + strconv.Itoa(k) + ", " + strconv.Itoa(len(b)) + " bytes)"
	return call{name, func(d api.Disk) (api.Disk, api.Errno) { return disk.Write(d, k, b) }}
}

func sync(k int) call {
	return call{"Sync(.., " + strconv.Itoa(k) + ")", func(d api.Disk) (api.Disk, api.Errno) { return disk.Sync(d, k) }}
}

func wipe(k int) call {
	return call{"Wipe(.., " + strconv.Itoa(k) + ")", func(d api.Disk) (api.Disk, api.Errno) { return disk.Wipe(d, k) }}
}

func crash(keep int) call {
	return call{"Crash(.., " + strconv.Itoa(keep) + ")", func(d api.Disk) (api.Disk, api.Errno) { return disk.Crash(d, keep) }}
}

func rise() call {
	return call{"Rise(..)", disk.Rise}
}

// steps on an area: writes, of no bytes too, a sync and a wipe.
func steps(k int) []call {
	return []call{write(k, nil), write(k, []byte("x")), write(k, []byte("xyz")), sync(k), wipe(k)}
}

// calls of all kinds that may be made.
func calls() []call {
	return slices.Concat(steps(0), steps(1), []call{crash(0), crash(1), crash(math.MaxInt), rise()})
}

// check what a call answers, and that what is handed in stays.
func check(t *testing.T, c call, d, want api.Disk, wantE api.Errno) {
	t.Helper()
	was := deep(d)
	if got, e := c.do(d); !same(got, want) || e != wantE {
		t.Fatalf("%s of %s = %s, %v, want %s, %v", c.name, told(was), told(got), e, told(want), wantE)
	}
	if !same(d, was) {
		t.Fatalf("%s of %s left %s", c.name, told(was), told(d))
	}
}

// otherDark: byte by byte, those that are sure and so many more.
func otherDark(d api.Disk, keep int) api.Disk {
	for k, a := range d.Areas {
		var left []byte
		for i, c := range a.Bytes {
			if i < a.Sure || i-a.Sure < keep {
				left = append(left, c)
			}
		}
		d.Areas[k] = api.Area{Bytes: left, Sure: len(left)}
	}
	d.Down, d.Fuse = true, -1
	return d
}

// otherWrite of a right disk, in the order of the chapter.
func otherWrite(d api.Disk, k int, b []byte) (api.Disk, api.Errno) {
	out := deep(d)
	if d.Down {
		return out, api.ErrDown
	}
	if len(d.Areas[k].Bytes)+len(b) > most {
		return out, api.ErrFull
	}
	for i, c := range b {
		if d.Fuse != 0 || i < d.Keep {
			out.Areas[k].Bytes = append(out.Areas[k].Bytes, c)
		}
	}
	return otherFuse(out)
}

// otherStep of a right disk that makes an area another one.
func otherStep(d api.Disk, k int, a api.Area) (api.Disk, api.Errno) {
	out := deep(d)
	if d.Down {
		return out, api.ErrDown
	}
	if d.Fuse != 0 {
		out.Areas[k] = a
	}
	return otherFuse(out)
}

// otherFuse of a disk on which is done what is to be done: it burns, or the power goes.
func otherFuse(d api.Disk) (api.Disk, api.Errno) {
	if d.Fuse == 0 {
		return otherDark(d, d.Keep), api.ErrDown
	}
	if d.Fuse > 0 {
		d.Fuse--
	}
	return d, api.OK
}

// fuses and keeps at their edges.
func fuses() []int { return []int{-1, 0, 1, 2, 7, math.MaxInt} }
func keeps() []int { return []int{0, 1, 2, 3, 4, 9, math.MaxInt - 1, math.MaxInt} }

// smallOnes: all right disks of few bytes.
func smallOnes() []api.Disk {
	var kinds []api.Area
	for _, text := range []string{"", "a", "ab", "abc"} {
		for sure := range len(text) + 1 {
			kinds = append(kinds, area(text, sure))
		}
	}
	var l []api.Disk
	for _, one := range kinds {
		for _, other := range kinds {
			for _, fuse := range fuses() {
				for _, keep := range keeps() {
					d := set(of(one, other), fuse, keep)
					l = append(l, d, down(d))
				}
			}
		}
	}
	return l
}

// wrongOnes: a Sure, a length, a Fuse or a Keep that may not be.
func wrongOnes() []api.Disk {
	fine := of(area("abc", 2), area("de", 2))
	var l []api.Disk
	for k := range areas {
		for _, a := range []api.Area{
			area("", -1), area("", 1), area("abc", -1), area("abc", 4), area("abc", math.MaxInt), area("abc", math.MinInt),
			{Bytes: make([]byte, most+1)}, {Bytes: make([]byte, most+1), Sure: most}, {Bytes: make([]byte, most+1), Sure: most + 1},
			// Spare room behind an area's bytes isn't the area's.
			{Bytes: make([]byte, 3, 10), Sure: 4},
		} {
			d := fine
			d.Areas[k] = a
			l = append(l, d, set(d, 0, 1))
		}
	}
	for _, wrong := range []int{-1, -2, -3, -256, math.MinInt} {
		l = append(l, set(fine, -1, wrong), set(fine, 0, wrong), set(fine, 3, wrong))
		if wrong < -1 {
			l = append(l, set(fine, wrong, 0), set(fine, wrong, 3), set(fine, wrong, wrong))
		}
	}
	for _, d := range l {
		l = append(l, down(d))
	}
	return l
}

// long area, of so many bytes.
func long(n, sure int) api.Area {
	return api.Area{Bytes: some(rand.New(rand.NewPCG(1700, uint64(n))), n), Sure: sure}
}

// P17.1

func TestNew(t *testing.T) {
	d := disk.New()
	if !same(d, api.Disk{Fuse: -1}) || !disk.Right(d) {
		t.Errorf("New() = %s", told(d))
	}
	if other := disk.New(); !same(other, d) {
		t.Errorf("another new one is %s", told(other))
	}
}

func TestRight(t *testing.T) {
	for _, d := range smallOnes() {
		if !disk.Right(d) {
			t.Errorf("Right(%s) = false", told(d))
		}
	}
	for _, d := range wrongOnes() {
		if disk.Right(d) {
			t.Errorf("Right(%s) = true", told(d))
		}
	}
	if !disk.Right(api.Disk{}) {
		t.Error("Right of the zero disk = false")
	}
}

// TestRightOfEachSure: from none to all of an area, in either area.
func TestRightOfEachSure(t *testing.T) {
	for n := range 40 {
		for sure := -40; sure < 80; sure++ {
			a := api.Area{Bytes: make([]byte, n, 60), Sure: sure}
			want := 0 <= sure && sure <= n
			for _, d := range []api.Disk{of(a, api.Area{}), of(api.Area{}, a), of(a, a)} {
				if disk.Right(d) != want || disk.Right(down(d)) != want {
					t.Fatalf("Right(%s) = %v", told(d), !want)
				}
			}
		}
	}
}

// TestRightOfEachLength at the edge of what an area may have.
func TestRightOfEachLength(t *testing.T) {
	room := make([]byte, 2*most)
	for _, n := range []int{most - 2, most - 1, most, most + 1, most + 2, 2 * most} {
		for _, sure := range []int{0, 1, most - 2, n} {
			a := api.Area{Bytes: room[:n], Sure: sure}
			for _, d := range []api.Disk{of(a, api.Area{}), of(api.Area{}, a), of(a, a)} {
				if want := n <= most; disk.Right(d) != want {
					t.Errorf("Right(%s) = %v", told(d), !want)
				}
			}
		}
	}
}

func TestRightOfEachFuseAndKeep(t *testing.T) {
	fine := of(area("abc", 1), area("", 0))
	for _, n := range []int{math.MinInt, math.MinInt + 1, -1 << 32, -1 << 31, -257, -3, -2, -1, 0, 1, 2, 256, 1 << 31, 1 << 32, math.MaxInt} {
		if want := n >= -1; disk.Right(set(fine, n, 0)) != want {
			t.Errorf("Right with Fuse %d = %v", n, !want)
		}
		if want := n >= 0; disk.Right(set(fine, 0, n)) != want {
			t.Errorf("Right with Keep %d = %v", n, !want)
		}
	}
}

// P17.2

func TestWrite(t *testing.T) {
	both := of(area("ab", 1), area("c", 1))
	check(t, write(0, []byte("xyz")), both, of(area("abxyz", 1), area("c", 1)), api.OK)
	check(t, write(1, []byte("xyz")), both, of(area("ab", 1), area("cxyz", 1)), api.OK)
	check(t, write(0, nil), both, both, api.OK)
	check(t, write(0, []byte{0, 255}), disk.New(), of(area("\x00\xff", 0), api.Area{}), api.OK)
	// The example.
	check(t, write(0, []byte{1, 2, 3}), set(disk.New(), 0, 2), down(set(of(area("\x01\x02", 2), api.Area{}), -1, 2)), api.ErrDown)
	check(t, write(1, []byte{1, 2, 3}), set(disk.New(), 0, 2), down(set(of(api.Area{}, area("\x01\x02", 2)), -1, 2)), api.ErrDown)
	// Both areas are cut, and what was written may be cut, too.
	check(t, write(0, []byte("xyz")), set(both, 0, 0), down(set(of(area("a", 1), area("c", 1)), -1, 0)), api.ErrDown)
	check(t, write(1, []byte("xyz")), set(both, 0, 1), down(set(of(area("ab", 2), area("cx", 2)), -1, 1)), api.ErrDown)
	check(t, write(0, []byte("xyz")), set(both, 0, 2), down(set(of(area("abx", 3), area("c", 1)), -1, 2)), api.ErrDown)
	check(t, write(0, []byte("xyz")), set(both, 0, math.MaxInt), down(set(of(area("abxyz", 5), area("c", 1)), -1, math.MaxInt)), api.ErrDown)
	check(t, write(0, []byte("xyz")), set(both, 1, 2), set(of(area("abxyz", 1), area("c", 1)), 0, 2), api.OK)
	check(t, write(0, []byte("xyz")), down(both), down(both), api.ErrDown)
}

func TestSync(t *testing.T) {
	both := of(area("ab", 1), area("cd", 0))
	check(t, sync(0), both, of(area("ab", 2), area("cd", 0)), api.OK)
	check(t, sync(1), both, of(area("ab", 1), area("cd", 2)), api.OK)
	check(t, sync(0), disk.New(), disk.New(), api.OK)
	check(t, sync(0), set(both, 5, 3), set(of(area("ab", 2), area("cd", 0)), 4, 3), api.OK)
	check(t, sync(1), set(both, 0, 0), down(of(area("a", 1), api.Area{})), api.ErrDown)
	check(t, sync(1), set(both, 0, 1), down(set(of(area("ab", 2), area("c", 1)), -1, 1)), api.ErrDown)
	check(t, sync(0), down(both), down(both), api.ErrDown)
}

func TestWipe(t *testing.T) {
	both := of(area("ab", 1), area("cd", 2))
	check(t, wipe(0), both, of(api.Area{}, area("cd", 2)), api.OK)
	check(t, wipe(1), both, of(area("ab", 1), api.Area{}), api.OK)
	check(t, wipe(0), disk.New(), disk.New(), api.OK)
	check(t, wipe(0), set(both, 1, 3), set(of(api.Area{}, area("cd", 2)), 0, 3), api.OK)
	check(t, wipe(0), set(both, 0, 0), down(of(area("a", 1), area("cd", 2))), api.ErrDown)
	check(t, wipe(1), set(both, 0, 1), down(set(of(area("ab", 2), area("cd", 2)), -1, 1)), api.ErrDown)
	check(t, wipe(1), down(both), down(both), api.ErrDown)
}

// TestStepsOfSmallOnes: each step on each small disk is what the chapter gone through byte by byte tells, too.
func TestStepsOfSmallOnes(t *testing.T) {
	for _, d := range smallOnes() {
		for k := range areas {
			for _, text := range []string{"", "x", "xy", "xyz", "vwxyz"} {
				want, e := otherWrite(d, k, []byte(text))
				check(t, write(k, []byte(text)), d, want, e)
			}
			want, e := otherStep(d, k, area(string(d.Areas[k].Bytes), len(d.Areas[k].Bytes)))
			check(t, sync(k), d, want, e)
			want, e = otherStep(d, k, api.Area{})
			check(t, wipe(k), d, want, e)
		}
	}
}

// TestWriteOfEachLength at each Keep: of a write at which the power goes.
func TestWriteOfEachLength(t *testing.T) {
	r := rand.New(rand.NewPCG(1701, 1702))
	for n := range 24 {
		b := some(r, n)
		for keep := range 40 {
			for sure := range 5 {
				d := set(of(area("efgh", sure), area("ijklmn", sure+1)), 0, keep)
				want, e := otherWrite(d, 0, b)
				check(t, write(0, b), d, want, e)
				want, e = otherWrite(d, 1, b)
				check(t, write(1, b), d, want, e)
			}
		}
	}
}

// TestWriteUpToTheMost: an area may get full, but no fuller, and then nothing befalls the disk: its fuse doesn't burn.
func TestWriteUpToTheMost(t *testing.T) {
	for _, left := range []int{0, 1, 2, 3, most} {
		full := long(most-left, (most-left)/2)
		for k := range areas {
			for _, d := range []api.Disk{of(full, area("ab", 1)), set(of(full, area("ab", 1)), 0, 3), set(of(full, area("ab", 1)), 2, 0)} {
				d.Areas[0], d.Areas[1] = d.Areas[k], d.Areas[1-k]
				for _, n := range []int{0, left - 1, left, left + 1, left + 2, most, most + 1, 2 * most} {
					if n < 0 {
						continue
					}
					b := some(rand.New(rand.NewPCG(1703, uint64(n))), n)
					want, e := otherWrite(d, k, b)
					if (e == api.ErrFull) != (n > left) {
						t.Fatalf("%d into what has room for %d: %v", n, left, e)
					}
					check(t, write(k, b), d, want, e)
					check(t, write(k, b), down(d), down(d), api.ErrDown)
				}
			}
		}
	}
}

// TestFullTakesOtherSteps: a full area beside it is no matter, and a full one may be synced and wiped.
func TestFullTakesOtherSteps(t *testing.T) {
	full := long(most, 5)
	d := of(full, area("ab", 1))
	check(t, write(1, []byte("xyz")), d, of(full, area("abxyz", 1)), api.OK)
	check(t, write(0, nil), d, d, api.OK)
	check(t, sync(0), d, of(api.Area{Bytes: full.Bytes, Sure: most}, area("ab", 1)), api.OK)
	check(t, wipe(0), d, of(api.Area{}, area("ab", 1)), api.OK)
	check(t, write(0, []byte("x")), set(d, 0, 7), set(d, 0, 7), api.ErrFull)
	check(t, write(0, nil), set(d, 0, 7), down(set(of(api.Area{Bytes: full.Bytes[:12], Sure: 12}, area("ab", 2)), -1, 7)), api.ErrDown)
	both := of(full, full)
	check(t, write(1, []byte("x")), both, both, api.ErrFull)
}

// TestWrongArguments: ahead of all else, of any disk, the disk is as it is, wrong or not.
func TestWrongArguments(t *testing.T) {
	for _, d := range wrongOnes() {
		for _, c := range calls() {
			check(t, c, d, d, api.ErrArg)
		}
	}
	fine := of(area("abc", 2), area("de", 0))
	full := of(long(most, 0), long(most, 0))
	for _, d := range []api.Disk{disk.New(), fine, set(fine, 0, 1), set(fine, 3, 0), down(fine), full, down(full)} {
		for _, k := range []int{-1, 2, 3, -2, 256, 257, 1 << 32, 1<<32 + 1, math.MaxInt, math.MinInt} {
			for _, c := range steps(k) {
				check(t, c, d, d, api.ErrArg)
			}
		}
	}
}

// TestFuse: so many steps are taken, of whichever kind and area, and at the next one the power goes; beside an error it doesn't burn.
func TestFuse(t *testing.T) {
	all := slices.Concat(steps(0), steps(1))
	for fuse := range 12 {
		for first := range all {
			d := set(of(area("abc", 1), area("de", 2)), fuse, 1)
			for n := range fuse {
				for _, c := range []call{write(0, make([]byte, most+1)), sync(2), wipe(-1), crash(-1), rise()} {
					if got, e := c.do(d); e == api.OK || !same(got, d) {
						t.Fatalf("%s of %s = %s, %v", c.name, told(d), told(got), e)
					}
				}
				next, e := all[(first+n)%len(all)].do(d)
				if e != api.OK || next.Fuse != fuse-n-1 || next.Down {
					t.Fatalf("step %d of %d: %s, %v", n, fuse, told(next), e)
				}
				d = next
			}
			d, e := all[(first+fuse)%len(all)].do(d)
			if e != api.ErrDown || d.Fuse != -1 || !d.Down || d.Keep != 1 {
				t.Fatalf("the step behind %d: %s, %v", fuse, told(d), e)
			}
		}
	}
}

// TestWithoutAFuse: nothing befalls a disk, however many steps are taken.
func TestWithoutAFuse(t *testing.T) {
	d := disk.New()
	for range 500 {
		for _, c := range slices.Concat(steps(0), steps(1)) {
			next, e := c.do(d)
			if e != api.OK || next.Fuse != -1 || next.Down {
				t.Fatalf("%s of %s = %s, %v", c.name, told(d), told(next), e)
			}
			d = next
		}
	}
}

// P17.3

func TestCrash(t *testing.T) {
	both := of(area("abcde", 2), area("fg", 0))
	check(t, crash(0), both, down(of(area("ab", 2), api.Area{})), api.OK)
	check(t, crash(1), both, down(of(area("abc", 3), area("f", 1))), api.OK)
	check(t, crash(3), both, down(of(area("abcde", 5), area("fg", 2))), api.OK)
	check(t, crash(math.MaxInt), both, down(of(area("abcde", 5), area("fg", 2))), api.OK)
	check(t, crash(0), disk.New(), down(disk.New()), api.OK)
	// Its own Keep is another matter; whatever its Fuse was, there is none any more.
	check(t, crash(1), set(both, 0, 4), down(set(of(area("abc", 3), area("f", 1)), -1, 4)), api.OK)
	check(t, crash(4), set(both, 9, 0), down(of(area("abcde", 5), area("fg", 2))), api.OK)
	check(t, crash(1), down(both), down(both), api.ErrDown)
	check(t, crash(-1), both, both, api.ErrArg)
	check(t, crash(-1), down(both), down(both), api.ErrArg)
}

func TestCrashOfSmallOnes(t *testing.T) {
	for _, d := range smallOnes() {
		for _, keep := range keeps() {
			if d.Down {
				check(t, crash(keep), d, d, api.ErrDown)
				continue
			}
			check(t, crash(keep), d, otherDark(deep(d), keep), api.OK)
		}
		for _, keep := range []int{-1, -2, -256, math.MinInt} {
			check(t, crash(keep), d, d, api.ErrArg)
		}
	}
}

// TestCrashOfLongOnes: keep and Sure together are no int any more, or just at an area's end.
func TestCrashOfLongOnes(t *testing.T) {
	for _, sure := range []int{0, 1, most - 1, most} {
		d := of(long(most, sure), long(most-1, 7))
		for _, keep := range []int{0, 1, most - 8, most - 7, most - 1, most, math.MaxInt - most, math.MaxInt - 1, math.MaxInt} {
			check(t, crash(keep), d, otherDark(deep(d), keep), api.OK)
		}
	}
}

func TestRise(t *testing.T) {
	both := of(area("abc", 1), area("de", 2))
	check(t, rise(), down(both), both, api.OK)
	check(t, rise(), both, both, api.ErrArg)
	check(t, rise(), disk.New(), disk.New(), api.ErrArg)
	for _, d := range smallOnes() {
		if !d.Down {
			check(t, rise(), d, d, api.ErrArg)
			continue
		}
		want := deep(d)
		want.Down = false
		check(t, rise(), d, want, api.OK)
	}
}

// TestDownTakesNothing, but it may rise, and risen it takes steps again.
func TestDownTakesNothing(t *testing.T) {
	d, _ := disk.Write(disk.New(), 0, []byte("abc"))
	d, e := disk.Crash(d, 2)
	if want := down(of(area("ab", 2), api.Area{})); e != api.OK || !same(d, want) {
		t.Fatalf("crashed: %s, %v", told(d), e)
	}
	for _, c := range slices.Concat(steps(0), steps(1), []call{crash(0), crash(5)}) {
		check(t, c, d, d, api.ErrDown)
	}
	d, _ = disk.Rise(d)
	for _, c := range slices.Concat(steps(0), steps(1), []call{crash(0)}) {
		if next, e := c.do(d); e != api.OK {
			t.Errorf("%s behind a rise: %s, %v", c.name, told(next), e)
		}
	}
}

// P17.4

// TestStaysRight: whatever call is made of a right disk, whatever it answers.
func TestStaysRight(t *testing.T) {
	for _, d := range smallOnes() {
		for _, c := range calls() {
			if got, e := c.do(d); !disk.Right(got) {
				t.Fatalf("%s of %s = %s, %v", c.name, told(d), told(got), e)
			}
		}
	}
}

// past of a disk: of each area what was written behind its last wipe, and how many of that are sure.
type past struct {
	written [areas][]byte
	sure    [areas]int
}

// dark: what is there behind it was written, but what was lost.
func (p *past) dark(t *testing.T, d api.Disk) {
	t.Helper()
	if !d.Down || d.Fuse != -1 {
		t.Fatalf("the power went: %s", told(d))
	}
	for k, a := range d.Areas {
		if !bytes.HasPrefix(p.written[k], a.Bytes) || len(a.Bytes) < p.sure[k] || a.Sure != len(a.Bytes) {
			t.Fatalf("%q was written into area %d, %d of them sure; behind that: %s", p.written[k], k, p.sure[k], told(d))
		}
		p.written[k], p.sure[k] = a.Bytes, a.Sure
	}
}

// holds: while the power lasts, just what was written is there.
func (p *past) holds(t *testing.T, d api.Disk) {
	t.Helper()
	for k, a := range d.Areas {
		if !bytes.Equal(a.Bytes, p.written[k]) || a.Sure != p.sure[k] {
			t.Fatalf("%q was written into area %d, %d of them sure: %s", p.written[k], k, p.sure[k], told(d))
		}
	}
}

// step by chance: the disk behind it, and what becomes of its past.
func (p *past) step(t *testing.T, r *rand.Rand, d api.Disk) api.Disk {
	t.Helper()
	k, last := r.IntN(areas), d.Fuse == 0
	var got api.Disk
	var e api.Errno
	switch r.IntN(10) {
	case 0:
		if got, e = disk.Wipe(d, k); !last {
			p.written[k], p.sure[k] = nil, 0
		}
	case 1, 2, 3:
		if got, e = disk.Sync(d, k); !last {
			p.sure[k] = len(p.written[k])
		}
	default:
		b := some(r, r.IntN(6))
		got, e = disk.Write(d, k, b)
		p.written[k] = slices.Concat(p.written[k], b)
	}
	if !disk.Right(got) || (e == api.ErrDown) != last || e != api.OK && !last {
		t.Fatalf("a step of %s: %s, %v", told(d), told(got), e)
	}
	if last {
		p.dark(t, got)
	}
	return got
}

// TestLifeOfADisk: steps by chance, fuses and crashes; it rises again with what it has.
func TestLifeOfADisk(t *testing.T) {
	r := rand.New(rand.NewPCG(1704, 1705))
	for range 200 {
		d, p := disk.New(), &past{}
		for range 200 {
			switch {
			case d.Down:
				d, _ = disk.Rise(d)
			case r.IntN(40) == 0:
				d, _ = disk.Crash(d, r.IntN(8))
				p.dark(t, d)
			default:
				if d.Fuse < 0 && r.IntN(20) == 0 {
					d = set(d, r.IntN(6), r.IntN(8))
				}
				d = p.step(t, r, d)
			}
			p.holds(t, d)
		}
	}
}

// TestPowerGoesAtEachStep of a row of them, whatever is kept: area 0 is written anew behind a wipe, area 1 goes on.
func TestPowerGoesAtEachStep(t *testing.T) {
	row := []call{write(1, []byte("first")), sync(1), write(0, []byte("elder")), sync(0), write(1, []byte("second")), wipe(0), write(0, []byte("newer")), sync(0), sync(1)}
	// How many bytes of each area are sure at each step, and what was written up to it.
	sure := [areas][]int{{0, 0, 0, 0, 5, 5, 0, 0, 5}, {0, 0, 5, 5, 5, 5, 5, 5, 5}}
	texts := [areas][]string{{"", "", "elder", "elder", "elder", "elder", "newer", "newer", "newer"}, {"first", "first", "first", "first", "firstsecond", "firstsecond", "firstsecond", "firstsecond", "firstsecond"}}
	for at := range row {
		for keep := range 15 {
			d, e := set(disk.New(), at, keep), api.OK
			for n, c := range row[:at+1] {
				if d, e = c.do(d); (e == api.ErrDown) != (n == at) {
					t.Fatalf("%s, step %d of %d: %v", c.name, n, at, e)
				}
			}
			for k := range areas {
				text := texts[k][at]
				want := text[:min(len(text), sure[k][at]+keep)]
				if got := d.Areas[k]; string(got.Bytes) != want || got.Sure != len(want) {
					t.Errorf("the power goes at step %d, %d are kept: %s, want %q", at, keep, told(d), want)
				}
			}
		}
	}
}

// What is answered is new memory.

// spoil all of a disk's memory, its spare room, too.
func spoil(d api.Disk) {
	for _, a := range d.Areas {
		spoilBytes(a.Bytes)
	}
}

func spoilBytes(b []byte) {
	b = b[:cap(b)]
	for k := range b {
		b[k] ^= 85
	}
}

// roomy copy of a disk, with something in all spare room; whole shows it, too.
func roomy(d api.Disk) (part, whole api.Disk) {
	part, whole = d, d
	for k, a := range d.Areas {
		room := slices.Concat(a.Bytes, []byte("behind it is more"))
		part.Areas[k].Bytes, whole.Areas[k].Bytes = room[:len(a.Bytes)], room
	}
	return part, whole
}

// someOnes: a few disks of each kind.
func someOnes() []api.Disk {
	fine := of(area("abcdef", 2), area("gh", 1))
	wrong := of(area("abcdef", 7), area("gh", -1))
	l := []api.Disk{disk.New(), fine, set(fine, 0, 0), set(fine, 0, 2), set(fine, 0, 9), set(fine, 3, 1), wrong, set(fine, -2, 0)}
	for _, d := range l {
		l = append(l, down(d))
	}
	return append(l, of(long(most, 3), area("gh", 1)))
}

func TestAnswersAreNewMemory(t *testing.T) {
	more := []call{write(2, []byte("x")), sync(-1), wipe(2), crash(-1), crash(5)}
	for _, d := range someOnes() {
		for _, c := range slices.Concat(calls(), more) {
			part, whole := roomy(d)
			was := deep(whole)
			want, _ := c.do(part)
			want = deep(want)
			got, _ := c.do(part)
			spoil(got)
			if !same(whole, was) {
				t.Fatalf("%s of %s shares what was handed in: %s", c.name, told(d), told(whole))
			}
			got, _ = c.do(part)
			spoil(whole)
			if !same(got, want) {
				t.Fatalf("%s of %s keeps what was handed in: %s", c.name, told(d), told(got))
			}
		}
	}
}

// TestAreasShareNothing, even if those handed in do.
func TestAreasShareNothing(t *testing.T) {
	room := []byte("abcdefgh")
	for _, d := range []api.Disk{
		of(api.Area{Bytes: room, Sure: 2}, api.Area{Bytes: room, Sure: 3}),
		of(api.Area{Bytes: room[:4], Sure: 2}, api.Area{Bytes: room[4:], Sure: 3}),
	} {
		for _, d := range []api.Disk{d, set(d, 0, 3), down(d), set(d, -5, 3)} {
			for _, c := range calls() {
				got, _ := c.do(d)
				want := deep(got)
				spoilBytes(got.Areas[0].Bytes)
				if !bytes.Equal(got.Areas[1].Bytes, want.Areas[1].Bytes) {
					t.Errorf("%s of %s: its areas share memory: %s", c.name, told(d), told(got))
				}
			}
		}
	}
}

// TestWrittenIsNotKept: the bytes that are written are neither changed nor kept, their spare room neither.
func TestWrittenIsNotKept(t *testing.T) {
	for _, d := range someOnes() {
		for k := -1; k <= areas; k++ {
			room := []byte("xyz and more")
			want, wantE := disk.Write(d, k, room[:3])
			want = deep(want)
			got, _ := disk.Write(d, k, room[:3])
			spoil(got)
			if string(room) != "xyz and more" {
				t.Errorf("Write(%s, %d, ..) left %q", told(d), k, room)
			}
			room = []byte("xyz and more")
			got, e := disk.Write(d, k, room[:3])
			spoilBytes(room)
			if !same(got, want) || e != wantE {
				t.Errorf("Write(%s, %d, ..) keeps what was written: %s", told(d), k, told(got))
			}
		}
	}
}

// TestWriteOfItsOwnBytes: an area's own bytes may be written behind it, and those behind it, too.
func TestWriteOfItsOwnBytes(t *testing.T) {
	room := []byte("abcdef")
	d := of(api.Area{Bytes: room[:3], Sure: 1}, api.Area{Bytes: room, Sure: 6})
	got, e := disk.Write(d, 0, room)
	if want := of(area("abcabcdef", 1), area("abcdef", 6)); !same(got, want) || e != api.OK || string(room) != "abcdef" {
		t.Errorf("its own bytes behind it: %s, %v, and left %q", told(got), e, room)
	}
}

// TestNewIsNewMemory: of two new disks, what one has is none of the other's.
func TestNewIsNewMemory(t *testing.T) {
	one, _ := disk.Write(disk.New(), 0, []byte("abc"))
	if other := disk.New(); !same(other, api.Disk{Fuse: -1}) || !same(one, of(area("abc", 0), api.Area{})) {
		t.Errorf("a new one is %s, beside %s", told(other), told(one))
	}
}
