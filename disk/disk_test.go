package disk_test

import (
	"math"
	"math/rand"
	"slices"
	"strings"
	"sync"
	"testing"

	"demesne/api"
	"demesne/disk"
)

// extremes are numbers at the edges of 64 bits, of 32, and of nothing.
var extremes = []int{math.MinInt, math.MinInt + 1, math.MinInt + 3, math.MinInt + 8, -1 << 62, -1 << 32, -1 << 31, -2, -1, 0, 1, 2, 1<<31 - 1, 1 << 31, 1 << 32, 1 << 62, math.MaxInt - 3, math.MaxInt - 1, math.MaxInt}

// sample is a disk of both kinds of bytes in both files, with room for five more.
func sample() disk.Disk {
	return disk.Disk{Size: 15, Files: [2]disk.File{{Hard: "abc", Soft: "def"}, {Hard: "12", Soft: "34"}}, Fuse: -1, Keep: 1}
}

// wantDeed holds what a deed told against a disk and an error.
func wantDeed(t *testing.T, what string, got disk.Disk, also api.Errno, want disk.Disk, wantAlso api.Errno) {
	t.Helper()
	if got != want || also != wantAlso {
		t.Errorf("%s = %+v, %d, want %+v, %d", what, got, also, want, wantAlso)
	}
}

// wantAllDeeds asks for each deed with file f, and wants of all of them the disk as it was, and an error.
func wantAllDeeds(t *testing.T, d disk.Disk, f int, s string, n int, wantAlso api.Errno) {
	t.Helper()
	got, also := disk.Write(d, f, s)
	wantDeed(t, "Write", got, also, d, wantAlso)
	got, also = disk.Sync(d, f)
	wantDeed(t, "Sync", got, also, d, wantAlso)
	got, also = disk.Cut(d, f, n)
	wantDeed(t, "Cut", got, also, d, wantAlso)
}

// The chapter's example.
func TestExample(t *testing.T) {
	d, also := disk.Write(disk.New(9), 0, "abc")
	if got := disk.Read(disk.Crash(d, 2), 0); got != "ab" || also != api.OK {
		t.Errorf("Read = %q, %d", got, also)
	}
}

// P9.1: a new disk has its size and no fuse, whatever the size is.
func TestNew(t *testing.T) {
	for _, size := range append(extremes, api.MaxDisk) {
		d := disk.New(size)
		if d != (disk.Disk{Size: size, Fuse: -1}) || disk.Used(d) != 0 || disk.Read(d, 0) != "" || disk.Read(d, 1) != "" {
			t.Errorf("New(%d) = %+v", size, d)
		}
	}
}

// P9.1: Used has the bytes of all four texts, whatever else the disk is.
func TestUsed(t *testing.T) {
	for n := range 1 << 4 {
		bit := func(i int) int { return n >> i & 1 }
		d := disk.Disk{
			Size: -1, Down: bit(0) == 1, Fuse: bit(1), Keep: bit(2),
			Files: [2]disk.File{
				{Hard: strings.Repeat("é", bit(0)), Soft: strings.Repeat("\x00", 10*bit(1))},
				{Hard: strings.Repeat("\xff", 100*bit(2)), Soft: strings.Repeat("z", 1000*bit(3))},
			},
		}
		if got, want := disk.Used(d), 2*bit(0)+10*bit(1)+100*bit(2)+1000*bit(3); got != want {
			t.Errorf("Used = %d, want %d", got, want)
		}
	}
}

// P9.1, P6: Read tells Hard, and Soft behind it, of the file that is asked; of another one nothing.
func TestRead(t *testing.T) {
	d := sample()
	for _, down := range []bool{false, true} {
		for _, fuse := range extremes {
			d.Down, d.Fuse, d.Size = down, fuse, 0
			for _, f := range extremes {
				want := map[int]string{0: "abcdef", 1: "1234"}[f]
				if got := disk.Read(d, f); got != want {
					t.Errorf("Read(%+v, %d) = %q, want %q", d, f, got, want)
				}
			}
		}
	}
}

// P9.2: of each file the first bytes that aren't synced are left.
func TestCrash(t *testing.T) {
	for keep, want := range map[int][2]string{
		math.MinInt: {"abc", "12"}, -1: {"abc", "12"}, 0: {"abc", "12"},
		1: {"abcd", "123"}, 2: {"abcde", "1234"}, 3: {"abcdef", "1234"}, 4: {"abcdef", "1234"},
		1 << 32: {"abcdef", "1234"}, math.MaxInt: {"abcdef", "1234"},
	} {
		for _, fuse := range extremes {
			for _, down := range []bool{false, true} {
				d := sample()
				d.Fuse, d.Down, d.Keep, d.Size = fuse, down, fuse, fuse
				want := disk.Disk{Size: fuse, Files: [2]disk.File{{Hard: want[0]}, {Hard: want[1]}}, Down: true, Fuse: -1, Keep: fuse}
				if got := disk.Crash(d, keep); got != want {
					t.Errorf("Crash(%+v, %d) = %+v, want %+v", d, keep, got, want)
				}
			}
		}
	}
}

// P9.2: files of which one, or both, have nothing synced, or nothing else.
func TestCrashOfPartlyEmptyFiles(t *testing.T) {
	files := []disk.File{{}, {Hard: "ab"}, {Soft: "cd"}, {Hard: "ef", Soft: "gh"}, {Hard: "ab", Soft: "ab"}}
	for _, a := range files {
		for _, b := range files {
			for keep := -1; keep < 4; keep++ {
				want := disk.Disk{Down: true, Fuse: -1}
				for i, file := range []disk.File{a, b} {
					want.Files[i].Hard = file.Hard
					for j := 0; j < keep && j < len(file.Soft); j++ {
						want.Files[i].Hard += file.Soft[j : j+1]
					}
				}
				if got := disk.Crash(disk.Disk{Files: [2]disk.File{a, b}}, keep); got != want {
					t.Errorf("Crash(%+v, %+v; %d) = %+v, want %+v", a, b, keep, got, want)
				}
			}
		}
	}
}

// P9.2: keep counts bytes, not runes.
func TestKeepCountsBytes(t *testing.T) {
	d := disk.Disk{Files: [2]disk.File{{Hard: "é", Soft: "éa\xff\x00"}}}
	for keep, want := range []string{"é", "é\xc3", "éé", "ééa", "ééa\xff", "ééa\xff\x00"} {
		if got := disk.Read(disk.Crash(d, keep), 0); got != want {
			t.Errorf("keep %d leaves %q, want %q", keep, got, want)
		}
	}
}

// P9.2: Arm turns Fuse and Keep alone, Start turns Down alone, whatever the disk is.
func TestArmAndStart(t *testing.T) {
	for _, down := range []bool{false, true} {
		for _, was := range extremes {
			d := sample()
			d.Down, d.Fuse, d.Keep, d.Size = down, was, was, was
			up := d
			up.Down = false
			if got := disk.Start(d); got != up {
				t.Errorf("Start(%+v) = %+v", d, got)
			}
			for _, fuse := range extremes {
				for _, keep := range extremes {
					want := d
					want.Fuse, want.Keep = fuse, keep
					if fuse < 0 {
						want.Fuse = -1
					}
					if got := disk.Arm(d, fuse, keep); got != want {
						t.Errorf("Arm(%+v, %d, %d) = %+v", d, fuse, keep, got)
					}
				}
			}
		}
	}
}

// P9.3: what is written stands behind what was, not yet synced, in the file that is asked.
func TestWrite(t *testing.T) {
	for f := range 2 {
		for _, s := range []string{"", "x", "xyz", "é", "\x00\xff", "vwxyz"} {
			want := sample()
			want.Files[f].Soft += s
			got, also := disk.Write(sample(), f, s)
			wantDeed(t, "Write "+s, got, also, want, api.OK)
		}
	}
}

// P9.3: a disk may be filled, and not past that; what is synced and what isn't, of both files, counts.
func TestWriteUpToSize(t *testing.T) {
	sizes := slices.Clone(extremes)
	for size := -3; size < 20; size++ {
		sizes = append(sizes, size)
	}
	for _, size := range sizes {
		for n := range 20 {
			for f := range 2 {
				d := sample()
				d.Size = size
				s := strings.Repeat("s", n)
				got, also := disk.Write(d, f, s)
				want, wantAlso := d, api.ErrFull
				if 10+n <= size {
					want.Files[f].Soft += s
					wantAlso = api.OK
				}
				wantDeed(t, "Write", got, also, want, wantAlso)
			}
		}
	}
	for _, size := range extremes {
		got, also := disk.Write(disk.New(size), 1, "")
		if full := also == api.ErrFull; got != disk.New(size) || full != (size < 0) || !full && also != api.OK {
			t.Errorf("Write of nothing, of size %d = %+v, %d", size, got, also)
		}
		got, also = disk.Write(disk.New(size), 1, "ab")
		if full := also == api.ErrFull; full != (size < 2) || full != (disk.Read(got, 1) == "") || !full && also != api.OK {
			t.Errorf("Write, of size %d = %+v, %d", size, got, also)
		}
	}
}

// P9.3: what is cut off leaves room.
func TestRoomAfterCut(t *testing.T) {
	d := sample()
	d.Size = 10
	cut, _ := disk.Cut(d, 0, 2)
	got, also := disk.Write(cut, 1, "5678")
	if also != api.OK || disk.Used(got) != 10 || disk.Read(got, 1) != "12345678" {
		t.Errorf("Write = %+v, %d", got, also)
	}
	got, also = disk.Write(cut, 1, "56789")
	wantDeed(t, "Write", got, also, cut, api.ErrFull)
}

// P9.3: what was not synced is, of the file that is asked; a full disk, or one that has more than its size, is synced and cut all the same.
func TestSync(t *testing.T) {
	for _, size := range extremes {
		for f := range 2 {
			d := sample()
			d.Size = size
			want := d
			want.Files[f] = disk.File{Hard: disk.Read(d, f)}
			got, also := disk.Sync(d, f)
			wantDeed(t, "Sync", got, also, want, api.OK)
			got, also = disk.Sync(want, f)
			wantDeed(t, "Sync again", got, also, want, api.OK)
			want = d
			want.Files[f] = disk.File{Hard: d.Files[f].Hard[:1]}
			got, also = disk.Cut(d, f, 1)
			wantDeed(t, "Cut", got, also, want, api.OK)
		}
	}
}

// P9.3: the first bytes are left, first of what is synced; what of them was not synced is not.
func TestCut(t *testing.T) {
	for _, file := range []disk.File{{}, {Hard: "abc"}, {Soft: "def"}, {Hard: "abc", Soft: "def"}, {Hard: "é", Soft: "é"}} {
		counts := append([]int{3, 4, 5, 6, 7}, extremes...)
		for _, n := range counts {
			for f := range 2 {
				d := sample()
				d.Files[f] = file
				want := d
				want.Files[f] = disk.File{}
				for i, b := range []byte(file.Hard + file.Soft) {
					if i >= n {
						break
					}
					if i < len(file.Hard) {
						want.Files[f].Hard += string([]byte{b})
					} else {
						want.Files[f].Soft += string([]byte{b})
					}
				}
				got, also := disk.Cut(d, f, n)
				wantDeed(t, "Cut", got, also, want, api.OK)
			}
		}
	}
}

// P9.3, P6: a file that is not there is told ahead of all, one whose power is off ahead of one that is full; the disk is as it was.
func TestRefusals(t *testing.T) {
	for _, fuse := range extremes {
		for _, down := range []bool{false, true} {
			for _, size := range []int{-1, 9, 10, 100} {
				d := sample()
				d.Fuse, d.Down, d.Size = fuse, down, size
				for _, f := range extremes {
					if f != 0 && f != 1 {
						wantAllDeeds(t, d, f, "x", fuse, api.ErrArg)
						wantAllDeeds(t, d, f, "", fuse, api.ErrArg)
					} else if down {
						wantAllDeeds(t, d, f, "x", fuse, api.ErrDown)
						wantAllDeeds(t, d, f, "", fuse, api.ErrDown)
					}
				}
				if !down && size < 11 {
					got, also := disk.Write(d, 0, "x")
					wantDeed(t, "Write", got, also, d, api.ErrFull)
				}
			}
		}
	}
}

// P9.3: a disk that was started again goes on from what is left.
func TestStartAgain(t *testing.T) {
	d := disk.Start(disk.Crash(sample(), 1))
	got, also := disk.Write(d, 0, "x")
	want := disk.Disk{Size: 15, Files: [2]disk.File{{Hard: "abcd", Soft: "x"}, {Hard: "123"}}, Fuse: -1, Keep: 1}
	wantDeed(t, "Write", got, also, want, api.OK)
}

// deeds are one of each kind, with file 0.
func deeds() map[string]func(disk.Disk) (disk.Disk, api.Errno) {
	return map[string]func(disk.Disk) (disk.Disk, api.Errno){
		"Write": func(d disk.Disk) (disk.Disk, api.Errno) { return disk.Write(d, 0, "gh") },
		"Sync":  func(d disk.Disk) (disk.Disk, api.Errno) { return disk.Sync(d, 0) },
		"Cut":   func(d disk.Disk) (disk.Disk, api.Errno) { return disk.Cut(d, 0, 1) },
	}
}

// P9.3: each deed burns the fuse by one, none if there is no fuse, whatever number that is.
func TestFuseBurns(t *testing.T) {
	for name, deed := range deeds() {
		for _, fuse := range extremes {
			d := sample()
			plain, _ := deed(d)
			d.Fuse = fuse
			if fuse == 0 {
				continue
			}
			plain.Fuse = fuse
			if fuse > 0 {
				plain.Fuse = fuse - 1
			}
			got, also := deed(d)
			wantDeed(t, name, got, also, plain, api.OK)
		}
	}
}

// P9.3: at a fuse of 0 what is written may be left, as far as Keep says; a sync or a cut is not done; of the other file as much is left.
func TestPowerLostAtDeed(t *testing.T) {
	for _, c := range []struct {
		keep                     int
		write, syncOrCut, second string
	}{
		{math.MinInt, "abc", "abc", "12"},
		{-1, "abc", "abc", "12"},
		{0, "abc", "abc", "12"},
		{1, "abcd", "abcd", "123"},
		{2, "abcde", "abcde", "1234"},
		{3, "abcdef", "abcdef", "1234"},
		{4, "abcdefg", "abcdef", "1234"},
		{5, "abcdefgh", "abcdef", "1234"},
		{6, "abcdefgh", "abcdef", "1234"},
		{math.MaxInt, "abcdefgh", "abcdef", "1234"},
	} {
		for name, deed := range deeds() {
			hard := c.syncOrCut
			if name == "Write" {
				hard = c.write
			}
			want := disk.Disk{Size: 15, Files: [2]disk.File{{Hard: hard}, {Hard: c.second}}, Down: true, Fuse: -1, Keep: c.keep}
			got, also := deed(disk.Arm(sample(), 0, c.keep))
			wantDeed(t, name, got, also, want, api.ErrDown)
		}
	}
}

// P9.3: power is lost at the deed that the fuse says, and what is refused ahead of it burns nothing.
func TestFuseCountsDeeds(t *testing.T) {
	for fuse := range 12 {
		d := disk.Arm(disk.New(100), fuse, 1)
		for i := range fuse {
			for _, f := range []int{-1, 2} {
				wantAllDeeds(t, d, f, "x", 0, api.ErrArg)
			}
			if got, also := disk.Write(d, 0, strings.Repeat("x", 101)); got != d || also != api.ErrFull {
				t.Errorf("Write of too much = %+v, %d", got, also)
			}
			var also api.Errno
			switch i % 3 {
			case 0:
				d, also = disk.Write(d, 0, "ab")
			case 1:
				d, also = disk.Sync(d, 0)
			case 2:
				d, also = disk.Cut(d, 0, 1)
			}
			if also != api.OK || d.Fuse != fuse-1-i || d.Down {
				t.Errorf("deed %d of %d = %+v, %d", i, fuse, d, also)
			}
		}
		d, also := disk.Write(d, 1, "yz")
		if also != api.ErrDown || !d.Down || d.Fuse != -1 || disk.Read(d, 1) != "y" {
			t.Errorf("deed %d = %+v, %d", fuse, d, also)
		}
		if d, also = disk.Write(disk.Start(d), 1, "yz"); also != api.OK || d.Fuse != -1 || disk.Read(d, 1) != "yyz" {
			t.Errorf("Write after Start = %+v, %d", d, also)
		}
	}
}

// step is one call, as numbers.
type step struct {
	call, f, n int
	s          string
}

// play does a step by the package.
func play(d disk.Disk, p step) (disk.Disk, api.Errno) {
	switch p.call {
	case 0:
		return disk.Write(d, p.f, p.s)
	case 1:
		return disk.Sync(d, p.f)
	case 2:
		return disk.Cut(d, p.f, p.n)
	case 3:
		return disk.Crash(d, p.n), api.OK
	case 4:
		return disk.Arm(d, p.f, p.n), api.OK
	default:
		return disk.Start(d), api.OK
	}
}

// byHand is a disk as bytes, with a mark on each that outlasts a loss of power.
type byHand struct {
	size, fuse, keep int
	down             bool
	bytes            [2][]byte
	safe             [2][]bool
}

func (h *byHand) used() int { return len(h.bytes[0]) + len(h.bytes[1]) }

func (h *byHand) put(f int, s string) {
	h.bytes[f] = append(h.bytes[f], s...)
	h.safe[f] = append(h.safe[f], make([]bool, len(s))...)
}

func (h *byHand) keepSafe(f, most int) {
	for i := range h.safe[f] {
		if !h.safe[f][i] && most > 0 {
			h.safe[f][i] = true
			most--
		}
	}
}

func (h *byHand) shorten(f, n int) {
	for len(h.bytes[f]) > 0 && len(h.bytes[f]) > n {
		h.bytes[f] = h.bytes[f][:len(h.bytes[f])-1]
		h.safe[f] = h.safe[f][:len(h.bytes[f])]
	}
}

func (h *byHand) lose(keep int) {
	for f := range h.bytes {
		h.keepSafe(f, keep)
		for n := len(h.safe[f]); n > 0 && !h.safe[f][n-1]; n-- {
			h.shorten(f, n-1)
		}
	}
	h.down, h.fuse = true, -1
}

// deed does a step of the first three calls, as the chapter's words say.
func (h *byHand) deed(p step) api.Errno {
	switch {
	case p.f != 0 && p.f != 1:
		return api.ErrArg
	case h.down:
		return api.ErrDown
	case p.call == 0 && h.used()+len(p.s) > h.size:
		return api.ErrFull
	}
	if p.call == 0 {
		h.put(p.f, p.s)
	}
	if h.fuse == 0 {
		h.lose(h.keep)
		return api.ErrDown
	}
	if h.fuse > 0 {
		h.fuse--
	}
	if p.call == 1 {
		h.keepSafe(p.f, math.MaxInt)
	} else if p.call == 2 {
		h.shorten(p.f, p.n)
	}
	return api.OK
}

func (h *byHand) play(p step) api.Errno {
	switch p.call {
	case 3:
		h.lose(p.n)
	case 4:
		h.fuse, h.keep = p.f, p.n
		if p.f < 0 {
			h.fuse = -1
		}
	case 5:
		h.down = false
	default:
		return h.deed(p)
	}
	return api.OK
}

// shown tells the disk that the package should tell.
func (h *byHand) shown() disk.Disk {
	d := disk.Disk{Size: h.size, Down: h.down, Fuse: h.fuse, Keep: h.keep}
	for f := range h.bytes {
		for i, b := range h.bytes[f] {
			if h.safe[f][i] {
				d.Files[f].Hard += string([]byte{b})
			} else {
				d.Files[f].Soft += string([]byte{b})
			}
		}
	}
	return d
}

// read takes a disk as bytes.
func read(d disk.Disk) *byHand {
	h := &byHand{size: d.Size, fuse: d.Fuse, keep: d.Keep, down: d.Down}
	for f, file := range d.Files {
		h.put(f, file.Hard)
		h.keepSafe(f, math.MaxInt)
		h.put(f, file.Soft)
	}
	return h
}

// wantAsByHand plays a step on d both ways, and tells what came of it.
func wantAsByHand(t *testing.T, d disk.Disk, p step) disk.Disk {
	t.Helper()
	h := read(d)
	wantAlso := h.play(p)
	got, also := play(d, p)
	if want := h.shown(); got != want || also != wantAlso {
		t.Fatalf("%+v of %+v = %+v, %d, want %+v, %d", p, d, got, also, want, wantAlso)
	}
	if got, want := disk.Used(d), read(d).used(); got != want {
		t.Fatalf("Used(%+v) = %d, want %d", d, got, want)
	}
	for f := range 2 {
		if got, want := disk.Read(d, f), string(read(d).bytes[f]); got != want {
			t.Fatalf("Read(%+v, %d) = %q, want %q", d, f, got, want)
		}
	}
	return got
}

func sampleSteps() []step {
	return []step{
		{0, 0, 0, "ab"}, {0, 1, 0, "xyz"}, {0, 0, 0, ""}, {0, 1, 0, "1234567"}, {0, 2, 0, "a"},
		{1, 0, 0, ""}, {1, 1, 0, ""}, {1, -1, 0, ""},
		{2, 0, 1, ""}, {2, 1, 4, ""}, {2, 0, math.MinInt, ""}, {2, 1, math.MaxInt, ""}, {2, 2, 0, ""},
		{3, 0, 1, ""}, {3, 0, -1, ""},
		{4, 0, 1, ""}, {4, 1, 4, ""}, {4, -5, 9, ""},
		{5, 0, 0, ""},
	}
}

// P9.1 to P9.3: all rows of up to six sample calls, from a new disk and from a full one, held against a disk by hand.
func TestAllRowsOfCalls(t *testing.T) {
	steps := sampleSteps()
	full := sample()
	full.Size = 10
	row := []disk.Disk{disk.New(9), full}
	for range 6 {
		seen := map[disk.Disk]bool{}
		var next []disk.Disk
		for _, d := range row {
			for _, p := range steps {
				if got := wantAsByHand(t, d, p); !seen[got] {
					seen[got] = true
					next = append(next, got)
				}
			}
		}
		row = next
	}
}

// P9.1 to P9.3: of plain values of any kind, also such as no call tells.
func TestAnyDisk(t *testing.T) {
	texts := []string{"", "a", "bcd"}
	for n := range len(texts) * len(texts) * len(texts) * len(texts) {
		pick := func(by int) string { return texts[n/by%len(texts)] }
		for i, fuse := range extremes {
			for _, down := range []bool{false, true} {
				d := disk.Disk{Size: 8 + i%3, Down: down, Fuse: fuse, Keep: extremes[(i+n)%len(extremes)]}
				d.Files = [2]disk.File{{Hard: pick(1), Soft: pick(3)}, {Hard: pick(9), Soft: pick(27)}}
				for _, p := range sampleSteps() {
					wantAsByHand(t, d, p)
				}
			}
		}
	}
}

// randomStep tells any call but Start, every other time a Write, with numbers about those that matter.
func randomStep(chance *rand.Rand) step {
	p := step{call: chance.Intn(10), f: chance.Intn(2), n: chance.Intn(14) - 1, s: "0123456789"[:chance.Intn(10)]}
	switch {
	case p.call == 4:
		p.f = chance.Intn(6) - 1
	case p.call > 4:
		p.call = 0
	}
	return p
}

// marks are, of each file, what was synced and not cut since, and all that may stand there.
type marks struct{ synced, written [2]string }

// follow turns the marks by a step that was asked of a disk, which is now d, and tells whether it lost power or was cut.
func (m *marks) follow(t *testing.T, p step, d disk.Disk, also api.Errno) (lost, cut bool) {
	t.Helper()
	if p.call == 0 && also != api.ErrFull {
		m.written[p.f] += p.s
	}
	switch {
	case d.Down:
		for f := range 2 {
			wantBetween(t, disk.Read(d, f), m.synced[f], m.written[f])
			m.synced[f], m.written[f] = disk.Read(d, f), disk.Read(d, f)
		}
		return true, false
	case p.call == 1:
		m.synced[p.f] = m.written[p.f]
	case p.call == 2:
		m.synced[p.f] = m.synced[p.f][:min(len(m.synced[p.f]), max(0, p.n))]
		m.written[p.f] = m.written[p.f][:min(len(m.written[p.f]), max(0, p.n))]
		return false, true
	}
	return false, false
}

// P9.4: what was synced is there whatever is lost, till it is cut; what is lost is an end of what was written since.
func TestWhatIsSyncedStays(t *testing.T) {
	chance := rand.New(rand.NewSource(1))
	losses, cuts := 0, 0
	for range 3000 {
		d, m := disk.New(40), marks{}
		for range 30 {
			p := randomStep(chance)
			next, also := play(d, p)
			lost, cut := m.follow(t, p, next, also)
			if lost {
				losses++
			} else if cut {
				cuts++
			}
			d = disk.Start(next)
			for f := range 2 {
				if got := disk.Read(d, f); got != m.written[f] || d.Files[f].Hard != m.synced[f] {
					t.Fatalf("file %d is %+v, want %q of %q", f, d.Files[f], m.synced[f], m.written[f])
				}
			}
		}
	}
	if losses < 1000 || cuts < 1000 {
		t.Errorf("%d losses and %d cuts", losses, cuts)
	}
}

// wantBetween wants that what was synced is there, and that what isn't is an end of what was written.
func wantBetween(t *testing.T, got, synced, written string) {
	t.Helper()
	if !strings.HasPrefix(got, synced) || !strings.HasPrefix(written, got) {
		t.Fatalf("left is %q, of %q, of which %q was synced", got, written, synced)
	}
}

// P9.4: at whatever deed power is lost, and whatever is kept, a record whose writing was told as done and synced is there.
func TestPowerLostAtEachDeed(t *testing.T) {
	records := []string{"one.", "two.", "three.", "four."}
	for fuse := range 2*len(records) + 1 {
		for keep := -1; keep < 8; keep++ {
			d := disk.Arm(disk.New(100), fuse, keep)
			told, asked := "", ""
			for _, s := range records {
				if d.Down {
					break
				}
				asked += s
				next, also := disk.Write(d, 0, s)
				if also == api.OK {
					next, also = disk.Sync(next, 0)
				}
				if also == api.OK {
					told = asked
				}
				d = next
			}
			if d.Down == (fuse == 2*len(records)) {
				t.Errorf("fuse %d: down %v", fuse, d.Down)
			}
			wantBetween(t, disk.Read(d, 0), told, asked)
		}
	}
}

// A disk of the greatest size is filled by small writes, and then has no room for one byte.
func TestManyWrites(t *testing.T) {
	const part = 4096
	d, also := disk.New(api.MaxDisk), api.OK
	s := strings.Repeat("0123456789abcdef", part/16)
	for n := range api.MaxDisk / part {
		if d, also = disk.Write(d, n%2, s); also != api.OK {
			t.Fatalf("Write %d = %d", n, also)
		}
		if n%8 == 7 {
			d, _ = disk.Sync(d, 0)
			d, _ = disk.Sync(d, 1)
		}
	}
	whole := strings.Repeat(s, api.MaxDisk/part/2)
	if disk.Used(d) != api.MaxDisk || disk.Read(d, 0) != whole || disk.Read(d, 1) != whole {
		t.Errorf("Used = %d", disk.Used(d))
	}
	got, also := disk.Write(d, 0, "x")
	if got != d || also != api.ErrFull {
		t.Errorf("Write = %d", also)
	}
}

// P3, P4: a disk that is handed in is as it was, and the same is told again, also to many at one time.
func TestToldAgain(t *testing.T) {
	d := disk.Arm(sample(), 3, 2)
	kept := d
	var told [8][]disk.Disk
	var all sync.WaitGroup
	for i := range told {
		all.Go(func() {
			for range 100 {
				told[i] = nil
				for _, p := range sampleSteps() {
					got, _ := play(d, p)
					told[i] = append(told[i], got)
				}
			}
		})
	}
	all.Wait()
	for i := range told {
		for n := range told[i] {
			if told[i][n] != told[0][n] {
				t.Errorf("%+v, then %+v", told[0][n], told[i][n])
			}
		}
	}
	if d != kept {
		t.Errorf("the disk was %+v and is %+v", kept, d)
	}
}

// P1 to P6: at any argument a call ends, and tells what the words say.
func FuzzCalls(f *testing.F) {
	f.Add(0, 0, 1, "abc", "a", "b", "c", "d", 9, 1, 2, false)
	f.Add(1, 1, 0, "", "", "", "", "", 0, 0, 0, false)
	f.Add(2, 0, math.MinInt, "", "a", "b", "c", "d", 9, -1, 0, false)
	f.Add(2, 1, math.MaxInt, "", "a", "b", "c", "d", math.MinInt, 0, 1, true)
	f.Add(3, 0, 1, "", "é", "é", "", "\xff\x00", math.MaxInt, math.MaxInt, 1, false)
	f.Add(4, math.MinInt, math.MaxInt, "", "", "", "", "", 1, 1, 1, true)
	f.Fuzz(func(t *testing.T, call, file, n int, s, a, b, c, e string, size, fuse, keep int, down bool) {
		d := disk.Disk{Size: size, Files: [2]disk.File{{Hard: a, Soft: b}, {Hard: c, Soft: e}}, Down: down, Fuse: fuse, Keep: keep}
		if disk.Read(d, file) != map[int]string{0: a + b, 1: c + e}[file] {
			t.Errorf("Read(%+v, %d) = %q", d, file, disk.Read(d, file))
		}
		wantAsByHand(t, d, step{int(uint(call) % 6), file, n, s})
	})
}
