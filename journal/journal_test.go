package journal_test

import (
	"bytes"
	"math"
	"strconv"
	"strings"
	"testing"

	"hindsight/api"
	"hindsight/journal"
	"hindsight/vdisk"
)

// disk is an empty disk.
func disk(t *testing.T, quota int) *vdisk.Disk {
	t.Helper()
	d, code := vdisk.New(quota)
	if d == nil || code != api.OK {
		t.Fatalf("New(%d) = %v %v", quota, d, code)
	}
	return d
}

// full are n times the same byte.
func full(c byte, n int) []byte { return bytes.Repeat([]byte{c}, n) }

// page is a page whose four sectors are of one byte each.
func page(a, b, c, d byte) []byte {
	return bytes.Join([][]byte{full(a, 128), full(b, 128), full(c, 128), full(d, 128)}, nil)
}

// title is the first sector of an entry.
func title(n int) []byte {
	b := make([]byte, 128)
	b[2], b[3] = byte(n>>8), byte(n)
	return b
}

// head is a header.
func head(count, pages int) []byte {
	b := make([]byte, 128)
	copy(b, []byte{72, 83, 74, 49, 0, 0, byte(count >> 8), byte(count), 0, 0, byte(pages >> 8), byte(pages)})
	return b
}

// put writes a sector, which must succeed.
func put(t *testing.T, d *vdisk.Disk, file, sector int, b []byte) {
	t.Helper()
	if code := d.Write(file, sector, b); code != api.OK {
		t.Fatalf("Write(%d, %d) = %v", file, sector, code)
	}
}

// putPage writes a page, which must succeed.
func putPage(t *testing.T, d *vdisk.Disk, n int, b []byte) {
	t.Helper()
	if code := journal.WritePage(d, n, b); code != api.OK {
		t.Fatalf("WritePage(%d) = %v", n, code)
	}
}

// save saves entries, which must succeed.
func save(t *testing.T, d *vdisk.Disk, l []journal.Entry, pages int) {
	t.Helper()
	if code := journal.Save(d, l, pages); code != api.OK {
		t.Fatalf("Save of %d entries = %v", len(l), code)
	}
}

// down has the disk fail.
func down(d *vdisk.Disk) *vdisk.Disk {
	d.Fail(0)
	d.Sync(0)
	return d
}

// isPage holds a page of the disk against its bytes.
func isPage(t *testing.T, d *vdisk.Disk, n int, want []byte) {
	t.Helper()
	if b, code := journal.ReadPage(d, n); code != api.OK || !bytes.Equal(b, want) {
		t.Errorf("ReadPage(%d) = %v %v, want %v", n, b, code, want)
	}
}

// isCold reports an error if the journal is hot or cannot be loaded.
func isCold(t *testing.T, d *vdisk.Disk) {
	t.Helper()
	if l, pages, hot, code := journal.Load(d); len(l) != 0 || pages != 0 || hot || code != api.OK {
		t.Errorf("Load = %d entries, %d %v %v, want no hot journal", len(l), pages, hot, code)
	}
}

// isHot holds the journal against its entries.
func isHot(t *testing.T, d *vdisk.Disk, want []journal.Entry, wantPages int) {
	t.Helper()
	l, pages, hot, code := journal.Load(d)
	if len(l) != len(want) || pages != wantPages || !hot || code != api.OK {
		t.Fatalf("Load = %d entries, %d %v %v, want %d, %d", len(l), pages, hot, code, len(want), wantPages)
	}
	for i, e := range want {
		if l[i].Page != e.Page || !bytes.Equal(l[i].Image, e.Image) {
			t.Errorf("entry %d = %v, want %v", i, l[i], e)
		}
	}
}

// show is all that can be read of the disk.
func show(d *vdisk.Disk) string {
	var s strings.Builder
	for file := range 2 {
		for i := range d.Len(file) {
			b, code := d.Read(file, i)
			s.WriteString(strconv.Itoa(file) + ":" + strconv.Itoa(i) + " " + code.Error() + " ")
			s.Write(b)
		}
	}
	return s.String()
}

// step is a Write or a Sync of a file.
type step struct {
	sync         bool
	file, sector int
	b            []byte
}

// write is the step that writes a sector.
func write(file, sector int, b []byte) step { return step{file: file, sector: sector, b: b} }

// sync is the step that makes a file durable.
func sync(file int) step { return step{sync: true, file: file} }

// take makes the steps.
func take(t *testing.T, d *vdisk.Disk, l []step) {
	t.Helper()
	for _, s := range l {
		if !s.sync {
			put(t, d, s.file, s.sector, s.b)
		} else if code := d.Sync(s.file); code != api.OK {
			t.Fatalf("Sync(%d) = %v", s.file, code)
		}
	}
}

// checkSteps holds a call against the steps that it must take on the disk that start makes: it fails at each step in turn, and the disk must be that after the steps before it, with all of its pending writes or none.
func checkSteps(t *testing.T, start func() *vdisk.Disk, call func(d *vdisk.Disk) api.Errno, want []step) {
	t.Helper()
	for n := range len(want) + 1 {
		for _, keep := range [][]byte{nil, full(255, 9)} {
			d, model := start(), start()
			before := d.Calls()
			d.Fail(n)
			code := call(d)
			if n < len(want) && (code != api.ErrDown || !d.Down()) || n == len(want) && (code != api.OK || d.Down()) {
				t.Errorf("%v after %d steps of %d, down: %v", code, n, len(want), d.Down())
			}
			take(t, model, want[:n])
			if d.Calls() != before+n || d.Waits() != model.Waits() {
				t.Errorf("after %d steps: Calls %d, Waits %d, want %d", n, d.Calls()-before, d.Waits(), model.Waits())
			}
			d.Crash(keep)
			model.Crash(keep)
			if show(d) != show(model) {
				t.Errorf("after %d steps, the disk is not that after the steps", n)
			}
		}
	}
}

// noDisks are disks that New did not make.
func noDisks(t *testing.T) []*vdisk.Disk {
	made := disk(t, 50)
	save(t, made, []journal.Entry{{Page: 1, Image: full(1, 512)}}, 2)
	other := *made
	return []*vdisk.Disk{nil, {}, new(vdisk.Disk), &other}
}

func TestP8_1Head(t *testing.T) {
	for _, c := range []struct {
		count, pages int
		want         []byte
	}{
		{0, 0, []byte{72, 83, 74, 49, 0, 0, 0, 0, 0, 0, 0, 0}},
		{1, 2, []byte{72, 83, 74, 49, 0, 0, 0, 1, 0, 0, 0, 2}},
		{255, 256, []byte{72, 83, 74, 49, 0, 0, 0, 255, 0, 0, 1, 0}},
		{4096, 4095, []byte{72, 83, 74, 49, 0, 0, 16, 0, 0, 0, 15, 255}},
		{0, 4096, []byte{72, 83, 74, 49, 0, 0, 0, 0, 0, 0, 16, 0}},
		{4096, 0, []byte{72, 83, 74, 49, 0, 0, 16, 0, 0, 0, 0, 0}},
	} {
		want := append(c.want, make([]byte, 116)...)
		b, code := journal.Head(c.count, c.pages)
		if !bytes.Equal(b, want) || code != api.OK {
			t.Errorf("Head(%d, %d) = %v %v", c.count, c.pages, b, code)
		}
		if count, pages, ok := journal.ReadHead(want); count != c.count || pages != c.pages || !ok {
			t.Errorf("ReadHead(%v) = %d %d %v", want, count, pages, ok)
		}
		clear(b)
		if again, _ := journal.Head(c.count, c.pages); !bytes.Equal(again, want) {
			t.Errorf("Head(%d, %d) once more = %v", c.count, c.pages, again)
		}
	}
	for _, n := range []int{-1, 4097, math.MinInt, math.MaxInt, 1 << 32, 1<<32 + 1} {
		for _, c := range [][2]int{{n, 0}, {0, n}, {n, 4096}, {4096, n}, {n, n}} {
			if b, code := journal.Head(c[0], c[1]); len(b) != 0 || code != api.ErrArg {
				t.Errorf("Head(%d, %d) = %v %v", c[0], c[1], b, code)
			}
		}
	}
}

func TestP8_1ReadHeadWrong(t *testing.T) {
	wrong := [][]byte{nil, {}, []byte("HSJ1"), make([]byte, 128), full(72, 128), head(3, 4)[:127], append(head(3, 4), 0), head(3, 4)[:12]}
	numbers := [][]byte{{0, 0, 16, 1}, {0, 0, 255, 255}, {0, 1, 0, 0}, {1, 0, 0, 0}, {127, 255, 255, 255}, {128, 0, 0, 0}, {255, 255, 255, 255}}
	for _, n := range numbers {
		for _, at := range []int{4, 8} {
			b := head(3, 4)
			copy(b[at:], n)
			wrong = append(wrong, b)
		}
	}
	for _, b := range wrong {
		if count, pages, ok := journal.ReadHead(b); count != 0 || pages != 0 || ok {
			t.Errorf("ReadHead(%v) = %d %d %v", b, count, pages, ok)
		}
	}
}

func TestP8_1ReadHeadEachByte(t *testing.T) {
	for i := range 128 {
		for _, c := range []byte{1, 128, 255} {
			b := head(0x101, 0x202)
			b[i] ^= c
			count, pages, ok := journal.ReadHead(b)
			// Only the low bytes of a number can be others.
			if low := i == 7 || i == 11 || (i == 6 || i == 10) && c == 1; ok != low {
				t.Errorf("ReadHead with byte %d = %d is %v", i, b[i], ok)
			}
			if ok && !bytes.Equal(head(count, pages), b) || !ok && (count != 0 || pages != 0) {
				t.Errorf("ReadHead with byte %d = %d: %d %d", i, b[i], count, pages)
			}
		}
	}
}

func TestP8_2NoDisk(t *testing.T) {
	for _, d := range noDisks(t) {
		for _, n := range []int{0, 4095, -1, 4096, math.MaxInt} {
			if b, code := journal.ReadPage(d, n); len(b) != 0 || code != api.ErrNil {
				t.Errorf("ReadPage(%d) = %v %v", n, b, code)
			}
			for _, size := range []int{512, 0, 511} {
				if code := journal.WritePage(d, n, make([]byte, size)); code != api.ErrNil {
					t.Errorf("WritePage(%d) of %d bytes = %v", n, size, code)
				}
				l := []journal.Entry{{Page: n, Image: make([]byte, size)}}
				if journal.Save(d, l, 0) != api.ErrNil || journal.Save(d, nil, n) != api.ErrNil {
					t.Errorf("Save of page %d, %d bytes, is not ErrNil", n, size)
				}
			}
		}
		if l, pages, hot, code := journal.Load(d); len(l) != 0 || pages != 0 || hot || code != api.ErrNil {
			t.Errorf("Load = %v %d %v %v", l, pages, hot, code)
		}
		if code := journal.Clear(d); code != api.ErrNil {
			t.Errorf("Clear = %v", code)
		}
		if done, code := journal.Restore(d); done || code != api.ErrNil {
			t.Errorf("Restore = %v %v", done, code)
		}
	}
}

func TestP8_2ReadPage(t *testing.T) {
	d := disk(t, 20000)
	isPage(t, d, 0, make([]byte, 512))
	isPage(t, d, 4095, make([]byte, 512))
	put(t, d, 0, 9, full(2, 128))
	put(t, d, 0, 11, full(4, 128))
	put(t, d, 0, 12, full(5, 128))
	put(t, d, 1, 8, full(9, 128))
	isPage(t, d, 1, make([]byte, 512))
	isPage(t, d, 2, page(0, 2, 0, 4))
	isPage(t, d, 3, page(5, 0, 0, 0))
	isPage(t, d, 4, make([]byte, 512))
	put(t, d, 0, 4*4095+3, full(7, 128))
	isPage(t, d, 4095, page(0, 0, 0, 7))
	b, _ := journal.ReadPage(d, 2)
	clear(b)
	isPage(t, d, 2, page(0, 2, 0, 4))
	if d.Calls() != 5 {
		t.Errorf("ReadPage changes something: Calls = %d", d.Calls())
	}
	for _, wrong := range []int{-1, 4096, math.MinInt, math.MaxInt, 1 << 62} {
		if b, code := journal.ReadPage(d, wrong); len(b) != 0 || code != api.ErrArg {
			t.Errorf("ReadPage(%d) = %v %v", wrong, b, code)
		}
	}
	down(d)
	for n, want := range map[int]api.Errno{2: api.ErrDown, 0: api.ErrDown, 4095: api.ErrDown, -1: api.ErrArg, 4096: api.ErrArg} {
		if b, code := journal.ReadPage(d, n); len(b) != 0 || code != want {
			t.Errorf("ReadPage(%d) of a disk that is down = %v %v, want %v", n, b, code, want)
		}
	}
}

func TestP8_2WritePage(t *testing.T) {
	start := func() *vdisk.Disk { return disk(t, 20000) }
	for _, n := range []int{0, 1, 2, 4095} {
		call := func(d *vdisk.Disk) api.Errno { return journal.WritePage(d, n, page(1, 0, 3, 4)) }
		checkSteps(t, start, call, []step{
			write(0, 4*n, full(1, 128)), write(0, 4*n+1, full(0, 128)), write(0, 4*n+2, full(3, 128)), write(0, 4*n+3, full(4, 128)),
		})
	}
	d := start()
	b := page(1, 2, 3, 4)
	putPage(t, d, 3, b)
	clear(b)
	isPage(t, d, 3, page(1, 2, 3, 4))
}

func TestP8_2WritePageErrors(t *testing.T) {
	d := disk(t, 6)
	put(t, d, 0, 0, full(9, 128))
	for _, c := range []struct {
		page, size int
		code       api.Errno
	}{
		{-1, 512, api.ErrArg}, {4096, 512, api.ErrArg}, {math.MinInt, 512, api.ErrArg}, {math.MaxInt, 512, api.ErrArg}, {1 << 62, 512, api.ErrArg},
		{0, 0, api.ErrArg}, {0, 511, api.ErrArg}, {0, 513, api.ErrArg}, {0, 128, api.ErrArg}, {0, 1024, api.ErrArg}, {4095, 511, api.ErrArg},
		{2, 512, api.ErrDisk}, {4095, 512, api.ErrDisk},
	} {
		if code := journal.WritePage(d, c.page, make([]byte, c.size)); code != c.code {
			t.Errorf("WritePage(%d) of %d bytes = %v, want %v", c.page, c.size, code, c.code)
		}
	}
	if d.Calls() != 1 || d.Len(0) != 1 {
		t.Errorf("Calls = %d, Len = %d", d.Calls(), d.Len(0))
	}
	// The sectors ahead of the first error are written.
	if code := journal.WritePage(d, 1, page(1, 2, 3, 4)); code != api.ErrDisk {
		t.Errorf("WritePage(1) = %v", code)
	}
	isPage(t, d, 1, page(1, 2, 0, 0))
	down(d)
	for n, want := range map[int]api.Errno{0: api.ErrDown, 2: api.ErrDown, -1: api.ErrArg, 4096: api.ErrArg} {
		if code := journal.WritePage(d, n, full(1, 512)); code != want {
			t.Errorf("WritePage(%d) of a disk that is down = %v, want %v", n, code, want)
		}
	}
	if code := journal.WritePage(d, 0, nil); code != api.ErrArg {
		t.Errorf("WritePage of nothing = %v", code)
	}
}

func TestP8_3SaveSteps(t *testing.T) {
	for _, c := range []struct {
		l     []journal.Entry
		pages int
		want  []step
	}{
		{nil, 0, []step{sync(1), write(1, 0, head(0, 0)), sync(1)}},
		{nil, 4096, []step{sync(1), write(1, 0, head(0, 4096)), sync(1)}},
		{[]journal.Entry{{Page: 4095, Image: page(1, 0, 3, 4)}}, 7, []step{
			write(1, 1, title(4095)), write(1, 2, full(1, 128)), write(1, 3, full(0, 128)), write(1, 4, full(3, 128)), write(1, 5, full(4, 128)),
			sync(1), write(1, 0, head(1, 7)), sync(1),
		}},
		// The same page may occur twice, and one beyond the number of pages.
		{[]journal.Entry{{Page: 300, Image: page(1, 2, 3, 4)}, {Page: 0, Image: make([]byte, 512)}, {Page: 300, Image: page(5, 6, 7, 8)}}, 1, []step{
			write(1, 1, title(300)), write(1, 2, full(1, 128)), write(1, 3, full(2, 128)), write(1, 4, full(3, 128)), write(1, 5, full(4, 128)),
			write(1, 6, title(0)), write(1, 7, full(0, 128)), write(1, 8, full(0, 128)), write(1, 9, full(0, 128)), write(1, 10, full(0, 128)),
			write(1, 11, title(300)), write(1, 12, full(5, 128)), write(1, 13, full(6, 128)), write(1, 14, full(7, 128)), write(1, 15, full(8, 128)),
			sync(1), write(1, 0, head(3, 1)), sync(1),
		}},
	} {
		for name, prepare := range map[string]func(d *vdisk.Disk){
			"empty": func(*vdisk.Disk) {},
			"used": func(d *vdisk.Disk) {
				putPage(t, d, 1, full(9, 512))
				save(t, d, []journal.Entry{{Page: 1, Image: full(8, 512)}, {Page: 2, Image: full(7, 512)}}, 5)
				journal.Clear(d)
			},
		} {
			start := func() *vdisk.Disk { d := disk(t, 100); prepare(d); return d }
			t.Log(name, len(c.l))
			checkSteps(t, start, func(d *vdisk.Disk) api.Errno { return journal.Save(d, c.l, c.pages) }, c.want)
			d := start()
			save(t, d, c.l, c.pages)
			isHot(t, d, c.l, c.pages)
		}
	}
}

func TestP8_3SaveErrors(t *testing.T) {
	right := journal.Entry{Page: 1, Image: full(1, 512)}
	for i, c := range []struct {
		l     []journal.Entry
		pages int
	}{
		{nil, -1}, {nil, 4097}, {nil, math.MaxInt}, {nil, math.MinInt}, {[]journal.Entry{right}, 4097},
		{[]journal.Entry{{}}, 0}, {[]journal.Entry{{Page: 0}}, 0},
		{[]journal.Entry{right, {Page: 1, Image: full(1, 511)}}, 3},
		{[]journal.Entry{right, {Page: 1, Image: full(1, 513)}}, 3},
		{[]journal.Entry{right, {Page: -1, Image: right.Image}}, 3},
		{[]journal.Entry{right, {Page: 4096, Image: right.Image}}, 3},
		{[]journal.Entry{{Page: math.MaxInt, Image: right.Image}, right}, 3},
		{[]journal.Entry{{Page: math.MinInt, Image: right.Image}, right}, 3},
		{make([]journal.Entry, 4097), 3},
	} {
		d := disk(t, 20)
		if code := journal.Save(d, c.l, c.pages); code != api.ErrArg || d.Calls() != 0 {
			t.Errorf("%d: Save = %v, Calls %d", i, code, d.Calls())
		}
		if code := journal.Save(down(d), c.l, c.pages); code != api.ErrArg {
			t.Errorf("%d: Save on a disk that is down = %v", i, code)
		}
		if code := journal.Save(d, []journal.Entry{right}, 3); code != api.ErrDown {
			t.Errorf("Save on a disk that is down = %v", code)
		}
		if code := journal.Save(d, nil, 3); code != api.ErrDown {
			t.Errorf("Save of nothing on a disk that is down = %v", code)
		}
	}
	// Where there is no room, it ends at the first sector that does not fit.
	for quota, calls := range map[int]int{2: 1, 3: 2, 5: 4, 6: 5, 10: 9} {
		d := disk(t, quota)
		if code := journal.Save(d, []journal.Entry{right, right}, 3); code != api.ErrDisk || d.Calls() != calls {
			t.Errorf("Save with quota %d = %v, Calls %d, want %d", quota, code, d.Calls(), calls)
		}
		isCold(t, d)
	}
	d := disk(t, 2)
	put(t, d, 0, 1, full(1, 128))
	if code := journal.Save(d, nil, 3); code != api.ErrDisk || d.Calls() != 2 || d.Len(1) != 0 {
		t.Errorf("Save of nothing without room = %v, Calls %d", code, d.Calls())
	}
}

func TestP8_3Most(t *testing.T) {
	d := disk(t, 65536)
	var l []journal.Entry
	for i := range 4096 {
		l = append(l, journal.Entry{Page: 4095 - i, Image: full(byte(i), 512)})
	}
	save(t, d, l, 4096)
	isHot(t, d, l, 4096)
	if d.Len(1) != 1+5*4096 {
		t.Errorf("Len = %d", d.Len(1))
	}
	if done, code := journal.Restore(d); !done || code != api.OK {
		t.Errorf("Restore = %v %v", done, code)
	}
	for i := range 4096 {
		isPage(t, d, 4095-i, full(byte(i), 512))
	}
	if code := journal.Save(d, append(l, l[0]), 4096); code != api.ErrArg {
		t.Errorf("Save of 4097 entries = %v", code)
	}
	isCold(t, d)
}

func TestP8_3SaveMemory(t *testing.T) {
	d := disk(t, 50)
	image := full(1, 512)
	l := []journal.Entry{{Page: 3, Image: image}}
	save(t, d, l, 4)
	clear(image)
	l[0].Page = 2
	want := []journal.Entry{{Page: 3, Image: full(1, 512)}}
	isHot(t, d, want, 4)
	got, _, _, _ := journal.Load(d)
	clear(got[0].Image)
	isHot(t, d, want, 4)
}

func TestP8_3LoadCold(t *testing.T) {
	for _, b := range [][]byte{make([]byte, 128), full(1, 128), append([]byte("HSJ2"), make([]byte, 124)...), append(head(0, 0)[:127], 1)} {
		d := disk(t, 50)
		isCold(t, d)
		put(t, d, 1, 3, full(1, 128))
		isCold(t, d)
		put(t, d, 1, 0, b)
		isCold(t, d)
		if done, code := journal.Restore(d); done || code != api.OK || d.Calls() != 2 {
			t.Errorf("Restore = %v %v", done, code)
		}
	}
}

func TestP8_3LoadCorrupt(t *testing.T) {
	corrupt := func(d *vdisk.Disk, what string) {
		t.Helper()
		calls := d.Calls()
		if l, pages, hot, code := journal.Load(d); len(l) != 0 || pages != 0 || hot || code != api.ErrCorrupt {
			t.Errorf("%s: Load = %v %d %v %v", what, l, pages, hot, code)
		}
		if done, code := journal.Restore(d); done || code != api.ErrCorrupt || d.Calls() != calls {
			t.Errorf("%s: Restore = %v %v", what, done, code)
		}
	}
	d := disk(t, 50)
	put(t, d, 1, 0, head(4096, 4096))
	corrupt(d, "no entry of 4096")
	// Each sector of two entries is missing in turn.
	for n := range 11 {
		d := disk(t, 50)
		put(t, d, 1, n, head(2, 3))
		put(t, d, 1, 0, head(2, 3))
		if n > 0 {
			put(t, d, 1, n, make([]byte, 128))
		}
		if n < 10 {
			corrupt(d, strconv.Itoa(n+1)+" sectors")
		} else {
			isHot(t, d, []journal.Entry{{Page: 0, Image: make([]byte, 512)}, {Page: 0, Image: make([]byte, 512)}}, 3)
		}
	}
	l := []journal.Entry{{Page: 5, Image: full(1, 512)}, {Page: 6, Image: full(1, 512)}}
	for i := range 128 {
		for _, c := range []byte{0, 1, 16, 255} {
			d := disk(t, 50)
			save(t, d, l, 9)
			b := title(6)
			b[i] = c
			put(t, d, 1, 6, b)
			if b[0] == 0 && b[1] == 0 && b[2] < 16 && bytes.Equal(b[4:], make([]byte, 124)) {
				isHot(t, d, []journal.Entry{l[0], {Page: int(b[2])<<8 + int(b[3]), Image: l[1].Image}}, 9)
			} else {
				corrupt(d, "byte "+strconv.Itoa(i)+" = "+strconv.Itoa(int(c)))
			}
		}
	}
}

func TestP8_3LoadDown(t *testing.T) {
	for _, entries := range []int{-1, 0, 2} {
		d := disk(t, 50)
		if entries >= 0 {
			save(t, d, []journal.Entry{{Page: 5, Image: full(1, 512)}, {Page: 6, Image: full(1, 512)}}[:entries], 9)
		}
		down(d)
		if l, pages, hot, code := journal.Load(d); len(l) != 0 || pages != 0 || hot || code != api.ErrDown {
			t.Errorf("Load = %v %d %v %v", l, pages, hot, code)
		}
		if done, code := journal.Restore(d); done || code != api.ErrDown {
			t.Errorf("Restore = %v %v", done, code)
		}
		if code := journal.Clear(d); code != api.ErrDown {
			t.Errorf("Clear = %v", code)
		}
	}
}

func TestP8_3Clear(t *testing.T) {
	zeros := make([]byte, 128)
	clearing := []step{write(1, 0, zeros), sync(1)}
	for i, c := range []struct {
		prepare func(d *vdisk.Disk)
		want    []step
	}{
		{func(*vdisk.Disk) {}, nil},
		{func(d *vdisk.Disk) { putPage(t, d, 1, full(1, 512)) }, nil},
		{func(d *vdisk.Disk) { put(t, d, 1, 0, zeros) }, clearing},
		{func(d *vdisk.Disk) { put(t, d, 1, 2, full(1, 128)) }, clearing},
		{func(d *vdisk.Disk) { put(t, d, 1, 0, full(1, 128)) }, clearing},
		{func(d *vdisk.Disk) { save(t, d, nil, 0) }, clearing},
		{func(d *vdisk.Disk) { save(t, d, []journal.Entry{{Page: 5, Image: full(1, 512)}}, 9) }, clearing},
		{func(d *vdisk.Disk) { save(t, d, nil, 0); journal.Clear(d) }, clearing},
		// There is room for it, whatever the quota.
		{func(d *vdisk.Disk) { save(t, d, nil, 0); putPage(t, d, 1, full(1, 512)); d.Quota(1) }, clearing},
	} {
		start := func() *vdisk.Disk { d := disk(t, 50); c.prepare(d); return d }
		t.Log(i)
		checkSteps(t, start, journal.Clear, c.want)
		d := start()
		if code := journal.Clear(d); code != api.OK {
			t.Errorf("Clear = %v", code)
		}
		isCold(t, d)
	}
}
