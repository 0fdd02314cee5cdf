package disk

import (
	"fmt"
	"math"
	"math/big"
	"strings"
	"testing"

	"tidewrack/api"
)

// stays: keep modulo (u + 1), of numbers without a bound.
func stays(keep, u int) int {
	if keep < 0 {
		return 0
	}
	return int(new(big.Int).Mod(big.NewInt(int64(keep)), big.NewInt(int64(u)+1)).Int64())
}

func TestWhatStaysWhenThePowerGoes(t *testing.T) {
	letters := "abcdefghijklmnop"
	keeps := []int{math.MinInt, math.MinInt + 1, -17, -2, -1, math.MaxInt, math.MaxInt - 1, math.MaxInt32, 1 << 32}
	for keep := range 40 {
		keeps = append(keeps, keep)
	}
	for _, keep := range keeps {
		for _, armed := range []bool{false, true} {
			d := New()
			for s := range 4 {
				for u := range 12 {
					name := fmt.Sprint("f", s, "-", u)
					must(t, d.Append(name, []byte(letters[:s])), d.Sync(name), d.Append(name, []byte(letters[s:s+u])))
				}
			}
			if armed {
				d.Arm(0, keep)
				d.Delete("f0-0")
			} else {
				d.Off(keep)
			}
			if d.Up() {
				t.Fatal("P6.4: it is on")
			}
			d.On()
			for range 2 {
				for s := range 4 {
					for u := range 12 {
						holds(t, d, fmt.Sprint("f", s, "-", u), letters[:s+stays(keep, u)])
					}
				}
				d.Off(-1) // all that stayed is synced
				d.On()
			}
		}
	}
}

func TestPowerGoesInEachWrite(t *testing.T) {
	names := []string{"a", "b", "c"}
	script := []step{
		{kind: "append", name: "a", more: "abc"}, {kind: "sync", name: "a"}, {kind: "append", name: "b", more: "de"},
		{kind: "rename", name: "a", more: "a"}, {kind: "append", name: "a", more: "fgh"}, {kind: "rename", name: "a", more: "b"},
		{kind: "append", name: "c", more: ""}, {kind: "append", name: "c", more: "ij"}, {kind: "delete", name: "b"}, {kind: "sync", name: "c"},
	}
	for writes := range len(script) + 2 {
		for keep := -1; keep < 5; keep++ {
			d, m := New(), newModel()
			both(t, d, m, step{kind: "arm", n: writes, keep: keep})
			for i, s := range script {
				both(t, d, m, s, names...)
				if d.Up() != (i < writes) {
					t.Fatalf("P6.4: armed with %d writes, behind write %d: up %v", writes, i+1, d.Up())
				}
			}
			if w := min(writes+1, len(script)); d.Writes() != uint64(w) {
				t.Fatalf("P6.4: %d writes were begun, not %d", d.Writes(), w)
			}
			both(t, d, m, step{kind: "on"}, names...)
			for _, s := range script {
				both(t, d, m, s, names...)
			}
		}
	}
}

// What the power goes in: only an Append has been done.
func TestWriteThatIsCut(t *testing.T) {
	fresh := func() *Disk {
		d := New()
		must(t, d.Append("a", []byte("ab")), d.Sync("a"), d.Append("a", []byte("cd")), d.Append("b", []byte("x")), d.Sync("b"))
		d.Arm(0, 1)
		return d
	}
	told := func(d *Disk) string {
		d.On()
		var out []string
		for _, n := range d.List("") {
			b, _ := d.Read(n)
			out = append(out, n+"="+string(b))
		}
		return strings.Join(out, " ")
	}
	for _, c := range []struct {
		s    step
		want string
	}{
		{step{kind: "append", name: "a", more: "efg"}, "a=abc b=x"},
		{step{kind: "append", name: "b", more: "yz"}, "a=abc b=xy"},
		{step{kind: "append", name: "c", more: "yz"}, "a=abc b=x c=y"},
		{step{kind: "append", name: "c", more: ""}, "a=abc b=x c="},
		{step{kind: "sync", name: "a"}, "a=abc b=x"},
		{step{kind: "rename", name: "a", more: "b"}, "a=abc b=x"},
		{step{kind: "rename", name: "a", more: "c"}, "a=abc b=x"},
		{step{kind: "rename", name: "b", more: "b"}, "a=abc b=x"},
		{step{kind: "delete", name: "b"}, "a=abc b=x"},
	} {
		d := fresh()
		if e := c.s.onDisk(d); e != api.ErrDiskOff || d.Up() || d.Writes() != 6 {
			t.Errorf("P6.4: %s: %d, up %v, %d writes", c.s, e, d.Up(), d.Writes())
		}
		if got := told(d); got != c.want {
			t.Errorf("P6.4: %s: %q; want %q", c.s, got, c.want)
		}
		if e := d.Append("a", nil); e != api.OK {
			t.Errorf("P6.4: %s: it is armed still: %d", c.s, e)
		}
	}
}

// fires tells in which of the next writes the power goes; 0, if in none of 20.
func fires(d *Disk) int {
	for i := range 20 {
		if d.Append("z", []byte("z")) != api.OK {
			return i + 1
		}
	}
	return 0
}

func TestArmTakesThePlaceOfWhatWas(t *testing.T) {
	for _, c := range []struct {
		what string
		do   func(d *Disk)
		want int
	}{
		{"once", func(d *Disk) { d.Arm(3, 0) }, 4},
		{"twice", func(d *Disk) { d.Arm(3, 0); d.Arm(5, 0) }, 6},
		{"twice, less", func(d *Disk) { d.Arm(5, 0); d.Arm(0, 0) }, 1},
		{"disarmed", func(d *Disk) { d.Arm(5, 0); d.Arm(-1, 0) }, 0},
		{"disarmed by the least", func(d *Disk) { d.Arm(0, 0); d.Arm(math.MinInt, 4) }, 0},
		{"with the most", func(d *Disk) { d.Arm(math.MaxInt, 0) }, 0},
		{"off and on", func(d *Disk) { d.Arm(2, 0); d.Off(0); d.On() }, 0},
		{"armed while off", func(d *Disk) { d.Off(0); d.Arm(2, 0); d.On() }, 3},
		{"disarmed while off", func(d *Disk) { d.Off(0); d.Arm(2, 0); d.Arm(-2, 0); d.On() }, 0},
		{"armed while off, off again", func(d *Disk) { d.Off(0); d.Arm(2, 0); d.Off(0); d.On() }, 0},
		{"on while it is on", func(d *Disk) { d.Arm(2, 0); d.On() }, 3},
		{"calls while off are no writes", func(d *Disk) { d.Off(0); d.Arm(2, 0); d.Append("z", nil); d.Sync("z"); d.On() }, 3},
		{"reading is no write", func(d *Disk) {
			d.Arm(2, 0)
			d.Read("z")
			d.List("")
			d.Up()
			d.Writes()
			d.Clone()
		}, 3},
	} {
		d := New()
		must(t, d.Append("z", nil))
		c.do(d)
		if got := fires(d); got != c.want {
			t.Errorf("P6.4: %s: the power goes in write %d; want %d", c.what, got, c.want)
		}
	}
}

func TestOffAndOn(t *testing.T) {
	d := New()
	must(t, d.Append("a", []byte("abc")))
	d.On()
	d.Off(2)
	d.Off(0)
	d.Off(-1)
	d.On()
	holds(t, d, "a", "ab")
	must(t, d.Append("a", []byte("c")))
	d.On()
	d.Off(1)
	d.On()
	holds(t, d, "a", "abc")
	if w := d.Writes(); w != 2 {
		t.Errorf("P6.4: Off and On are no writes: %d", w)
	}
}

func TestOffAnswersAndChangesNothing(t *testing.T) {
	d, m := New(), newModel()
	for _, s := range []step{{kind: "append", name: "a", more: "abc"}, {kind: "append", name: "b", more: "d"}, {kind: "off", keep: 2}} {
		both(t, d, m, s, "a", "b")
	}
	for range 3 {
		for _, s := range []step{
			{kind: "append", name: "a", more: "x"}, {kind: "append", name: "c", more: ""}, {kind: "sync", name: "a"},
			{kind: "rename", name: "a", more: "b"}, {kind: "delete", name: "b"}, {kind: "off", keep: 0}, {kind: "off", keep: 1},
		} {
			both(t, d, m, s, "a", "b", "c")
		}
	}
	both(t, d, m, step{kind: "on"}, "a", "b", "c")
	holds(t, d, "a", "ab")
	holds(t, d, "b", "")
}

func TestCloneIsJustAsItWas(t *testing.T) {
	d := New()
	must(t, d.Append("a", []byte("ab")), d.Sync("a"), d.Append("a", []byte("cd")))
	d.Arm(2, 1)
	must(t, d.Append("b", nil))
	c := d.Clone()
	for _, x := range []*Disk{d, c} {
		must(t, x.Append("b", []byte("x")))
		if e := x.Sync("b"); e != api.ErrDiskOff || x.Writes() != 6 {
			t.Errorf("P6.4: armed likewise: %d, %d writes", e, x.Writes())
		}
	}
	c = d.Clone()
	if c.Up() || c.Writes() != 6 {
		t.Error("P6.4: the clone of one that is off")
	}
	c.On()
	if d.Up() || !c.Up() {
		t.Error("P6.4: each has its own power")
	}
	holds(t, c, "a", "abc")
	holds(t, c, "b", "x")
}

// The bytes behind a cut are written anew on both sides: they are not the same memory.
func TestCloneGoesItsOwnWay(t *testing.T) {
	d := New()
	must(t, d.Append("a", []byte("ab")), d.Sync("a"), d.Append("a", []byte("cdefgh")), d.Append("b", []byte("same")))
	c := d.Clone()
	d.Off(0)
	d.On()
	must(t, d.Append("a", []byte("123")), d.Sync("a"), d.Delete("b"), d.Append("d", nil))
	holds(t, c, "a", "abcdefgh")
	holds(t, c, "b", "same")
	if got := c.List(""); strings.Join(got, " ") != "a b" {
		t.Errorf("P6.4: %q", got)
	}
	c.Off(3)
	c.On()
	must(t, c.Append("a", []byte("WXYZ")), c.Rename("b", "e"))
	holds(t, d, "a", "ab123")
	holds(t, c, "a", "abcdeWXYZ")
	if d.Writes() != 8 || c.Writes() != 6 {
		t.Errorf("P6.4: Writes: %d, %d", d.Writes(), c.Writes())
	}
	d.Arm(0, 0)
	if got := fires(c); got != 0 {
		t.Errorf("P6.4: each is armed by itself: %d", got)
	}
}
