package limits

import (
	"math"
	"slices"
	"strings"
	"testing"

	"tidewrack/api"
)

func TestExamples(t *testing.T) {
	l := api.Limits{Series: 1, Labels: 16, Push: 256}
	one := []api.Sample{sample(0, "a", "x")}
	for _, x := range []struct {
		tenant string
		ss     []api.Sample
		want   api.Errno
	}{{"A", one, api.ErrLimitTenant}, {"a", nil, api.ErrLimitPush}, {"a", one, api.OK}} {
		if n, e := Check(x.tenant, x.ss, l); n != 0 || e != x.want {
			t.Errorf("P15.2: Check(%q, %d samples): %d, %d; want 0, %d", x.tenant, len(x.ss), n, e, x.want)
		}
	}
	if got := Normal(0x7ff8000000000007); got != 0x7ff8000000000000 {
		t.Errorf("P15.1: Normal(7ff8000000000007): %x", got)
	}
	if got := Normal(0x7ff0000000000002); got != 0x7ff0000000000002 {
		t.Errorf("P15.1: Normal(7ff0000000000002): %x", got)
	}
}

// tenantIs holds Tenant and Check against what may be.
func tenantIs(t *testing.T, s string) {
	t.Helper()
	want := tenantForm.MatchString(s)
	if Tenant(s) != want {
		t.Errorf("P15.1: Tenant(%.50q): %v", s, !want)
	}
	fault := api.OK
	if !want {
		fault = api.ErrLimitTenant
	}
	if n, e := Check(s, []api.Sample{sample(0, "a", "x")}, api.Limits{Labels: 1, Push: 1}); n != 0 || e != fault {
		t.Errorf("P15.2: Check of tenant %.50q: %d, %d; want 0, %d", s, n, e, fault)
	}
}

func TestTenants(t *testing.T) {
	for c := range 256 {
		b := string([]byte{byte(c)})
		for _, s := range []string{b, b + "a", "a" + b, "a" + b + "a", strings.Repeat("a", 31) + b, b + strings.Repeat("a", 31)} {
			tenantIs(t, s)
		}
	}
	for n := range 100 {
		tenantIs(t, strings.Repeat("t", n))
	}
	for _, s := range []string{"-", "0", "9", "z", "--", "a-9", "é", "a b", "a\n", "\x00", "ａ", strings.Repeat("é", 16), strings.Repeat("t", 1<<22)} {
		tenantIs(t, s)
	}
}

// floats are the bits at the edges of each exponent, with each bit of the fraction alone, of both signs.
func floats() []uint64 {
	var out []uint64
	for exponent := range uint64(2048) {
		fractions := []uint64{0, 1, 2, 3, 1<<51 - 1, 1 << 51, 1<<51 + 1, 1<<51 + 2, 1<<52 - 2, 1<<52 - 1}
		for k := range 52 {
			fractions = append(fractions, 1<<k)
		}
		for _, f := range fractions {
			out = append(out, exponent<<52|f, 1<<63|exponent<<52|f)
		}
	}
	return out
}

func TestNormal(t *testing.T) {
	for _, v := range floats() {
		got := Normal(v)
		if want := normalOf(v); got != want {
			t.Fatalf("P15.1: Normal(%x): %x, not %x", v, got, want)
		}
		if again := Normal(got); again != got {
			t.Fatalf("P15.3: Normal(Normal(%x)): %x, not %x", v, again, got)
		}
	}
	for v, want := range map[uint64]uint64{
		0: 0, 1 << 63: 1 << 63, math.Float64bits(1.5): math.Float64bits(1.5),
		math.Float64bits(math.Inf(1)): 0x7ff0000000000000, math.Float64bits(math.Inf(-1)): 0xfff0000000000000,
		0x7ff0000000000001: api.NaN, 0x7ff0000000000002: api.Stale, 0x7ff0000000000003: api.NaN, 0xfff0000000000002: api.NaN,
		0x7fffffffffffffff: api.NaN, math.MaxUint64: api.NaN, math.Float64bits(math.NaN()): api.NaN,
	} {
		if got := Normal(v); got != want {
			t.Errorf("P15.1: Normal(%x): %x, not %x", v, got, want)
		}
	}
}

// checkIs holds Check against what chapter 15 says of it, and tells whether the samples are taken.
func checkIs(t *testing.T, tenant string, ss []api.Sample, l api.Limits) bool {
	t.Helper()
	n, e := Check(tenant, ss, l)
	if want, fault := checkOf(tenant, ss, l); n != want || e != fault {
		t.Fatalf("P15.2: Check(%.50q, %d samples: %.300v, %v): %d, %d; want %d, %d", tenant, len(ss), ss, l, n, e, want, fault)
	}
	return e == api.OK
}

// lists are all lists of at most three samples of the pool.
func lists() [][]api.Sample {
	out := [][]api.Sample{nil, {}}
	for _, a := range pool() {
		out = append(out, []api.Sample{a})
		for _, b := range pool() {
			out = append(out, []api.Sample{a, b})
			for _, c := range pool() {
				out = append(out, []api.Sample{a, b, c})
			}
		}
	}
	return out
}

func TestSmallPushes(t *testing.T) {
	all := lists()
	for _, l := range []api.Limits{{}, {Labels: 2, Push: 3}, {Labels: 16, Push: 3}, {Labels: 17, Push: 2}, {Labels: 1, Push: 256}, {Labels: 0, Push: 3}} {
		for _, ss := range all {
			checkIs(t, "a-1", ss, l)
		}
	}
	for _, tenant := range []string{"", "A"} {
		for _, ss := range all[:1000] {
			checkIs(t, tenant, ss, api.Limits{Labels: 16, Push: 2})
		}
	}
}

var numbers = []int{math.MinInt, -257, -1, 0, 1, 2, 3, 15, 16, 17, 18, 255, 256, 257, 258, 1 << 32, 1<<32 + 1, math.MaxInt}

func TestHowManySamples(t *testing.T) {
	for n := range 600 {
		right := slices.Repeat([]api.Sample{sample(0, "a", "x")}, n)
		for _, push := range numbers {
			checkIs(t, "t", right, api.Limits{Labels: 1, Push: push})
			checkIs(t, "t", make([]api.Sample, n), api.Limits{Labels: 1, Push: push})
		}
	}
}

func TestHowManyLabels(t *testing.T) {
	for n := range 20 {
		for _, most := range numbers {
			checkIs(t, "t", []api.Sample{sample(0, "a", "x"), {Labels: manyPairs(n)}}, api.Limits{Labels: most, Push: 2})
		}
	}
}

func TestTimes(t *testing.T) {
	for _, edge := range []int64{math.MinInt64 + 2, -1 << 62, -1 << 41, -1 << 40, -1 << 39, 0, 1 << 39, 1 << 40, 1 << 41, 1 << 62, math.MaxInt64 - 2} {
		for d := int64(-2); d <= 2; d++ {
			checkIs(t, "t", []api.Sample{sample(0, "a", "x"), sample(edge+d, "a", "x"), sample(0)}, api.Limits{Labels: 1, Push: 3})
		}
	}
}

// TestEachPlace: the number told is that of the first sample that is wrong, whatever stands behind it.
func TestEachPlace(t *testing.T) {
	l := api.Limits{Labels: 16, Push: 256}
	late := api.Sample{Labels: pairs("a", "x"), T: 1<<40 + 1}
	for i := range 256 {
		for _, wrong := range []api.Sample{late, sample(0)} {
			ss := slices.Repeat([]api.Sample{sample(0, "a", "x")}, 256)
			ss[i] = wrong
			checkIs(t, "t", ss, l)
			ss[255] = late
			checkIs(t, "t", ss, l)
			ss[255] = sample(0)
			checkIs(t, "t", ss, l)
		}
	}
}

// TestOrderOfErrors: each error alone, and ahead of all that the chapter names behind it.
func TestOrderOfErrors(t *testing.T) {
	good, late, bare := sample(0, "a", "x"), sample(1<<40+1, "a", "x"), sample(math.MaxInt64)
	l := api.Limits{Labels: 1, Push: 2}
	for _, x := range []struct {
		tenant string
		ss     []api.Sample
		n      int
		want   api.Errno
	}{
		{"", nil, 0, api.ErrLimitTenant}, {"", []api.Sample{good, bare, late}, 0, api.ErrLimitTenant}, {"", []api.Sample{good, bare}, 0, api.ErrLimitTenant},
		{"t", nil, 0, api.ErrLimitPush}, {"t", []api.Sample{bare, late, good}, 0, api.ErrLimitPush},
		{"t", []api.Sample{bare, late}, 0, api.ErrLimitLabels}, {"t", []api.Sample{late, bare}, 0, api.ErrLimitTime},
		{"t", []api.Sample{good, bare}, 1, api.ErrLimitLabels}, {"t", []api.Sample{good, late}, 1, api.ErrLimitTime}, {"t", []api.Sample{good, good}, 0, api.OK},
	} {
		if n, e := Check(x.tenant, x.ss, l); n != x.n || e != x.want {
			t.Errorf("P15.2: Check(%q, %v): %d, %d; want %d, %d", x.tenant, x.ss, n, e, x.n, x.want)
		}
	}
}

// TestWhatIsNotAsked: V, and the limits of series and of senders, change nothing; nor does a sample that is there twice.
func TestWhatIsNotAsked(t *testing.T) {
	for _, v := range []uint64{0, api.NaN, api.Stale, math.MaxUint64, 0x7ff0000000000001} {
		for _, series := range numbers {
			for _, ha := range []bool{false, true} {
				s := sample(0, "a", "x")
				s.V = v
				if n, e := Check("t", []api.Sample{s, s}, api.Limits{Series: series, Labels: 1, Push: 2, HA: ha}); n != 0 || e != api.OK {
					t.Errorf("P15.2: V %x, Series %d, HA %v: %d, %d", v, series, ha, n, e)
				}
			}
		}
	}
}

func TestBeginnings(t *testing.T) {
	l := api.Limits{Labels: 16, Push: 256}
	var right []api.Sample
	for i := range 256 {
		right = append(right, api.Sample{Labels: manyPairs(1 + i%16), T: int64(i-128) << 33})
	}
	for _, ss := range append(lists(), right) {
		if !checkIs(t, "t", ss, l) {
			continue
		}
		for n := range len(ss) + 1 {
			if _, e := Check("t", ss[:n], l); (e == api.OK) != (n > 0) {
				t.Errorf("P15.3: of %d samples that are taken the first %d: %d", len(ss), n, e)
			}
		}
	}
}
