package words

import (
	"slices"
	"strings"
	"testing"
)

// TestRows: each row, with none at 0, and in new memory each time.
func TestRows(t *testing.T) {
	for want, row := range map[string]func() []string{
		"rate increase delta sum_over_time avg_over_time min_over_time max_over_time count_over_time last_over_time wave abs floor": Functions,
		"sum min max avg count":                 Aggregations,
		"+ - * / == != < <= > >= and or unless": Operations,
		"by without on ignoring":                Groups,
		"= != =~ !~":                            MatchKinds,
	} {
		wanted := append([]string{""}, strings.Fields(want)...)
		for range 2 {
			got := row()
			if !slices.Equal(got, wanted) {
				t.Errorf("%q; want %q", got, wanted)
			}
			clear(got)
		}
	}
}

func TestSeconds(t *testing.T) {
	units := map[byte]int64{'s': 1, 'm': 60, 'h': 3600, 'd': 86400}
	for c := range 256 {
		if got := Seconds(byte(c)); got != units[byte(c)] {
			t.Errorf("Seconds(%q): %d", byte(c), got)
		}
	}
}
