package ha

import (
	"tidewrack/api"
	"tidewrack/label"
)

// The labels by which a sender that stands twice says who it is.
const (
	clusterLabel = "cluster"
	replicaLabel = "replica"
)

// reading makes what reads a push: of a label's name it tells the value that all samples have, which is empty if there is no such value, and whether some have one at all.
func reading(ss []api.Sample) func(name string) (string, bool) {
	return func(name string) (string, bool) {
		common, some := "", false
		for i, s := range ss {
			value := label.Get(s.Labels, name)
			some = some || value != ""
			if i == 0 {
				common = value
			} else if value != common {
				common = ""
			}
		}
		return common, some
	}
}

// without has the samples without the labels of these names, in memory of their own.
func without(ss []api.Sample, names ...string) []api.Sample {
	var out []api.Sample
	for _, s := range ss {
		s.Labels = label.Without(s.Labels, names...)
		out = append(out, s)
	}
	return out
}
