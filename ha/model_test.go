package ha

import (
	"bytes"
	"encoding/binary"
	"fmt"
	"hash/fnv"
	"math/big"
	"strings"

	"tidewrack/api"
)

// What chapter 16 says, by the library's means.

// valueOf is the Value of the first label of that Name.
func valueOf(ls []api.Label, name string) string {
	for _, l := range ls {
		if l.Name == name {
			return l.Value
		}
	}
	return ""
}

func splitOf(ss []api.Sample) (string, string, []api.Sample, api.Errno) {
	senders := map[[2]string]int{}
	bare := []api.Sample{}
	oneOfSuch := false
	for _, s := range ss {
		who := [2]string{valueOf(s.Labels, "cluster"), valueOf(s.Labels, "replica")}
		senders[who]++
		oneOfSuch = oneOfSuch || who[1] != ""
		kept := []api.Label{}
		for _, l := range s.Labels {
			if l.Name != "replica" {
				kept = append(kept, l)
			}
		}
		bare = append(bare, api.Sample{Labels: kept, T: s.T, V: s.V})
	}
	if !oneOfSuch {
		return "", "", ss, 0
	}
	for who := range senders {
		if len(senders) == 1 && who[0] != "" && who[1] != "" {
			return who[0], who[1], bare, 0
		}
	}
	return "", "", nil, 160
}

func decideOf(has bool, l api.Leader, replica string, now, refresh, failover int64) int {
	since := new(big.Int).Sub(big.NewInt(now), big.NewInt(l.Stamp))
	atLeast := func(span int64) bool { return since.Cmp(big.NewInt(span)) >= 0 }
	if !has {
		return 2
	}
	if l.Replica == replica {
		if atLeast(refresh) {
			return 1
		}
		return 0
	}
	if atLeast(failover) {
		return 2
	}
	return 3
}

func bytesOf(l api.Leader) []byte {
	return binary.AppendVarint(append(binary.AppendUvarint(nil, uint64(len(l.Replica))), l.Replica...), l.Stamp)
}

// leaderOf reads a Leader, if these are the bytes that one has.
func leaderOf(b []byte) (api.Leader, bool) {
	n, at := binary.Uvarint(b)
	if at <= 0 || n > uint64(len(b)-at) {
		return api.Leader{}, false
	}
	behind := b[at+int(n):]
	stamp, _ := binary.Varint(behind)
	l := api.Leader{Replica: string(b[at : at+int(n)]), Stamp: stamp}
	return l, bytes.Equal(bytesOf(l), b)
}

func keyOf(tenant, cluster string) string {
	h := fnv.New32a()
	h.Write([]byte("\x01\x07cluster"))
	h.Write(binary.AppendUvarint(nil, uint64(len(cluster))))
	h.Write([]byte(cluster))
	return fmt.Sprintf("ha/%s/%d", tenant, h.Sum32())
}

// told is all that samples say: a list that is nil and one that is empty are told alike.
func told(ss []api.Sample) string {
	var out strings.Builder
	for _, s := range ss {
		fmt.Fprintf(&out, "%q %d %x\n", s.Labels, s.T, s.V)
	}
	return out.String()
}

// What the tests push.

func sample(at int64, texts ...string) api.Sample {
	s := api.Sample{T: at, V: uint64(at) * 3}
	for i := 0; i < len(texts); i += 2 {
		s.Labels = append(s.Labels, api.Label{Name: texts[i], Value: texts[i+1]})
	}
	return s
}

// pool has samples with each of both labels and without them, with names and values that are near, and lists of labels that are no sets.
func pool() []api.Sample {
	var out []api.Sample
	for _, cluster := range []string{"-", "", "c", "d"} {
		for _, replica := range []string{"-", "", "r", "q"} {
			s := sample(int64(len(out)) - 9)
			if cluster != "-" {
				s.Labels = append(s.Labels, api.Label{Name: "cluster", Value: cluster})
			}
			if replica != "-" {
				s.Labels = append(s.Labels, api.Label{Name: "replica", Value: replica})
			}
			s.Labels = append(s.Labels, api.Label{Name: "x", Value: "y"})
			out = append(out, s)
		}
	}
	return append(out,
		sample(api.MaxTime, "replica", "r", "cluster", "c"),
		sample(-api.MaxTime, "cluster", "c", "replica", "r", "replica", "q"),
		sample(1, "cluster", "c", "replica", "", "replica", "r"),
		sample(2, "cluster", "c", "cluster", "d", "replica", "r"),
		sample(3, "cluster", "r", "replica", "c"),
		sample(4, "Cluster", "c", "Replica", "r", "replic", "r", "replicas", "r", "replica ", "r"),
	)
}
