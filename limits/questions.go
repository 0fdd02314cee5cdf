package limits

import (
	"tidewrack/api"
	"tidewrack/label"
	"tidewrack/points"
)

// A question tells what is wrong with a sample, or OK.
type question func(s api.Sample) api.Errno

// questions are what is asked of each sample of a push, in the order of their errors.
func questions(l api.Limits) []question {
	return []question{
		unless(func(s api.Sample) bool { return labelsFit(s.Labels, l.Labels) }, api.ErrLimitLabels),
		unless(func(s api.Sample) bool { return points.InTime(s.T) }, api.ErrLimitTime),
	}
}

// unless makes a question: the error, if a sample is not right.
func unless(right func(s api.Sample) bool, e api.Errno) question {
	return func(s api.Sample) api.Errno {
		if right(s) {
			return api.OK
		}
		return e
	}
}

func labelsFit(ls []api.Label, most int) bool {
	return len(ls) >= 1 && len(ls) <= most && label.Check(ls) == api.OK
}
