package tasks

import "milestone/api"

// jobsMayBe tells whether jobs may be those of a task.
func jobsMayBe(l []api.Job) bool {
	for i, j := range l {
		if i > 0 && order(l[i-1].Spot, j.Spot) >= 0 || !jobMayBe(j) {
			return false
		}
	}
	return true
}

func jobMayBe(j api.Job) bool {
	return 0 <= j.Invariant && j.Invariant < api.MaxInvariants && 0 <= j.Node && j.Node < api.MaxPlan &&
		kidsMayBe(j) && fromMayBe(j) && toMayBe(j.To)
}

func kidsMayBe(j api.Job) bool {
	last := j.Node
	for _, k := range j.Kids {
		if k <= last || k >= api.MaxPlan {
			return false
		}
		last = k
	}
	return true
}

func fromMayBe(j api.Job) bool {
	if len(j.From) != len(j.Kids) {
		return false
	}
	var met devices
	for _, device := range j.From {
		if !isDevice(device) || met[device] {
			return false
		}
		met[device] = true
	}
	return true
}

func toMayBe(l []int) bool {
	for i, device := range l {
		if !isDevice(device) || i > 0 && l[i-1] >= device {
			return false
		}
	}
	return true
}

// isDevice tells whether a number may be a device's, whichever topology that has.
func isDevice(n int) bool { return 0 <= n && n < api.MaxDevices }
