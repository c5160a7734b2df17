package vector

import (
	"cmp"
	"slices"
	"strconv"
	"strings"

	"milestone/api"
)

// none is the text of the vector without stamps.
const none = "-"

func isDevice(n int) bool { return 0 <= n && n < api.MaxDevices }

func byDevice(a, b api.Stamp) int { return cmp.Compare(a.Device, b.Device) }

// find is where a device's stamp stands, or, if there is none, where it would.
func find(v api.Vector, device int) (int, bool) {
	return slices.BinarySearchFunc(v, api.Stamp{Device: device}, byDevice)
}

// copyOf shares nothing, not even the place of an empty row, as slices.Clone does.
func copyOf(v api.Vector) api.Vector { return append(api.Vector(nil), v...) }

func textOf(s api.Stamp) string {
	return strconv.Itoa(s.Device) + ":" + strconv.FormatUint(s.Version, 10)
}

// stampOf is the stamp whose text s is, if there is one.
func stampOf(s string) (api.Stamp, bool) {
	left, right, _ := strings.Cut(s, ":")
	device, e := strconv.ParseUint(left, 10, 64)
	if e != nil || device >= api.MaxDevices {
		return api.Stamp{}, false
	}
	version, e := strconv.ParseUint(right, 10, 64)
	if e != nil {
		return api.Stamp{}, false
	}
	stamp := api.Stamp{Device: int(device), Version: version}
	// A zero ahead is read too, but not told.
	return stamp, textOf(stamp) == s
}
