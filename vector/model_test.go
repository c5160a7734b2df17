package vector_test

import (
	"fmt"
	"math/big"
	"regexp"
	"strings"

	"milestone/api"
)

// The model's vectors are maps, and its numbers have no bound.

// modelOf is a vector's map.
func modelOf(v api.Vector) map[int]uint64 {
	m := map[int]uint64{}
	for _, s := range v {
		m[s.Device] = s.Version
	}
	return m
}

// ofModel is a map's vector.
func ofModel(m map[int]uint64) api.Vector {
	var v api.Vector
	for device := range api.MaxDevices {
		if version, has := m[device]; has {
			v = append(v, api.Stamp{Device: device, Version: version})
		}
	}
	return v
}

// modelMay tells whether a row of stamps may be a vector.
func modelMay(v api.Vector) bool {
	return rowsAlike(v, ofModel(modelOf(v)))
}

func modelWith(v api.Vector, l []api.Stamp) api.Vector {
	m := modelOf(v)
	for _, s := range l {
		m[s.Device] = s.Version
	}
	return ofModel(m)
}

// modelAgree tells whether no two vectors have unlike versions of a device.
func modelAgree(l []api.Vector) bool {
	for _, a := range l {
		for _, b := range l {
			versions := modelOf(b)
			for _, s := range a {
				if other, has := versions[s.Device]; has && other != s.Version {
					return false
				}
			}
		}
	}
	return true
}

func modelJoin(l []api.Vector) api.Vector {
	m := map[int]uint64{}
	for _, v := range l {
		for _, s := range v {
			m[s.Device] = max(m[s.Device], s.Version)
		}
	}
	return ofModel(m)
}

func modelBelow(a, b api.Vector) bool {
	versions := modelOf(b)
	for _, s := range a {
		if other, has := versions[s.Device]; !has || other < s.Version {
			return false
		}
	}
	return true
}

func modelText(v api.Vector) string {
	var parts []string
	for _, s := range v {
		parts = append(parts, fmt.Sprintf("%d:%d", s.Device, s.Version))
	}
	if len(parts) == 0 {
		return "-"
	}
	return strings.Join(parts, " ")
}

var digits = regexp.MustCompile(`^(0|[1-9][0-9]*):(0|[1-9][0-9]*)$`)

// modelFault is the place of the first part that is at fault, or -1.
func modelFault(s string) int {
	if s == "-" {
		return -1
	}
	ahead := big.NewInt(-1)
	at := 0
	for _, part := range strings.Split(s, " ") {
		m := digits.FindStringSubmatch(part)
		if m == nil {
			return at
		}
		device, _ := new(big.Int).SetString(m[1], 10)
		version, _ := new(big.Int).SetString(m[2], 10)
		if device.Cmp(big.NewInt(255)) > 0 || version.BitLen() > 64 || device.Cmp(ahead) <= 0 {
			return at
		}
		ahead = device
		at += len(part) + 1
	}
	return -1
}
