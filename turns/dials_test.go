package turns_test

import (
	"fmt"
	"math"
	"math/rand"
	"slices"
	"testing"

	"ticking/api"
	"ticking/turns"
)

// settings follows the document: D(sizes).
func settings(sizes []int) [][]int {
	if len(sizes) == 0 {
		return [][]int{nil}
	}
	others := settings(sizes[1:])
	var all [][]int
	for number := range sizes[0] {
		order := others
		if number%2 == 1 {
			order = reversed(others)
		}
		for _, other := range order {
			all = append(all, append([]int{number}, other...))
		}
	}
	return all
}

func product(list []int) int {
	p := 1
	for _, x := range list {
		p *= x
	}
	return p
}

// settingAt follows the document for one position of D(sizes).
func settingAt(sizes []int, at int) []int {
	if len(sizes) == 0 {
		return nil
	}
	each := product(sizes[1:])
	number := 0
	for at >= each {
		at -= each
		number++
	}
	if number%2 == 1 {
		at = each - 1 - at
	}
	return append([]int{number}, settingAt(sizes[1:], at)...)
}

func settingsOf(sizes []int) (at, place) {
	return func(at int) ([]int, api.Errno) { return turns.Setting(sizes, at) },
		func(setting []int) (int, api.Errno) { return turns.SettingAt(sizes, setting) }
}

// turned returns by how much the numbers of all dials differ together, and more than this if several dials differ.
func turned(a, b []int) int {
	sum := 0
	for i := range a {
		if a[i] != b[i] {
			sum = 10*sum + max(a[i]-b[i], b[i]-a[i])
		}
	}
	return sum
}

// P10.1, P10.2 and P10.5: all settings of a few small dials, and of some more.
func TestSettings(t *testing.T) {
	var all [][]int
	for count := range 5 {
		all = append(all, allLists(count, 1, 5)...)
	}
	all = append(all, []int{10}, []int{9}, []int{10, 10, 10}, []int{1, 10, 1, 9, 2}, slices.Repeat([]int{1}, 12), slices.Repeat([]int{2}, 12))
	for _, sizes := range all {
		before := slices.Clone(sizes)
		name := fmt.Sprintf("D(%v)", sizes)
		at, place := settingsOf(sizes)
		checkSequence(t, name, settings(sizes), at, place)
		checkSteps(t, name, collect(product(sizes), at), turned, 1)
		if !slices.Equal(sizes, before) {
			t.Fatalf("%v has become %v", before, sizes)
		}
	}
}

// P10.1, P10.2 and P10.5 up to the limits.
func TestLargeSettings(t *testing.T) {
	x := rand.New(rand.NewSource(35))
	all := [][]int{slices.Repeat([]int{10}, 12), slices.Repeat([]int{9}, 12), append(slices.Repeat([]int{1}, 11), 10)}
	for range 300 {
		sizes := make([]int, 1+x.Intn(12))
		for i := range sizes {
			sizes[i] = 1 + x.Intn(10)
		}
		all = append(all, sizes)
	}
	for _, sizes := range all {
		name := fmt.Sprintf("D(%v)", sizes)
		at, place := settingsOf(sizes)
		length := product(sizes)
		for _, p := range positions(x, length) {
			checkLarge(t, name, p, settingAt(sizes, p), at, place)
			if p+1 < length {
				setting, _ := at(p)
				next, _ := at(p + 1)
				checkSteps(t, name, [][]int{setting, next}, turned, 1)
			}
		}
		for _, wrong := range []int{-1, length, length + 1, -length, math.MinInt, math.MaxInt} {
			setting, e := at(wrong)
			refuses(t, name, setting, 0, e)
		}
	}
}

// P10.1, P10.2: the wrong sizes.
func TestSettingRefuses(t *testing.T) {
	all := [][]int{slices.Repeat([]int{1}, 13), slices.Repeat([]int{10}, 13), make([]int, 12), make([]int, 100000), slices.Repeat([]int{2}, 100000)}
	for _, wrong := range []int{math.MinInt, -1, 0, 11, 12, math.MaxInt} {
		all = append(all, []int{wrong}, []int{wrong, 2}, []int{2, wrong}, []int{wrong, wrong}, append(slices.Repeat([]int{2}, 11), wrong))
	}
	for _, sizes := range all {
		for _, at := range []int{-1, 0, 1} {
			setting, e := turns.Setting(sizes, at)
			refuses(t, fmt.Sprintf("Setting(%v, %d)", sizes, at), setting, 0, e)
		}
		for _, list := range [][]int{nil, make([]int, len(sizes)), make([]int, 12)} {
			at, e := turns.SettingAt(sizes, list)
			refuses(t, fmt.Sprintf("SettingAt(%v, %v)", sizes, list), nil, at, e)
		}
	}
}

// P10.2: all short lists.
func TestPlacesOfSettings(t *testing.T) {
	for count := range 4 {
		for _, sizes := range allLists(count, 1, 3) {
			_, place := settingsOf(sizes)
			for length := range 5 {
				checkPlaces(t, fmt.Sprintf("D(%v)", sizes), settings(sizes), allLists(length, -1, 3), place)
			}
		}
	}
}

// P10.2: long lists, and those with a wrong number.
func TestSettingAtRefuses(t *testing.T) {
	sizes := slices.Repeat([]int{10}, 12)
	lists := [][]int{nil, make([]int, 11), make([]int, 13), make([]int, 100000)}
	for _, wrong := range []int{math.MinInt, -1, 10, 11, math.MaxInt} {
		for at := range 12 {
			list := make([]int, 12)
			list[at] = wrong
			lists = append(lists, list)
		}
	}
	for _, list := range lists {
		at, e := turns.SettingAt(sizes, list)
		refuses(t, fmt.Sprintf("SettingAt(%v, %v)", sizes, list), nil, at, e)
	}
	for size := 1; size <= 10; size++ {
		if at, e := turns.SettingAt([]int{size}, []int{size - 1}); at != size-1 || e != api.OK {
			t.Errorf("SettingAt(%d, %d) = %d, %d", size, size-1, at, e)
		}
		at, e := turns.SettingAt([]int{size}, []int{size})
		refuses(t, fmt.Sprintf("SettingAt(%d, %d)", size, size), nil, at, e)
	}
}
