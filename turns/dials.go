package turns

import (
	"slices"

	"ticking/api"
)

const maxSize = 10

func areSizes(list []int) bool {
	return len(list) <= api.MaxDials && !slices.ContainsFunc(list, func(x int) bool { return !isBetween(x, 1, maxSize) })
}

func countSettings(sizes []int) int {
	product := 1
	for _, size := range sizes {
		product *= size
	}
	return product
}

func isSetting(sizes, list []int) bool {
	if len(list) != len(sizes) {
		return false
	}
	for i, number := range list {
		if !isBetween(number, 0, sizes[i]-1) {
			return false
		}
	}
	return true
}

// behind returns what turns the positions of the settings of the dials behind one with this number into positions of their own sequence, and back.
func behind(number, length int) func(int) int { return direction(length, number%2 == 1) }

func settingIn(sizes []int, at int) []int {
	length := countSettings(sizes)
	var setting []int
	for _, size := range sizes {
		length /= size
		number := at / length
		at = behind(number, length)(at % length)
		setting = append(setting, number)
	}
	return setting
}

func placeOfSetting(sizes, setting []int) int {
	at, length := 0, 1
	for i, number := range slices.Backward(setting) {
		at = number*length + behind(number, length)(at)
		length *= sizes[i]
	}
	return at
}
