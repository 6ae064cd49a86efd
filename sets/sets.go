// Package sets: sets of points as numbers, whose bit i is 1 if point i is in it. All layers reckon with them alike.
package sets

import (
	"math/bits"

	"hasse/api"
)

// IsCount tells whether there may be n points.
func IsCount(n int) bool { return n >= 0 && n <= api.MaxPoints }

// IsGround tells whether sets of sets, and weights, may be of n points.
func IsGround(n int) bool { return n >= 0 && n <= api.MaxGround }

// IsPoint tells whether a number is one of n points.
func IsPoint(point, n int) bool { return point >= 0 && point < n }

// All is the set of n points.
func All(n int) int { return 1<<n - 1 }

// Within tells whether all that a number has is among n points; a number below 0 has what is no point.
func Within(set, n int) bool { return set >= 0 && set <= All(n) }

// Has tells whether a point is in a set.
func Has(set, point int) bool { return set>>point&1 == 1 }

// HasAll tells whether all points of a part are in a set.
func HasAll(set, part int) bool { return part&^set == 0 }

// Size is how many points a set has.
func Size(set int) int { return bits.OnesCount(uint(set)) }

// UpTo is the set of a point of an order and of all that is below it.
func UpTo(o api.Order, point int) int { return o.Below[point] | 1<<point }

// First is the least point of a set that has one.
func First(set int) int { return bits.TrailingZeros(uint(set)) }

// Members of a set, rising.
func Members(set int) []int {
	points := make([]int, 0, Size(set))
	for ; set != 0; set &= set - 1 {
		points = append(points, First(set))
	}
	return points
}

// EachOnce tells whether a list has each of n points once, and nothing else.
func EachOnce(list []int, n int) bool {
	if len(list) != n {
		return false
	}
	met := 0
	for _, point := range list {
		if !IsPoint(point, n) || Has(met, point) {
			return false
		}
		met |= 1 << point
	}
	return true
}

// CheckMap tells what is wrong with a list that says of each of n points to which of m points it goes: ErrForm, if it has not a number for each; ErrRange, if one is no point.
func CheckMap(list []int, n, m int) api.Errno {
	if len(list) != n {
		return api.ErrForm
	}
	for _, point := range list {
		if !IsPoint(point, m) {
			return api.ErrRange
		}
	}
	return api.OK
}

// CheckRising tells what is wrong with a list of sets of n points: ErrMany, if there may not be n; ErrRange, if a set has something that is no point; ErrTwice, if they do not rise.
func CheckRising(list []int, n int) api.Errno {
	if !IsCount(n) {
		return api.ErrMany
	}
	for _, set := range list {
		if !Within(set, n) {
			return api.ErrRange
		}
	}
	for i := range list {
		if i > 0 && list[i-1] >= list[i] {
			return api.ErrTwice
		}
	}
	return api.OK
}

// Pieces into which a set falls, if each point holds on to some others, which hold on to it likewise. The one with the least point comes first.
func Pieces(set int, held []int) []int {
	var parts []int
	for set != 0 {
		part, grown := 0, 1<<First(set)
		for part != grown {
			part = grown
			for _, point := range Members(part) {
				grown |= held[point] & set
			}
		}
		parts = append(parts, part)
		set &^= part
	}
	return parts
}
