package samples

import (
	"math"
	"slices"

	"hasse/api"
)

// ContextOf things, by the marks that each has.
func ContextOf(marks int, has ...int) api.Context {
	return api.Context{Things: len(has), Marks: marks, Has: has}
}

// Contexts of so many things and marks, all of them.
func Contexts(things, marks int) []api.Context {
	var contexts []api.Context
	for _, has := range Maps(things, 1<<marks) {
		contexts = append(contexts, ContextOf(marks, has...))
	}
	return contexts
}

// SmallContexts: all of up to three things and three marks.
func SmallContexts() []api.Context {
	var contexts []api.Context
	for things := range 4 {
		for marks := range 4 {
			contexts = append(contexts, Contexts(things, marks)...)
		}
	}
	return contexts
}

// AllButOne: of n things each has all marks but its own. Each set of things is a concept's.
func AllButOne(n int) api.Context {
	has := make([]int, n)
	for i := range has {
		has[i] = 1<<n - 1 - 1<<i
	}
	return ContextOf(n, has...)
}

// JustOne: of n things each has its own mark and no other.
func JustOne(n int) api.Context {
	has := make([]int, n)
	for i := range has {
		has[i] = 1 << i
	}
	return ContextOf(n, has...)
}

// Steps: n things, each has the marks with lesser numbers. Their n + 1 concepts are a chain.
func Steps(n int) api.Context {
	has := make([]int, n)
	for i := range has {
		has[i] = 1<<i - 1
	}
	return ContextOf(n, has...)
}

// Joined: the things and marks of both; each has its own marks, and all of the others'. A concept of it is one of each.
func Joined(a, b api.Context) api.Context {
	var has []int
	for _, marks := range a.Has {
		has = append(has, marks|(1<<b.Marks-1)<<a.Marks)
	}
	for _, marks := range b.Has {
		has = append(has, marks<<a.Marks|(1<<a.Marks-1))
	}
	return ContextOf(a.Marks+b.Marks, has...)
}

// Capped: one mark more, which all have, and one thing more, which has none. There is one concept more, above all others.
func Capped(c api.Context) api.Context {
	var has []int
	for _, marks := range c.Has {
		has = append(has, marks|1<<c.Marks)
	}
	return ContextOf(c.Marks+1, append(has, 0)...)
}

// Skew60 and Skew61 are contexts of which as many sets of marks are skew (chapter 16).
func Skew60() api.Context {
	return ContextOf(10, 659, 446, 964, 781, 1009, 602, 139, 743, 343, 200)
}

// Skew61 has one more than there may be rules.
func Skew61() api.Context {
	return ContextOf(10, 659, 446, 964, 781, 505, 602, 157, 231, 855, 874)
}

// Turned: the marks are things, and the things marks.
func Turned(c api.Context) api.Context {
	has := make([]int, c.Marks)
	for thing, marks := range c.Has {
		for mark := range has {
			has[mark] += marks >> mark % 2 << thing
		}
	}
	return ContextOf(c.Things, has...)
}

// GreatContexts, at least as many as are told: the greatest of some kinds, and drawn ones of three things and three marks up to as many as there may be, some with few and some with many of their marks.
func GreatContexts(count int) []api.Context {
	most := api.MaxPoints
	contexts := []api.Context{AllButOne(most), JustOne(most), Steps(most), Skew60(), Skew61(), ContextOf(0, make([]int, most)...), ContextOf(most), ContextOf(most, make([]int, most)...), ContextOf(most, slices.Repeat([]int{1023}, most)...)}
	draw := new(Draw)
	for i := 0; len(contexts) < count; i++ {
		c := ContextOf(3+draw.Next(most-2), make([]int, 3+draw.Next(most-2))...)
		for thing := range c.Has {
			for mark := range c.Marks {
				if draw.Next(7) <= i%6 {
					c.Has[thing] |= 1 << mark
				}
			}
		}
		contexts = append(contexts, c)
	}
	return contexts
}

// WrongContext is what is no context, and what is wrong with it.
type WrongContext struct {
	Context api.Context
	Err     api.Errno
}

// WrongContexts: each thing that can be wrong, and where several are, the one that is told.
func WrongContexts() []WrongContext {
	wrong := []WrongContext{
		{api.Context{Things: 11, Marks: 1, Has: make([]int, 11)}, api.ErrMany},
		{api.Context{Things: 11, Has: []int{-1}}, api.ErrMany},
		{api.Context{Marks: 11, Has: []int{-1}}, api.ErrMany},
		{api.Context{Things: 2, Marks: 11, Has: make([]int, 2)}, api.ErrMany},
		{api.Context{Things: -1, Marks: 11}, api.ErrMany},
		{api.Context{Has: []int{0}}, api.ErrForm},
		{api.Context{Things: 1}, api.ErrForm},
		{api.Context{Things: 10, Marks: 10}, api.ErrForm},
		{api.Context{Things: 2, Marks: 2, Has: []int{0}}, api.ErrForm},
		{api.Context{Things: 2, Marks: 2, Has: []int{0, 0, 0}}, api.ErrForm},
		{api.Context{Things: 2, Marks: 2, Has: []int{4}}, api.ErrForm},
		{api.Context{Things: 2, Marks: 2, Has: []int{-1, 4, 0}}, api.ErrForm},
		{ContextOf(0, 1), api.ErrRange},
		{ContextOf(10, 0, 0, 0, 0, 0, 0, 0, 0, 0, 1<<10), api.ErrRange},
	}
	for _, number := range []int{-1, 11, 64, math.MaxInt, math.MinInt} {
		wrong = append(wrong, WrongContext{api.Context{Things: number}, api.ErrMany}, WrongContext{api.Context{Marks: number}, api.ErrMany})
	}
	for _, marks := range []int{-1, 4, 7, math.MaxInt, math.MinInt} {
		for place := range 3 {
			c := ContextOf(2, 0, 1, 3)
			c.Has[place] = marks
			wrong = append(wrong, WrongContext{c, api.ErrRange})
		}
	}
	return wrong
}
