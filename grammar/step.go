package grammar

import (
	"strings"

	"damier/api"
	"damier/keys"
)

// Which characters are verbs, or the second keys of some; with Ctrl: of which letters the keys are.
const (
	motions   = "hjkl0$wb{}GHLnN"
	operators = "dyc"
	lettered  = "q@"
	withG     = "-+iadhljk"
	withI     = "crlbt"

	normalAlone = "xpPoOu.iaIAvV:/"
	normalCtrl  = "vrdu"
	visualAlone = "dxycpovV:"
	visualCtrl  = "vdu"
)

// paired is by what the first key of a verb of two is multiplied.
const paired = 256

// pair tells the verb of two keys.
func pair(first, second int) int {
	return paired*first + second
}

// press is a key that comes, and how things stand then.
type press struct {
	key, way  int
	recording bool
}

// step takes a key more of a command, and tells which step takes the next one: none, if the command is whole, or the key is wrong.
type step func(c *Cmd, x press) (step, api.Errno)

// among tells whether a key is one of some characters.
func among(some string, k int) bool {
	// Not by k's character, since of a great number there is none.
	return strings.ContainsFunc(some, func(c rune) bool { return int(c) == k })
}

// amongCtrl tells whether a key is that of Ctrl and one of some letters.
func amongCtrl(some string, k int) bool {
	return strings.ContainsFunc(some, func(c rune) bool { return keys.Ctrl(byte(c)) == k })
}

// within tells whether a key is a character from one to another.
func within(k, from, to int) bool {
	return from <= k && k <= to
}

// whole makes a command whole by its verb.
func whole(c *Cmd, verb int) (step, api.Errno) {
	c.Verb = verb
	return nil, api.OK
}

// wrong refuses a key.
func wrong() (step, api.Errno) {
	return nil, api.ErrKey
}

// begin takes the first key of a command, of a count or register ahead of it, or of what stands behind these.
func begin(c *Cmd, x press) (step, api.Errno) {
	switch {
	case x.key == '"':
		return register, api.OK
	case within(x.key, '1', '9'):
		return counting(max(c.Count, 1), 0, begin)(c, x)
	case x.way == Visual:
		return visual(c, x)
	}
	return normal(c, x)
}

// register takes a register's letter.
func register(c *Cmd, x press) (step, api.Errno) {
	if !within(x.key, 'a', 'z') && !within(x.key, 'A', 'Z') {
		return wrong()
	}
	c.Reg = x.key
	return begin, api.OK
}

// counting tells the step that takes digits of a count of which n is there, and all else as then does. It is multiplied by the counts ahead.
func counting(ahead, n int, then step) step {
	return func(c *Cmd, x press) (step, api.Errno) {
		if !within(x.key, '0', '9') {
			return then(c, x)
		}
		more := 10*n + x.key - '0'
		if ahead*more > api.MaxCount {
			return nil, api.ErrRange
		}
		c.Count = ahead * more
		return counting(ahead, more, then), api.OK
	}
}

// visual takes the first key of a verb, where something is selected.
func visual(c *Cmd, x press) (step, api.Errno) {
	if among(visualAlone, x.key) || amongCtrl(visualCtrl, x.key) {
		return whole(c, x.key)
	}
	return motion(c, x)
}

// normal takes the first key of an operator or verb, where nothing is selected.
func normal(c *Cmd, x press) (step, api.Errno) {
	switch {
	case among(normalAlone, x.key), amongCtrl(normalCtrl, x.key):
		return whole(c, x.key)
	case x.key == 'q' && x.recording:
		return whole(c, x.key)
	case among(lettered, x.key):
		c.Verb = x.key
		return letter, api.OK
	case among(operators, x.key):
		c.Op = x.key
		return behindOp, api.OK
	}
	return motion(c, x)
}

// letter takes the name of a macro.
func letter(c *Cmd, x press) (step, api.Errno) {
	if !within(x.key, 'a', 'z') {
		return wrong()
	}
	c.Char = x.key
	return nil, api.OK
}

// behindOp takes the key behind an operator.
func behindOp(c *Cmd, x press) (step, api.Errno) {
	if within(x.key, '1', '9') {
		return counting(max(c.Count, 1), 0, operand)(c, x)
	}
	return operand(c, x)
}

// operand takes the first key of what an operator is done to.
func operand(c *Cmd, x press) (step, api.Errno) {
	switch x.key {
	case c.Op:
		return whole(c, x.key)
	case 'i':
		return behindI, api.OK
	}
	return motion(c, x)
}

// behindI takes the key behind i: which part of the grid is meant.
func behindI(c *Cmd, x press) (step, api.Errno) {
	if !among(withI, x.key) {
		return wrong()
	}
	return whole(c, pair('i', x.key))
}

// motion takes the first key of a motion.
func motion(c *Cmd, x press) (step, api.Errno) {
	verb := moving(x.key)
	switch {
	case verb == 'g':
		return behindG, api.OK
	case among(motions, verb):
		return whole(c, verb)
	}
	return wrong()
}

// moving tells the character whose motion a key is; the key, if it is none that has no character.
func moving(k int) int {
	switch k {
	case keys.Left:
		return 'h'
	case keys.Right:
		return 'l'
	case keys.Up:
		return 'k'
	case keys.Down:
		return 'j'
	case keys.Home:
		return '0'
	case keys.End:
		return '$'
	}
	return k
}

// behindG takes the key behind g: g again, or, of a verb alone where nothing is selected, others.
func behindG(c *Cmd, x press) (step, api.Errno) {
	verbs := x.way != Visual && c.Op == 0
	if x.key == 'g' || verbs && among(withG, x.key) {
		return whole(c, pair('g', x.key))
	}
	return wrong()
}
