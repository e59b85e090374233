package tests

import (
	"math"
	"slices"
	"strconv"
	"strings"
	"testing"

	"loop.example/liftedcode/impl"
)

// framed is what chapter 8 tells of a function.
type framed struct {
	blocks  []impl.Block
	heights []int
	ok      bool
	frame   int
}

// noFrame is what is told of what is no function of a sound image.
var noFrame = framed{frame: -1}

func sameBlock(a impl.Block, b impl.Block) bool {
	return a.From == b.From && a.Last == b.Last && slices.Equal(a.Next, b.Next)
}

func sameBlocks(a []impl.Block, b []impl.Block) bool {
	return slices.EqualFunc(a, b, sameBlock)
}

func sameFramed(a framed, b framed) bool {
	return sameBlocks(a.blocks, b.blocks) && slices.Equal(a.heights, b.heights) && a.ok == b.ok && a.frame == b.frame
}

func framedOf(m impl.Image, at int) framed {
	heights, ok := impl.HeightsOf(m, at)
	return framed{impl.BlocksOf(m, at), heights, ok, impl.FrameOf(m, at)}
}

// built is a function of an image with what chapter 8 tells of it, written out by hand.
// Of each block the first and the last place stand, and then the blocks that may follow. Without heights there are none.
type built struct {
	program string
	entry   int
	at      int
	blocks  string
	heights string
	frame   int
}

func (b built) image() impl.Image {
	m := imageOf(b.program)
	m.Entry = b.entry
	return m
}

func (b built) want() framed {
	w := framed{heights: numbersIn(b.heights), ok: b.heights != "", frame: b.frame}
	for _, list := range listsIn(b.blocks) {
		w.blocks = append(w.blocks, impl.Block{From: list[0], Last: list[1], Next: list[2:]})
	}
	return w
}

// standing is the first function of an image that begins at 0, with its heights; falling is one that has none.
func standing(program string, blocks string, heights string, frame int) built {
	return built{program, 0, 0, blocks, heights, frame}
}

func falling(program string, blocks string) built {
	return built{program, 0, 0, blocks, "", -1}
}

// flat is the first function of an image that begins at 0, with nothing on the stack ahead of any of so many instructions.
func flat(program string, blocks string, count int) built {
	return standing(program, blocks, strings.Repeat("0 ", count), 0)
}

// builtRows have no jumps, and one block.
func builtRows() []built {
	return []built{
		flat("halt", "0 0", 1),
		flat("ret", "0 0", 1),
		flat("ret; nop; halt", "0 0", 1),
		flat("nop; halt", "0 1", 2),
		flat("nop; out r0; set r1 5; halt", "0 5", 4),
		flat("nop; add r0 r1; cmpn r0 5; load r0 r1 2; storeb r0 r1 0; ret; nop; ret", "0 11", 6),
		// What stands ahead of the function, or behind its end, is not in it.
		{"nop; nop; out r0; ret", 2, 2, "2 3", "0 0", 0},
		{"if less 0; nop; ret; halt", 2, 2, "2 3", "0 0", 0},
		// Calls, also of the function itself, and of a place within it.
		flat("nop; call @f; out r0; ret; @f:; halt", "0 5", 4),
		{"nop; call @f; out r0; ret; @f:; halt", 0, 6, "6 6", "0", 0},
		flat("call @f; call @g; call @f; halt; @f:; ret; @g:; nop; ret", "0 9", 4),
		{"call @f; call @g; call @f; halt; @f:; ret; @g:; nop; ret", 0, 10, "10 10", "0", 0},
		{"call @f; call @g; call @f; halt; @f:; ret; @g:; nop; ret", 0, 11, "11 12", "0 0", 0},
		flat("nop; call 0; ret", "0 4", 3),
		flat("call 0; halt", "0 3", 2),
		flat("nop; @g:; nop; call @g; ret", "0 5", 4),
		{"nop; @g:; nop; call @g; ret", 0, 1, "1 5", "0 0 0", 0},
		flat("call @g; @g:; nop; ret", "0 4", 3),
		// One function falls into another one.
		{"call @f; call @g; halt; @f:; nop; @g:; ret", 0, 7, "7 8", "0 0", 0},
		{"call @f; call @g; halt; @f:; nop; @g:; ret", 0, 8, "8 8", "0", 0},
	}
}

// builtChoices have jumps forward.
func builtChoices() []built {
	return []built{
		flat("jump @a; byte 255; @a:; halt", "0 0 1; 3 3", 2),
		flat("jump far @a; byte 255; @a:; halt", "0 0 1; 4 4", 2),
		flat("nop; jump @a; byte 255; @a:; nop; halt", "0 1 1; 4 5", 4),
		flat("if less @a; out r0; jump @b; @a:; out r1; @b:; ret", "0 0 2 1; 2 3 3; 5 5 3; 6 6", 5),
		flat("nop; if less far @a; out r0; jump far @b; @a:; out r1; out r1; @b:; nop; ret", "0 1 2 1; 4 5 3; 8 9 3; 10 11", 8),
		flat("if less @b; out r0; @b:; ret", "0 0 2 1; 2 2 2; 3 3", 3),
		flat("if less @a; ret; @a:; if low @b; ret; @b:; out r0; ret", "0 0 2 1; 2 2; 3 3 4 3; 5 5; 6 7", 6),
		flat("if less @a; if low @a; if equal @a; ret; @a:; halt", "0 0 4 1; 2 2 4 2; 4 4 4 3; 6 6; 7 7", 5),
		flat("if less @a; halt; @a:; ret", "0 0 2 1; 2 2; 3 3", 3),
		flat("if less @a; ret; @a:; halt", "0 0 2 1; 2 2; 3 3", 3),
		// To the instruction that follows.
		flat("jump @a; @a:; ret", "0 0 1; 2 2", 2),
		flat("jump far @a; @a:; ret", "0 0 1; 3 3", 2),
		flat("if less @a; @a:; ret", "0 0 1 1; 2 2", 2),
		flat("if less far @a; @a:; nop; ret", "0 0 1 1; 3 4", 3),
		flat("nop; if other @a; @a:; if most @b; @b:; halt", "0 1 1 1; 3 3 2 2; 5 5", 4),
		// A call is within a row wherever it stands.
		flat("if less @a; call @f; @a:; call @f; ret; @f:; ret", "0 0 2 1; 2 2 2; 5 8", 4),
		{"if less @a; call @f; @a:; call @f; ret; @f:; ret", 0, 9, "9 9", "0", 0},
		{"call @f; halt; @f:; if less @a; out r0; @a:; ret", 0, 4, "4 4 2 1; 6 6 2; 7 7", "0 0 0", 0},
		// Just the jumps of the function itself count.
		{"call @f; if less @g; halt; @f:; nop; @g:; ret", 0, 6, "6 7", "0 0", 0},
		flat("call @f; if less @g; halt; @f:; nop; @g:; ret", "0 3 2 1; 5 5; 7 7", 4),
		flat("if less @a; nop; halt; @a:; ret; jump 3", "0 0 2 1; 2 3; 4 4", 4),
	}
}

// builtLoops have jumps back, and functions whose place is not the lowest one.
func builtLoops() []built {
	return []built{
		flat("in r0; @l:; out r0; addn r0 -1; if other @l; halt", "0 0 1; 1 4 1 2; 6 6", 5),
		flat("@l:; out r0; if less @l; ret", "0 1 0 1; 3 3", 3),
		flat("jump 0", "0 0 0", 1),
		flat("jump far 0", "0 0 0", 1),
		flat("if less 0; ret", "0 0 0 1; 2 2", 2),
		flat("nop; jump 0", "0 1 0", 2),
		flat("nop; nop; jump 1", "0 0 1; 1 2 1", 3),
		flat("nop; @l:; jump @l", "0 0 1; 1 1 1", 2),
		flat("nop; @l:; if less @l; ret", "0 0 1; 1 1 1 2; 3 3", 3),
		flat("@k:; nop; @l:; in r0; if less @l; if low @k; ret", "0 0 1; 1 2 1 2; 4 4 0 3; 6 6", 5),
		flat("@l:; if less @x; out r0; jump @l; @x:; ret", "0 0 2 1; 2 3 0; 5 5", 4),
		flat("if less @b; @a:; nop; jump @b; @b:; out r0; if low @a; ret", "0 0 2 1; 2 3 2; 5 6 1 3; 8 8", 6),
		// The place of the function is not the lowest one.
		{"@a:; nop; ret; nop; jump @a", 2, 2, "2 3 1; 0 1", "0 0 0 0", 0},
		{"@a:; out r0; jump @c; if less @a; @c:; ret", 3, 3, "3 3 1 2; 0 1 2; 5 5", "0 0 0 0", 0},
		{"@a:; out r0; jump @b; @b:; if less @a; ret", 3, 3, "3 3 1 2; 0 1 0; 5 5", "0 0 0 0", 0},
		{"@a:; nop; @b:; out r0; if less @a; ret", 1, 1, "1 2 1 2; 0 0 0; 4 4", "0 0 0 0", 0},
		{"@a:; nop; @b:; ret; if low @b; if less @a; halt", 2, 2, "2 2 2 3; 0 0 2; 1 1; 4 4 1 4; 6 6", "0 0 0 0 0", 0},
		{"call @f; halt; @g:; pop r0; ret; @f:; push r1; jump @g", 0, 6, "6 7 1; 4 5", "1 0 0 1", 1},
		{"call @f; halt; @f:; jump 0", 0, 4, "4 4 1; 0 3", "0 0 0", 0},
	}
}

// builtTables have tables.
func builtTables() []built {
	return []built{
		flat("in r0; table r0 2 @t; halt; @a:; out r0; ret; @b:; ret; @t:; word @a; word @b", "0 1 2 3 1; 5 5; 6 7; 8 8", 6),
		flat("in r0; table r0 2 @t; halt; @a:; out r0; ret; @b:; ret; @t:; word @b; word @a", "0 1 3 2 1; 5 5; 6 7; 8 8", 6),
		// The same place several times.
		flat("table r0 3 @t; halt; @t:; word @a; word @a; word @a; @a:; ret", "0 0 2 2 2 1; 4 4; 11 11", 3),
		flat("table r0 3 @t; halt; @a:; nop; halt; @b:; ret; @t:; word @b; word @a; word @b", "0 0 3 2 3 1; 4 4; 5 6; 7 7", 5),
		// What follows is among the places.
		flat("table r0 1 @t; @a:; ret; @t:; word @a", "0 0 1 1; 4 4", 2),
		flat("table r0 2 @t; @a:; halt; @b:; ret; @t:; word @a; word @b", "0 0 1 2 1; 4 4; 5 5", 3),
		flat("table r0 2 @t; @a:; halt; @b:; ret; @t:; word @b; word @a", "0 0 2 1 1; 4 4; 5 5", 3),
		flat("nop; table r0 2 @t; @a:; ret; @t:; word @a; word @a", "0 1 1 1 1; 5 5", 3),
		// Back, to itself, and to the place of the function.
		flat("table r0 1 @t; ret; @t:; word 0", "0 0 0 1; 4 4", 2),
		flat("nop; @l:; table r0 1 @t; ret; @t:; word @l", "0 0 1; 1 1 1 2; 5 5", 3),
		flat("nop; @l:; table r0 2 @t; ret; @t:; word 0; word @l", "0 0 1; 1 1 0 1 2; 5 5", 3),
		flat("nop; nop; @l:; out r0; table r1 1 @t; ret; @t:; word @l", "0 1 1; 2 3 1 2; 7 7", 5),
		// The most places.
		flat("table r0 8 @t; ret; @t:; word 0; word 4; word 0; word 0; word 4; word 4; word 0; word 0", "0 0 0 1 0 0 1 1 0 0 1; 4 4", 2),
		flat("table r3 8 @t; ret; "+strings.Repeat("halt; ", 8)+"@t:; word 12; word 5; word 11; word 6; word 10; word 7; word 9; word 8",
			"0 0 9 2 8 3 7 4 6 5 1; 4 4; 5 5; 6 6; 7 7; 8 8; 9 9; 10 10; 11 11; 12 12", 10),
		// Into what would be a row without it, and behind a table another one.
		flat("nop; nop; nop; table r0 1 @t; ret; @t:; word 1", "0 0 1; 1 3 1 2; 7 7", 5),
		flat("table r0 1 @t; table r1 1 @t; ret; @t:; word 8", "0 0 2 1; 4 4 2 2; 8 8", 3),
		{"call @f; halt; @f:; table r0 1 @t; ret; @t:; word 11; out r0; halt", 0, 4, "4 4 2 1; 8 8; 11 12", "0 0 0 0", 0},
	}
}

// builtOverlaps have instructions within others.
func builtOverlaps() []built {
	return []built{
		flat("jump 3; set r0 24", "0 0 1; 3 4", 3),
		// Two ways lead to a place, and none of them is a jump: at 3 stands move r0 r0.
		flat("if less 3; set r0 32; ret", "0 0 2 1; 2 2 3; 3 3 3; 5 5", 4),
		flat("if less 3; set r0 32; nop; ret", "0 0 2 1; 2 2 3; 3 3 3; 5 6", 5),
		flat("if less 3; set r0 6424; halt", "0 0 2 1; 2 2 3; 3 4 3; 5 5", 5),
		flat("table r0 1 @t; set r0 32; ret; @t:; word 5", "0 0 2 1; 4 4 3; 5 5 3; 7 7", 4),
		// One of them is a call, or stands behind another instruction.
		flat("if less 3; call 32; ret; "+strings.Repeat("nop; ", 26)+"ret", "0 0 2 1; 2 2 3; 3 3 3; 5 5", 4),
		flat("if less 4; nop; set r0 32; nop; ret", "0 0 2 1; 2 3 3; 4 4 3; 6 7", 6),
		// Three ways lead to a place: at 5 stands move r0 r2, and at 6 nop.
		flat("if less 5; if equal 6; set r0 544; ret", "0 0 3 1; 2 2 4 2; 4 4 5; 5 5 5; 6 6 5; 7 7", 6),
		// A block goes on behind the beginning of another one within its instruction.
		flat("if less 3; set r0 280; halt; ret", "0 0 2 1; 2 5; 3 4", 5),
		flat("@l:; set r0 24; if less 1; ret", "0 3 1 2; 1 2; 5 5", 5),
		{"set r0 24; jump 1", 3, 3, "3 3 1; 1 2", "0 0 0", 0},
		// At 3 stands jump 7: what is behind it follows just the instruction around it.
		flat("if less 3; set r0 592; out r0; halt; ret", "0 0 2 1; 2 6; 3 3 3; 7 7", 6),
		// At 3 stands push r0: at 5 there is a word, or none.
		falling("if less 3; set r0 528; ret", "0 0 2 1; 2 2 3; 3 4 3; 5 5"),
		falling("if less 3; set r0 528; halt", "0 0 2 1; 2 2 3; 3 4 3; 5 5"),
		// At 4 stands pop r0: at 6 there is a word, or none.
		falling("push r0; if less 4; set r0 532; halt", "0 1 2 1; 3 3 3; 4 5 3; 6 6"),
		standing("push r0; if less 4; set r0 32; pop r0; ret", "0 1 2 1; 3 3 3; 4 4 3; 6 7", "0 1 1 1 1 0", 1),
	}
}

// builtStacks change the stack on one way.
func builtStacks() []built {
	return []built{
		standing("push r0; pop r1; ret", "0 2", "0 1 0", 1),
		standing("push r0; push r1; pop r0; push r2; drop 2; ret", "0 6", "0 1 2 1 2 0", 2),
		standing("grow 3; drop 3; ret", "0 4", "0 3 0", 3),
		standing("grow 3; drop 1; drop 2; ret", "0 6", "0 3 2 0", 3),
		standing("grow 0; drop 0; ret", "0 4", "0 0 0", 0),
		standing("grow 2; grow 0; drop 0; pop r0; pop r0; ret", "0 8", "0 2 2 2 1 0", 2),
		// A halt may have words on the stack, a ret may not.
		standing("push r0; halt", "0 1", "0 1", 1),
		standing("grow 7; halt", "0 2", "0 7", 7),
		falling("push r0; ret", "0 1"),
		falling("grow 1; ret", "0 2"),
		falling("grow 2; pop r0; ret", "0 3"),
		falling("grow 40; drop 39; ret", "0 4"),
		// Words that are not of the function.
		falling("pop r0; ret", "0 1"),
		falling("pop r0; halt", "0 1"),
		falling("drop 1; halt", "0 2"),
		falling("drop 255; halt", "0 2"),
		falling("local r0 0; halt", "0 3"),
		falling("keep r0 0; halt", "0 3"),
		falling("push r0; pop r0; pop r0; push r0; pop r0; ret", "0 5"),
		falling("grow 3; drop 4; halt", "0 4"),
		falling("grow 3; local r0 3; halt", "0 5"),
		falling("grow 3; keep r0 3; halt", "0 5"),
		falling("grow 3; local r0 255; halt", "0 5"),
		falling("push r0; local r1 1; pop r0; ret", "0 5"),
		standing("push r0; local r1 0; keep r2 0; pop r3; ret", "0 8", "0 1 1 1 0", 1),
		standing("grow 3; local r0 2; keep r0 2; local r0 0; keep r0 0; drop 3; ret", "0 16", "0 3 3 3 3 3 0", 3),
		// What is taken and put again.
		falling("pop r0; push r0; ret", "0 2"),
		falling("drop 1; grow 1; ret", "0 4"),
		// What is not reached does not matter.
		standing("halt; pop r0; ret", "0 0", "0", 0),
		standing("jump @a; push r0; @a:; ret", "0 0 1; 3 3", "0 0", 0),
		// As many words as there may be, and one more, also just behind an instruction.
		standing("grow 40; drop 40; ret", "0 4", "0 40 0", 40),
		standing("grow 40; grow 0; local r0 39; keep r0 39; drop 40; ret", "0 12", "0 40 40 40 40 0", 40),
		standing("grow 39; push r0; halt", "0 3", "0 39 40", 40),
		standing("grow 39; push r0; pop r0; drop 39; ret", "0 6", "0 39 40 39 0", 40),
		falling("grow 41; halt", "0 2"),
		falling("grow 41; drop 41; ret", "0 4"),
		falling("grow 255; halt", "0 2"),
		falling("grow 255; drop 255; ret", "0 4"),
		falling("grow 40; push r0; halt", "0 3"),
		falling("grow 40; push r0; pop r0; drop 40; ret", "0 6"),
		falling("grow 40; grow 1; drop 41; ret", "0 6"),
		falling("grow 20; grow 21; halt", "0 4"),
		falling("grow 40; local r0 40; halt", "0 5"),
		falling("grow 40; keep r0 40; halt", "0 5"),
		falling("grow 40; drop 41; halt", "0 4"),
	}
}

// builtWays change the stack on several ways.
func builtWays() []built {
	return []built{
		standing("if less @a; push r0; jump @b; @a:; grow 1; @b:; drop 1; ret", "0 0 2 1; 2 3 3; 5 5 3; 7 9", "0 0 1 0 1 0", 1),
		standing("if less @a; push r0; halt; @a:; ret", "0 0 2 1; 2 3; 4 4", "0 0 1 0", 1),
		standing("if less @a; push r0; pop r1; @a:; ret", "0 0 2 1; 2 3 2; 4 4", "0 0 1 0", 1),
		standing("push r0; if less @a; pop r1; ret; @a:; grow 4; halt", "0 1 2 1; 3 4; 5 7", "0 1 1 0 1 5", 5),
		falling("if less @a; push r0; @a:; halt", "0 0 2 1; 2 2 2; 3 3"),
		falling("if less @a; push r0; @a:; ret", "0 0 2 1; 2 2 2; 3 3"),
		falling("push r0; if less @a; pop r0; @a:; ret", "0 1 2 1; 3 3 2; 4 4"),
		falling("if less @a; grow 2; jump @b; @a:; grow 3; @b:; halt", "0 0 2 1; 2 4 3; 6 6 3; 8 8"),
		// Just one of several ways takes too much, or has too much at its end.
		falling("if less @a; ret; @a:; pop r0; ret", "0 0 2 1; 2 2; 3 4"),
		falling("push r0; if less @a; pop r0; ret; @a:; ret", "0 1 2 1; 3 4; 5 5"),
		falling("if less @a; halt; @a:; grow 41; halt", "0 0 2 1; 2 2; 3 5"),
		// Loops on whose ways the stack is the same, and is not.
		standing("@l:; push r0; pop r1; if less @l; ret", "0 2 0 1; 4 4", "0 1 0 0", 1),
		standing("grow 2; @l:; push r0; local r1 2; pop r2; if less @l; drop 2; ret", "0 0 1; 2 7 1 2; 9 11", "0 2 3 3 2 2 0", 3),
		standing("@l:; grow 0; jump @l", "0 2 0", "0 0", 0),
		falling("@l:; push r0; if less @l; halt", "0 1 0 1; 3 3"),
		falling("grow 5; @l:; pop r0; if less @l; halt", "0 0 1; 2 3 1 2; 5 5"),
		falling("@l:; push r0; jump @l", "0 1 0"),
		falling("@l:; grow 1; jump @l", "0 2 0"),
		falling("grow 2; @l:; drop 1; jump @l", "0 0 1; 2 4 1"),
		falling("push r0; @l:; if less @x; grow 1; jump @l; @x:; halt", "0 0 1; 1 1 3 2; 3 5 1; 7 7"),
		// Back to the place of the function, where nothing is on the stack.
		standing("push r0; pop r0; jump 0", "0 2 0", "0 1 0", 1),
		falling("push r0; jump 0", "0 1 0"),
		falling("push r0; if less 0; pop r0; ret", "0 1 0 1; 3 4"),
		// Tables.
		standing("push r0; table r0 1 @t; @a:; pop r0; ret; @t:; word @a", "0 1 1 1; 5 6", "0 1 1 0", 1),
		standing("grow 2; table r0 2 @t; drop 2; ret; @a:; pop r0; @b:; halt; @t:; word @a; word @a", "0 2 2 2 1; 6 8; 9 10", "0 2 2 0 2 1", 2),
		falling("grow 2; table r0 2 @t; drop 2; ret; @a:; pop r0; @b:; halt; @t:; word @a; word @b", "0 2 2 3 1; 6 8; 9 9 3; 10 10"),
		falling("table r0 1 @t; push r0; halt; @t:; word 5", "0 0 2 1; 4 4 2; 5 5"),
		// The place of the function is not the lowest one.
		{"@a:; pop r0; @b:; halt; push r0; jump @a", 2, 2, "2 3 1; 0 1", "1 0 0 1", 1},
		{"@a:; pop r0; @b:; ret; push r0; if less @a; jump @b", 2, 2, "2 3 1 3; 0 0 2; 1 1; 5 5 2", "", -1},
	}
}

// builtCalls have functions that are called with words on the stack.
func builtCalls() []built {
	return []built{
		standing("push r0; call @f; pop r0; ret; @f:; ret", "0 5", "0 1 1 0", 1),
		{"push r0; call @f; pop r0; ret; @f:; ret", 0, 6, "6 6", "0", 0},
		standing("grow 40; call @f; drop 40; ret; @f:; grow 40; drop 40; ret", "0 7", "0 40 40 0", 40),
		{"grow 40; call @f; drop 40; ret; @f:; grow 40; drop 40; ret", 0, 8, "8 12", "0 40 0", 40},
		// What others have on the stack is not of the function.
		standing("push r0; call @f; halt; @f:; pop r1; ret", "0 4", "0 1 1", 1),
		{"push r0; call @f; halt; @f:; pop r1; ret", 0, 5, "5 6", "", -1},
		{"push r0; call @f; halt; @f:; local r1 1; ret", 0, 5, "5 8", "", -1},
		{"push r0; call @f; halt; @f:; keep r1 0; ret", 0, 5, "5 8", "", -1},
		{"push r0; call @f; halt; @f:; grow 1; keep r1 1; halt", 0, 5, "5 10", "", -1},
		{"call @f; halt; @f:; push r0; ret", 0, 4, "4 5", "", -1},
		// A function within another one has other heights.
		standing("push r0; @f:; nop; call @f; drop 1; ret", "0 7", "0 1 1 1 0", 1),
		{"push r0; @f:; nop; call @f; drop 1; ret", 0, 1, "1 7", "", -1},
		standing("push r0; @f:; nop; call @f; halt", "0 5", "0 1 1 1", 1),
		{"push r0; @f:; nop; call @f; halt", 0, 1, "1 5", "0 0 0", 0},
		{"call @f; call @g; halt; @f:; push r0; jump @x; @g:; grow 1; @x:; pop r1; ret", 0, 7, "7 8 1; 12 13", "0 1 1 0", 1},
		{"call @f; call @g; halt; @f:; push r0; jump @x; @g:; grow 1; @x:; pop r1; ret", 0, 10, "10 13", "0 1 0", 1},
		// Of two functions one has no heights, whichever it is.
		standing("call @f; halt; @f:; pop r0; ret", "0 3", "0 0", 0),
		{"pop r0; call @f; halt; @f:; push r0; pop r0; ret", 0, 5, "5 7", "0 1 0", 1},
	}
}

func someBuilt() []built {
	return slices.Concat(builtRows(), builtChoices(), builtLoops(), builtTables(), builtOverlaps(), builtStacks(), builtWays(), builtCalls())
}

// wantWays tells from chapter 8 where one may go on from an instruction, in order.
func wantWays(code []int, at int) []int {
	i, _ := stands(code, at)
	behind := at + wantLong(i)
	switch i.Op {
	case impl.OpHalt, impl.OpRet:
		return nil
	case impl.OpJump:
		return []int{i.N}
	case impl.OpIf:
		return []int{i.N, behind}
	case impl.OpTable:
		list, _ := wantTable(code, i)
		return append(list, behind)
	}
	return []int{behind}
}

// wantComings tells from which instructions of a body one may come to each place, and to which a jump or a table, or what follows it, leads.
func wantComings(code []int, body []int) (map[int][]int, map[int]bool) {
	comings, jumped := map[int][]int{}, map[int]bool{}
	for _, from := range body {
		i, _ := stands(code, from)
		for _, to := range wantWays(code, from) {
			if !slices.Contains(comings[to], from) {
				comings[to] = append(comings[to], from)
			}
			if i.Op == impl.OpJump || i.Op == impl.OpIf || i.Op == impl.OpTable {
				jumped[to] = true
			}
		}
	}
	return comings, jumped
}

// wantBlocks is a second reading of BlocksOf: each instruction tells its block by the only one from which one may come to it.
func wantBlocks(code []int, at int, body []int) []impl.Block {
	comings, jumped := wantComings(code, body)
	begins := []int{at}
	for _, place := range body {
		if place != at && (jumped[place] || len(comings[place]) > 1) {
			begins = append(begins, place)
		}
	}
	lasts := map[int]int{}
	for _, place := range body {
		begin := place
		for !slices.Contains(begins, begin) {
			begin = comings[begin][0]
		}
		// Without a jump one comes to higher places alone, so that the highest one of a block is its last one.
		lasts[begin] = max(lasts[begin], place)
	}
	var list []impl.Block
	for _, begin := range begins {
		b := impl.Block{From: begin, Last: lasts[begin]}
		for _, to := range wantWays(code, b.Last) {
			b.Next = append(b.Next, slices.Index(begins, to))
		}
		list = append(list, b)
	}
	return list
}

// wantBehind tells from chapter 8 how high the stack is behind an instruction, and whether it may be as high ahead of it.
func wantBehind(i impl.Ins, high int) (int, bool) {
	least, most, more := 0, 40, 0
	switch i.Op {
	case impl.OpPush:
		most, more = 39, 1
	case impl.OpPop:
		least, more = 1, -1
	case impl.OpLocal, impl.OpKeep:
		least = i.N + 1
	case impl.OpGrow:
		most, more = 40-i.N, i.N
	case impl.OpDrop:
		least, more = i.N, -i.N
	case impl.OpRet:
		most = 0
	}
	return high + more, between(high, least, most)
}

// wantHeights is a second reading of HeightsOf: the set of all heights that there are at a place grows until it stays.
func wantHeights(code []int, at int, body []int) ([]int, bool) {
	heights := map[int]*[41]bool{}
	for _, place := range body {
		heights[place] = &[41]bool{}
	}
	heights[at][0] = true
	for grows := true; grows; {
		grows = false
		for _, place := range body {
			i, _ := stands(code, place)
			for _, high := range trues(heights[place][:]) {
				behind, ok := wantBehind(i, high)
				if !ok {
					return nil, false
				}
				for _, to := range wantWays(code, place) {
					grows = grows || !heights[to][behind]
					heights[to][behind] = true
				}
			}
		}
	}
	var list []int
	for _, place := range body {
		all := trues(heights[place][:])
		if len(all) != 1 {
			return nil, false
		}
		list = append(list, all[0])
	}
	return list, true
}

// wantFramed is a second reading of what chapter 8 tells of a function of a sound image.
func wantFramed(code []int, at int) framed {
	body := wantGrown(code, at)
	w := framed{blocks: wantBlocks(code, at, body), frame: -1}
	w.heights, w.ok = wantHeights(code, at, body)
	for k, high := range w.heights {
		i, _ := stands(code, body[k])
		behind, _ := wantBehind(i, high)
		w.frame = max(w.frame, high, behind)
	}
	return w
}

// wantFuns tells from chapter 6 the functions of an image.
func wantFuns(m impl.Image, reached []bool) []int {
	list := []int{m.Entry}
	for _, at := range wantCalled(m.Code, trues(reached)) {
		if at != m.Entry {
			list = append(list, at)
		}
	}
	return list
}

// checkFramed compares what is told of an image with the second reading, and returns what is told of its functions, and whether the image is framed.
func checkFramed(t *testing.T, m impl.Image) ([]framed, bool) {
	t.Helper()
	reached, sound := wantReached(m)
	funs := wantFuns(m, reached)
	is := sound && len(funs) <= 10
	var list []framed
	for _, at := range funs {
		got, want := framedOf(m, at), noFrame
		if sound {
			want = wantFramed(m.Code, at)
		}
		if !sameFramed(got, want) {
			t.Errorf("of %v, from %d on, at %d is told %v, not %v", brief(m.Code), m.Entry, at, got, want)
		}
		list = append(list, got)
		is = is && want.ok && len(want.blocks) <= 30
	}
	if got := impl.Framed(m); got != is {
		t.Errorf("Framed(%v), from %d on, = %t", brief(m.Code), m.Entry, got)
	}
	return list, is
}

// checkNoFrame checks what is told of a place that is no function of a sound image.
func checkNoFrame(t *testing.T, m impl.Image, at int) {
	t.Helper()
	if got := framedOf(m, at); !sameFramed(got, noFrame) {
		t.Errorf("of %d, no function of %v, is told %v", at, brief(m.Code), got)
	}
}

// maker writes programs of functions that leave the stack as it was, and knows how high it is.
type maker struct {
	*lot
	lines  []string
	tables []string
	funs   int
	high   int
	labels int
}

func (m *maker) line(parts ...string) {
	m.lines = append(m.lines, strings.Join(parts, " "))
}

func (m *maker) label() string {
	m.labels++
	return "@x" + strconv.Itoa(m.labels)
}

func (m *maker) register() string {
	return "r" + strconv.Itoa(m.next(4))
}

// jump writes a jump with a condition, or now and then another one.
func (m *maker) jump(label string) {
	m.line("if", condNames[m.next(6)], "far", label)
}

// plain writes an instruction that changes neither the stack nor the way.
func (m *maker) plain() {
	for {
		i := m.ins(4)
		if between(i.Op, impl.OpOut, impl.OpCmpN) || i.Op == impl.OpNop || between(i.Op, impl.OpLoad, impl.OpStoreB) && m.next(8) == 0 {
			m.line(impl.InsText(i))
			return
		}
	}
}

// held writes instructions that put words on the stack, and behind others such that take as many.
func (m *maker) held(deep int) {
	count := m.oneOf(0, 1, 1, 1, 2, 3, 40-m.high)
	m.high += count
	if count == 1 {
		m.line("push", m.register())
		m.statements(deep)
		m.line("pop", m.register())
	} else {
		m.line("grow", strconv.Itoa(count))
		m.statements(deep)
		m.line("drop", strconv.Itoa(count))
	}
	m.high -= count
}

func (m *maker) choice(deep int) {
	other, end := m.label(), m.label()
	m.jump(other)
	m.statements(deep)
	m.line("jump far", end)
	m.line(other + ":")
	m.statements(deep)
	m.line(end + ":")
}

func (m *maker) loop(deep int) {
	begin, end := m.label(), m.label()
	m.line(begin + ":")
	m.jump(end)
	m.statements(deep)
	if m.next(3) == 0 {
		m.jump(begin)
	} else {
		m.line("jump far", begin)
	}
	m.line(end + ":")
}

// table writes a table and what stands at its places; one leads back or behind all.
func (m *maker) table(deep int) {
	begin, middle, end, table := m.label(), m.label(), m.label(), m.label()
	count := 1 + m.next(8)
	m.line(begin + ":")
	m.line("table", m.register(), strconv.Itoa(count), table)
	m.statements(deep)
	m.line(middle + ":")
	m.statements(deep)
	m.line(end + ":")
	m.tables = append(m.tables, table+":")
	for range count {
		m.tables = append(m.tables, "word "+[]string{begin, middle, middle, end, end}[m.next(5)])
	}
}

// leave writes a way out of the function.
func (m *maker) leave() {
	end := m.label()
	m.jump(end)
	if m.next(3) == 0 {
		m.line("halt")
	} else {
		m.line("drop", strconv.Itoa(m.high))
		m.line("ret")
	}
	m.line(end + ":")
}

func (m *maker) statements(deep int) {
	for range m.oneOf(0, 1, 1, 2, 3) {
		kind := m.next(10)
		switch {
		case kind < 2 && m.high > 0:
			m.line([]string{"local", "keep"}[kind], m.register(), strconv.Itoa(m.oneOf(0, m.high-1, m.next(m.high))))
		case kind == 2:
			m.line("call @f" + strconv.Itoa(m.next(m.funs)))
		case deep == 0 || kind > 7:
			m.plain()
		case kind == 3:
			m.choice(deep - 1)
		case kind == 4:
			m.loop(deep - 1)
		case kind == 5:
			m.table(deep - 1)
		case kind == 6:
			m.leave()
		default:
			m.held(deep - 1)
		}
	}
}

// program draws the text of a program; some have more functions, or larger ones, than may be.
func (l *lot) program() string {
	m := &maker{lot: l, funs: l.oneOf(1, 1, 2, 3, 4, 5, 12)}
	for k := range m.funs {
		m.line("@f" + strconv.Itoa(k) + ":")
		m.statements(l.oneOf(1, 2, 3, 3))
		if k == 0 {
			// So that the others are reached.
			for other := 1; other < m.funs; other++ {
				m.line("call @f" + strconv.Itoa(other))
			}
		}
		m.line([]string{"ret", "ret", "halt"}[l.next(3)])
	}
	return strings.Join(append(m.lines, m.tables...), "; ")
}

// grownImages has images of functions that leave the stack as it was: most of them are framed.
func grownImages() []impl.Image {
	l := &lot{state: 41}
	var list []impl.Image
	for len(list) < 1200 {
		m := imageOf(l.program())
		m.Room = l.oneOf(0, 6, 64)
		m.Data = m.Data[:min(len(m.Data), m.Room)]
		if len(m.Code) <= 400 {
			list = append(list, m)
		}
	}
	return list
}

// spoiltCodes has images in which a byte of such images was changed: some are framed, some are sound, some are neither.
func spoiltCodes() []impl.Image {
	l := &lot{state: 42}
	var list []impl.Image
	for _, m := range grownImages() {
		if len(m.Code) <= 120 {
			m = copied(m)
			at := l.next(len(m.Code))
			m.Code[at] = l.oneOf(0, 1, 2, 16, 20, m.Code[at]^1, m.Code[at]^2, m.Code[at]+1, l.next(256)) & 255
			list = append(list, m)
		}
	}
	return list
}

// builtImages has the images of the functions that were written out by hand.
func builtImages() []impl.Image {
	var list []impl.Image
	for _, b := range someBuilt() {
		list = append(list, b.image())
	}
	return list
}

// frameableImages has images of all kinds.
func frameableImages() []impl.Image {
	return slices.Concat(builtImages(), grownImages(), spoiltCodes(), calledImages())
}

// framedImages has those of them that are framed.
func framedImages(t *testing.T) []impl.Image {
	t.Helper()
	var list []impl.Image
	for _, m := range frameableImages() {
		if impl.Framed(m) {
			list = append(list, m)
		}
	}
	if len(list) < 1500 {
		t.Errorf("just %d images are framed", len(list))
	}
	return list
}

func TestNumbersOfBlocks(t *testing.T) {
	if impl.MaxFrame != 40 {
		t.Errorf("MaxFrame is %d", impl.MaxFrame)
	}
}

func TestBuiltFunctionsAreTold(t *testing.T) {
	for _, b := range someBuilt() {
		if got := framedOf(b.image(), b.at); !sameFramed(got, b.want()) {
			t.Errorf("of %q, from %d on, at %d is told %v, not %v", b.program, b.entry, b.at, got, b.want())
		}
		checkFramed(t, b.image())
	}
}

func TestFramesOfImagesOfAllKinds(t *testing.T) {
	counts := map[string]int{}
	for _, m := range frameableImages() {
		list, is := checkFramed(t, m)
		counts["images"]++
		if is {
			counts["framed"]++
		} else if impl.Sound(m) {
			counts["sound alone"]++
		} else {
			counts["not sound"]++
		}
		for _, f := range list {
			counts["functions"]++
			counts["with several blocks"] += min(len(f.blocks)/4, 1)
			counts["with a stack"] += min(max(f.frame, 0), 1)
			counts["with a high stack"] += max(f.frame, 0) / 30
			if !f.ok && len(f.blocks) > 0 {
				counts["without heights"]++
			}
		}
	}
	for _, what := range []string{"images", "framed", "sound alone", "not sound", "functions", "with several blocks", "with a stack", "with a high stack", "without heights"} {
		if counts[what] < 300 {
			t.Errorf("just %d of %s", counts[what], what)
		}
	}
}

func TestAllFirstBytesOfFrames(t *testing.T) {
	for first := range 256 {
		for _, second := range []int{0, 1, 2, 4, 7, 17, 128, 254, 255} {
			checkFramed(t, impl.Image{Code: []int{96, 4, 0, 0, first, second, 2, 0, 1, 0, 4, 0}})
			checkFramed(t, impl.Image{Code: []int{16, 82, 3, first, second, 1, 20, 1, 0}})
			checkFramed(t, impl.Image{Code: []int{128, 2, first, second, 1, 0, 2, 1, 0}})
		}
	}
}

// Names, memory and what this begins with do not matter.
func TestFramesHangOnCodeAndEntryAlone(t *testing.T) {
	for _, b := range someBuilt() {
		m := impl.Image{Code: b.image().Code, Entry: b.entry, Room: 64, Data: sameBytes(16, 64), Names: namesAt(0)}
		if got := framedOf(m, b.at); !sameFramed(got, b.want()) || impl.Framed(m) != impl.Framed(b.image()) {
			t.Errorf("of %q, with a name, is told %v, not %v", b.program, got, b.want())
		}
	}
}

// Promise 19: a run of a framed image comes to no place that is not reached.

func TestPromise19RunsStayInWhatIsReached(t *testing.T) {
	l := &lot{state: 19}
	checked := 0
	for _, m := range framedImages(t) {
		follow := impl.FollowOf(m)
		for _, in := range [][]int{nil, l.words(), l.words()} {
			list := impl.RunPlaces(m, in, l.oneOf(30, 300, 4000))
			checked += len(list)
			for _, at := range list {
				if !slices.Contains(follow, at) {
					t.Errorf("a run of %v, asking for %v, comes to %d, but reached is %v", brief(m.Code), in, at, brief(follow))
				}
			}
		}
	}
	if checked < 20000 {
		t.Errorf("just %d places", checked)
	}
}

// Each of these comes to a place that is not reached, and is not framed: by what is on the stack at a return.
func TestPromise19OtherImagesLeaveWhatIsReached(t *testing.T) {
	for program, last := range map[string]int{
		"set r0 6; push r0; ret; byte 255; out r0; ret":                              7,
		"call @f; halt; @f:; set r0 11; keep r0 0; ret; halt":                        11,
		"call @f; halt; @f:; drop 1; set r0 11; push r0; ret; ret":                   11,
		"call @f; halt; @f:; pop r1; set r0 10; push r0; ret; ret":                   10,
		"call @f; halt; @f:; push r0; set r0 13; keep r0 1; pop r0; ret; halt":       13,
		"call @f; halt; @f:; set r0 12; if equal @a; pop r1; @a:; push r0; ret; ret": 12,
	} {
		m := imageOf(program)
		list := impl.RunPlaces(m, nil, 100)
		if list[len(list)-1] != last || slices.Contains(impl.FollowOf(m), last) || impl.Framed(m) {
			t.Errorf("%q comes to %v, reached is %v, and it is framed: %t", program, list, impl.FollowOf(m), impl.Framed(m))
		}
	}
}

// Promise 24: a run of a framed image never goes wrong.

func TestPromise24NeverWrong(t *testing.T) {
	l := &lot{state: 24}
	ends := map[int]int{}
	for _, m := range framedImages(t) {
		for _, in := range [][]int{nil, {1}, {65535, 2, 3}, l.words(), l.words(), l.words()} {
			r := impl.RunImage(m, in, 4000)
			ends[r.End]++
			if r.End == impl.EndWrong || r.End == impl.EndBad {
				t.Errorf("a run of %v, asking for %v, ends with %d", brief(m.Code), in, r.End)
			}
		}
	}
	if ends[impl.EndHalt] < 1000 || ends[impl.EndTrap] < 300 || ends[impl.EndCut] < 300 {
		t.Errorf("the runs end with %v", ends)
	}
}

// Each of these goes wrong, with some words, and is not framed.
func TestPromise24WhatGoesWrong(t *testing.T) {
	for _, program := range []string{
		"pop r0; halt", "drop 1; halt", "local r0 0; halt", "keep r0 0; halt", "nop", "jump far 1999", "table r0 1 1999; halt",
		"in r0; table r0 1 @t; halt; @t:; word 1999", "in r0; cmpn r0 0; if other @a; nop; push r0; @a:; pop r0; halt",
		"in r0; @l:; push r1; addn r0 -1; if other @l; drop 3; halt", "in r0; cmpn r0 5; if equal far 1999; halt",
		"push r0; set r0 1999; keep r0 0; ret", "call @f; halt; @f:; pop r0; pop r1; ret",
	} {
		m := imageOf(program)
		wrong := false
		for n := range 10 {
			wrong = wrong || impl.RunImage(m, []int{n}, 4000).End == impl.EndWrong
		}
		if !wrong || impl.Framed(m) {
			t.Errorf("%q goes wrong: %t, and is framed: %t", program, wrong, impl.Framed(m))
		}
	}
}

// level is a call that a run is in: what is told of its function, how high the stack is below it, and where the run is in it.
type level struct {
	framed
	body  []int
	base  int
	block int
	last  int
}

// enters returns the level of a function that was called, at its first instruction.
func enters(m impl.Image, at int, base int) *level {
	return &level{framed: framedOf(m, at), body: impl.BodyOf(m, at), base: base, last: -1}
}

// goesTo reports whether an instruction may come next: in the same block, or at the beginning of one that may follow; the stack must be as high as is told.
func (l *level) goesTo(at int, high int) bool {
	k := slices.Index(l.body, at)
	if k < 0 || l.heights[k] != high-l.base {
		return false
	}
	ends := l.last == l.blocks[l.block].Last
	if l.last < 0 {
		ends = at != l.blocks[0].From
	}
	begins := slices.IndexFunc(l.blocks, func(b impl.Block) bool { return b.From == at })
	if ends != (begins >= 0 && l.last >= 0) || ends && !slices.Contains(l.blocks[l.block].Next, begins) {
		return false
	}
	if ends {
		l.block = begins
	}
	l.last = at
	return true
}

// checkBlocksOfRun runs a framed image and follows it along blocks and heights; it returns how many steps were followed.
func checkBlocksOfRun(t *testing.T, m impl.Image, in []int, fuel int) int {
	t.Helper()
	w := model{code: m.Code, in: in, at: m.Entry, equal: true, mem: make([]uint8, m.Room)}
	levels := []*level{enters(m, m.Entry, 0)}
	for steps := range fuel {
		i, ok := w.read()
		top := levels[len(levels)-1]
		if !ok || !top.goesTo(w.at, len(w.stack)) {
			t.Errorf("a run of %v, asking for %v, comes to %d with %d words on the stack behind %d: %v", brief(m.Code), in, w.at, len(w.stack), top.last, *top)
			return steps
		}
		w.at += wantLong(i)
		if w.step(i) != goesOn {
			return steps
		}
		switch i.Op {
		case impl.OpCall:
			levels = append(levels, enters(m, i.N, len(w.stack)))
		case impl.OpRet:
			levels = levels[:len(levels)-1]
		}
	}
	return fuel
}

// Promise 39: a function begins with its first block, and all that may follow are blocks.

func TestPromise39Values(t *testing.T) {
	for _, b := range someBuilt() {
		if list := impl.BlocksOf(b.image(), b.at); !sameBlocks(list, b.want().blocks) {
			t.Errorf("BlocksOf %q, from %d on, at %d = %v, not %v", b.program, b.entry, b.at, list, b.want().blocks)
		}
	}
}

// checkBlocks checks that blocks begin with that of the function, go on to blocks, ascend, and have each instruction once.
func checkBlocks(t *testing.T, m impl.Image, at int) {
	t.Helper()
	list := impl.BlocksOf(m, at)
	if len(list) == 0 || list[0].From != at {
		t.Errorf("BlocksOf(%v, %d) = %v", brief(m.Code), at, list)
		return
	}
	var all []int
	for k, b := range list {
		place := b.From
		for place != b.Last && place < len(m.Code) {
			i, _ := impl.InsAt(m.Code, place)
			all = append(all, place)
			place += impl.InsLong(i)
		}
		all = append(all, place)
		numbers := slices.ContainsFunc(b.Next, func(next int) bool { return !between(next, 0, len(list)-1) })
		if numbers || place != b.Last || k > 1 && list[k-1].From >= b.From {
			t.Errorf("BlocksOf(%v, %d) = %v", brief(m.Code), at, list)
		}
	}
	slices.Sort(all)
	if !slices.Equal(all, impl.BodyOf(m, at)) {
		t.Errorf("the blocks of %v at %d have %v, not %v", brief(m.Code), at, all, impl.BodyOf(m, at))
	}
}

func TestPromise39AllThatMayFollowAreBlocks(t *testing.T) {
	functions := 0
	for _, m := range frameableImages() {
		if !impl.Sound(m) {
			continue
		}
		for _, at := range impl.FunsOf(m) {
			functions++
			checkBlocks(t, m, at)
		}
	}
	if functions < 5000 {
		t.Errorf("just %d functions", functions)
	}
}

// nextCount tells how many blocks may follow one that ends with an instruction; -1 for those with which none ends.
func nextCount(i impl.Ins) int {
	switch i.Op {
	case impl.OpHalt, impl.OpRet:
		return 0
	case impl.OpIf:
		return 2
	case impl.OpTable:
		return i.B + 1
	}
	return 1
}

func TestPromise39AsManyMayFollow(t *testing.T) {
	counts := map[int]int{}
	for _, m := range frameableImages() {
		for _, at := range impl.FunsOf(m) {
			for _, b := range impl.BlocksOf(m, at) {
				i, _ := impl.InsAt(m.Code, b.Last)
				counts[len(b.Next)]++
				if len(b.Next) != nextCount(i) {
					t.Errorf("in %v %d blocks may follow %v", brief(m.Code), len(b.Next), b)
				}
			}
		}
	}
	for count := 0; count <= 9; count++ {
		if counts[count] < 30 {
			t.Errorf("just %d blocks that %d may follow", counts[count], count)
		}
	}
}

func TestPromise39RunsGoAlongBlocks(t *testing.T) {
	l := &lot{state: 39}
	steps := 0
	for _, m := range framedImages(t) {
		steps += checkBlocksOfRun(t, m, l.words(), 200)
	}
	if steps < 20000 {
		t.Errorf("just %d steps", steps)
	}
}

// rowOfJumps is the beginning of a function: so many lines of a kind, each of which leads to what follows it.
func rowOfJumps(kind string, count int) string {
	var text strings.Builder
	for k := range count {
		label := "@" + string(kind[0]) + strconv.Itoa(k)
		text.WriteString(kind + " " + label + "; " + label + ":; ")
	}
	return text.String()
}

func TestPromise39TheMostBlocks(t *testing.T) {
	var code []int
	for range 999 {
		code = append(code, 81, 0)
	}
	m := impl.Image{Code: append(code, 2, 1)}
	list := impl.BlocksOf(m, 0)
	if len(list) != 1000 {
		t.Fatalf("%d blocks are told", len(list))
	}
	for k, b := range list[:999] {
		if !sameBlock(b, impl.Block{From: 2 * k, Last: 2 * k, Next: []int{k + 1, k + 1}}) {
			t.Errorf("block %d is %v", k, b)
		}
	}
	if !sameBlock(list[999], impl.Block{From: 1998, Last: 1999}) {
		t.Errorf("the last block is %v", list[999])
	}
	// From the last place on, each one ahead of the one that leads to it.
	m = impl.Image{Code: chainOf(666), Entry: 1996}
	list = impl.BlocksOf(m, 1996)
	if len(list) != 667 || !sameBlock(list[0], impl.Block{From: 1996, Last: 1996, Next: []int{666}}) || !sameBlock(list[1], impl.Block{}) {
		t.Errorf("%d blocks are told, %v", len(list), list[:min(len(list), 3)])
	}
	checkBlocks(t, m, 1996)
	nops := impl.Image{Code: append(sameBytes(2, 1999), 0)}
	if list := impl.BlocksOf(nops, 0); len(list) != 1 || !sameBlock(list[0], impl.Block{Last: 1999}) {
		t.Errorf("%d blocks are told", len(list))
	}
}

// Promise 40: a function begins with nothing on the stack, and there is a height for each instruction of its body.

func TestPromise40Values(t *testing.T) {
	for _, b := range someBuilt() {
		want := b.want()
		if list, ok := impl.HeightsOf(b.image(), b.at); ok != want.ok || !slices.Equal(list, want.heights) {
			t.Errorf("HeightsOf %q, from %d on, at %d = %v, %t, not %v", b.program, b.entry, b.at, list, ok, want.heights)
		}
	}
}

func TestPromise40AHeightForEachInstruction(t *testing.T) {
	some, none := 0, 0
	for _, m := range frameableImages() {
		for _, at := range impl.FunsOf(m) {
			list, ok := impl.HeightsOf(m, at)
			if !ok {
				none++
				if len(list) != 0 {
					t.Errorf("HeightsOf(%v, %d) = %v, false", brief(m.Code), at, list)
				}
				continue
			}
			some++
			body := impl.BodyOf(m, at)
			if len(list) != len(body) || list[slices.Index(body, at)] != 0 {
				t.Errorf("HeightsOf(%v, %d) = %v, but the body is %v", brief(m.Code), at, list, body)
			}
		}
	}
	if some < 3000 || none < 1000 {
		t.Errorf("%d functions have heights, %d have none", some, none)
	}
}

// All that takes words of the stack, or puts them there, with all stacks.
func TestPromise40AtTheEndsOfTheStack(t *testing.T) {
	numbers := []int{0, 1, 2, 3, 19, 20, 21, 38, 39, 40, 41, 42, 199, 200, 254, 255}
	for high := 0; high <= 42; high++ {
		for _, kind := range []string{"push r1", "pop r1", "ret", "halt", "nop", "local r1", "keep r1", "grow", "drop"} {
			for _, n := range numbers {
				line := kind
				if slices.Contains([]string{"local r1", "keep r1", "grow", "drop"}, kind) {
					line += " " + strconv.Itoa(n)
				} else if n > 0 {
					continue
				}
				checkStackOf(t, high, line)
			}
		}
	}
}

// checkStackOf checks what is told of an instruction with some words on the stack.
func checkStackOf(t *testing.T, high int, line string) {
	t.Helper()
	m := imageOf("grow " + strconv.Itoa(high) + "; " + line + "; halt")
	i := insOf(line)
	behind, ok := wantBehind(i, high)
	want := framed{ok: ok && high <= 40, frame: -1}
	if want.ok {
		want.heights, want.frame = []int{0, high, behind}, max(high, behind)
	}
	last := 2
	if i.Op == impl.OpHalt || i.Op == impl.OpRet {
		want.heights = want.heights[:min(len(want.heights), 2)]
	} else {
		last = 2 + wantLong(i)
	}
	want.blocks = []impl.Block{{From: 0, Last: last}}
	if got := framedOf(m, 0); !sameFramed(got, want) || impl.Framed(m) != want.ok {
		t.Errorf("of %q with %d words is told %v, not %v", line, high, got, want)
	}
}

func TestPromise40TheLongestWays(t *testing.T) {
	// Words are pushed and popped again and again.
	var code, want []int
	for range 24 {
		code = append(code, slices.Concat(sameBytes(17, 40), sameBytes(22, 40))...)
		for k := range 40 {
			want = append(want, k)
		}
		for k := range 40 {
			want = append(want, 40-k)
		}
	}
	m := impl.Image{Code: append(code, 1)}
	if list, ok := impl.HeightsOf(m, 0); !ok || !slices.Equal(list, append(want, 0)) || impl.FrameOf(m, 0) != 40 {
		t.Errorf("HeightsOf = %v, %t", brief(list), ok)
	}
	// With one more at the end, and with one more at the beginning.
	if _, ok := impl.HeightsOf(impl.Image{Code: append(slices.Clone(code), 16, 1)}, 0); ok {
		t.Error("a return with a word has a height")
	}
	if _, ok := impl.HeightsOf(impl.Image{Code: slices.Concat([]int{16}, code, []int{20, 1})}, 0); ok {
		t.Error("41 words have a height")
	}
	list, ok := impl.HeightsOf(impl.Image{Code: chainOf(666), Entry: 1996}, 1996)
	if !ok || !slices.Equal(list, zeros(667)) {
		t.Errorf("HeightsOf = %v, %t", brief(list), ok)
	}
}

// Promise 41: all functions of a framed image have heights.

func TestPromise41AllHaveHeights(t *testing.T) {
	for _, m := range frameableImages() {
		if !impl.Framed(m) {
			continue
		}
		list := impl.FunsOf(m)
		if !impl.Sound(m) || len(list) > 10 {
			t.Errorf("%v is framed", brief(m.Code))
		}
		for _, at := range list {
			if _, ok := impl.HeightsOf(m, at); !ok || len(impl.BlocksOf(m, at)) > 30 || impl.FrameOf(m, at) < 0 {
				t.Errorf("%v is framed, but the function at %d is not", brief(m.Code), at)
			}
		}
	}
}

// Images of which all is so, and others of which just one function is not.
func TestPromise41Values(t *testing.T) {
	for program, want := range map[string]bool{
		"ret": true, "halt": true, "push r0; halt": true, "push r0; ret": false, "pop r0; halt": false, "nop": false, "byte 255": false,
		"call @f; halt; @f:; ret":                                                      true,
		"call @f; halt; @f:; push r0; ret":                                             false,
		"push r0; call @f; ret; @f:; ret":                                              false,
		"push r0; call @f; halt; @f:; ret":                                             true,
		"push r0; call @f; halt; @f:; pop r0; ret":                                     false,
		"call @f; call @g; halt; @f:; ret; @g:; pop r0; ret":                           false,
		"call @f; call @g; halt; @f:; pop r0; ret; @g:; ret":                           false,
		"call @f; halt; @f:; call @g; ret; @g:; grow 40; call @f; halt":                true,
		"call @f; halt; @f:; call @g; ret; @g:; grow 41; call @f; halt":                false,
		"push r0; @f:; nop; call @f; halt":                                             true,
		"push r0; @f:; nop; call @f; drop 1; ret":                                      false,
		"call @f; halt; @f:; byte 255":                                                 false,
		"call 5; halt; ret":                                                            false,
		"in r0; table r0 1 @t; halt; @t:; word 5":                                      true,
		"in r0; table r0 1 @t; halt; @t:; byte 5":                                      false,
		"halt; pop r0; ret":                                                            true,
		"halt; call @f; @f:; pop r0; ret":                                              true,
		"jump @a; byte 255; @a:; ret":                                                  true,
		"set r0 24; jump 1":                                                            true,
		"call @f; call @g; halt; @f:; nop; @g:; ret":                                   true,
		"call @f; call @g; halt; @f:; push r0; jump @x; @g:; grow 1; @x:; pop r1; ret": true,
	} {
		if is := impl.Framed(imageOf(program)); is != want {
			t.Errorf("Framed of %q = %t", program, is)
		}
	}
}

func TestPromise41TheMostFunctions(t *testing.T) {
	for count := 1; count <= 20; count++ {
		for last, itself := range map[string]bool{"ret": false, "call 0; ret": true} {
			m := rowOf(count, last)
			if is := impl.Framed(m); is != (count <= 10) || len(impl.FunsOf(m)) != count {
				t.Errorf("Framed of %d functions, that call themselves: %t, = %t", count, itself, is)
			}
			// Each of them has its heights whether there are too many or not.
			for _, at := range impl.FunsOf(m) {
				if _, ok := impl.HeightsOf(m, at); !ok || impl.FrameOf(m, at) != 0 || len(impl.BlocksOf(m, at)) != 1 {
					t.Errorf("of %d, one of %d functions, nothing is told", at, count)
				}
			}
		}
	}
	// The Entry counts, too, called or not, and what is not reached does not.
	calls := strings.Repeat("call 0; ", 3)
	for count := 8; count <= 11; count++ {
		var lines []string
		for k := range count {
			lines = append(lines, "call @f"+strconv.Itoa(k))
		}
		lines = append(lines, calls+"halt")
		for k := range count {
			lines = append(lines, "@f"+strconv.Itoa(k)+":", "ret")
		}
		m := imageOf(strings.Join(append(lines, "call 1"), "; "))
		if is := impl.Framed(m); is != (count < 10) || len(impl.FunsOf(m)) != count+1 {
			t.Errorf("Framed of %d functions that are called = %t", count, is)
		}
	}
}

func TestPromise41TheMostBlocks(t *testing.T) {
	for count := 1; count <= 40; count++ {
		for _, kind := range []string{"if less", "jump", "jump far"} {
			for _, ahead := range []string{"", "nop; ", "call @f; halt; @f:; nop; "} {
				m := imageOf(ahead + rowOfJumps(kind, count-1) + "nop; ret; " + strings.Repeat("if high far 0; ", 40))
				funs := impl.FunsOf(m)
				at := funs[len(funs)-1]
				if is := impl.Framed(m); is != (count <= 30) || len(impl.BlocksOf(m, at)) != count {
					t.Errorf("Framed of %d blocks behind %q = %t", len(impl.BlocksOf(m, at)), ahead, is)
				}
				if list, ok := impl.HeightsOf(m, at); !ok || len(list) < count || impl.FrameOf(m, at) != 0 {
					t.Errorf("%d blocks behind %q have no heights", count, ahead)
				}
			}
		}
	}
	// Each function may have as many.
	for first := 28; first <= 32; first++ {
		for second := 28; second <= 32; second++ {
			m := imageOf(rowOfJumps("if less", first-1) + "call @f; halt; @f:; " + rowOfJumps("jump", second-1) + "ret")
			if is := impl.Framed(m); is != (first <= 30 && second <= 30) {
				t.Errorf("Framed of %d and %d blocks = %t", first, second, is)
			}
		}
	}
}

// Promise 42: no height is more than the most.

func TestPromise42Values(t *testing.T) {
	for _, b := range someBuilt() {
		if most := impl.FrameOf(b.image(), b.at); most != b.frame {
			t.Errorf("FrameOf %q, from %d on, at %d = %d, not %d", b.program, b.entry, b.at, most, b.frame)
		}
	}
}

func TestPromise42NoHeightIsMore(t *testing.T) {
	counts := map[int]int{}
	for _, m := range frameableImages() {
		for _, at := range impl.FunsOf(m) {
			list, ok := impl.HeightsOf(m, at)
			most := impl.FrameOf(m, at)
			counts[most]++
			if !ok {
				if most != -1 {
					t.Errorf("FrameOf(%v, %d) = %d", brief(m.Code), at, most)
				}
				continue
			}
			// It is one of them, because what puts words on the stack is always followed.
			if !between(most, 0, 40) || slices.Max(list) != most || slices.Min(list) < 0 {
				t.Errorf("FrameOf(%v, %d) = %d, but the heights are %v", brief(m.Code), at, most, list)
			}
		}
	}
	for _, most := range []int{-1, 0, 1, 2, 3, 40} {
		if counts[most] < 100 {
			t.Errorf("just %d functions have %d words at most", counts[most], most)
		}
	}
}

func TestPromise42AllHeights(t *testing.T) {
	for most := 0; most <= 45; most++ {
		want := most
		if most > 40 {
			want = -1
		}
		number := strconv.Itoa(most)
		for _, program := range []string{
			"grow " + number + "; halt",
			"grow " + number + "; drop " + number + "; ret",
			strings.Repeat("push r0; ", most) + "halt",
			strings.Repeat("push r0; ", most) + strings.Repeat("pop r0; ", most) + "ret",
			"if less @a; ret; @a:; " + strings.Repeat("grow 1; ", most) + "drop " + number + "; ret",
			"@l:; grow " + number + "; drop " + number + "; if less @l; ret",
		} {
			if got := impl.FrameOf(imageOf(program), 0); got != want {
				t.Errorf("FrameOf %q = %d", program, got)
			}
		}
	}
}

// What is told of what is no image, of what is not sound, and of what is no function, is nothing.

func checkNoFrames(t *testing.T, m impl.Image, places []int) {
	t.Helper()
	if impl.Framed(m) {
		t.Errorf("%v, from %d on, is framed", brief(m.Code), m.Entry)
	}
	for _, at := range places {
		checkNoFrame(t, m, at)
	}
}

func TestNoFramesOfNoImages(t *testing.T) {
	for _, m := range badImages() {
		checkNoFrames(t, m, append([]int{0, 1, 3, 6, 7, m.Entry}, noPlaces...))
	}
	// The code alone would be framed, with two functions.
	base := imageOf("call 3; call 0; halt")
	if !impl.Framed(base) || len(impl.BlocksOf(base, 3)) != 1 {
		t.Error("the image is not framed")
	}
	for _, m := range spoiltImages(base) {
		checkNoFrames(t, m, append([]int{0, 1, 3, 6, 7, m.Entry}, noPlaces...))
	}
}

// Each of these has functions that are whole, but leads elsewhere to where no instruction stands.
func TestNoFramesOfWhatIsNotSound(t *testing.T) {
	for _, program := range []string{
		"byte 255", "nop", "push r0; pop r0", "jump far 1999", "jump 2", "if less far 1999; halt", "call 1999; halt", "call 4; halt",
		"call @f; halt; @f:; byte 255", "call @f; call @g; halt; @f:; ret; @g:; nop", "call @f; call @g; halt; @f:; nop; jump 3; @g:; jump far 1999",
		"call @f; jump far 1999; @f:; ret", "table r0 1 1999; halt", "table r0 2 @t; halt; @t:; word 4; byte 4", "table r0 1 @t; halt; @t:; word 7",
		"call @f; halt; @f:; table r0 1 1999; ret", "halt; byte 1; call 0",
	} {
		m := imageOf(program)
		if program == "halt; byte 1; call 0" {
			m.Entry = 2
		}
		if impl.Sound(m) {
			t.Errorf("%q is sound", program)
		}
		checkNoFrames(t, m, slices.Concat(upTo(len(m.Code)+2), noPlaces))
	}
	for _, m := range spoiltCodes() {
		if !impl.Sound(m) {
			checkNoFrames(t, m, upTo(len(m.Code)+1))
		}
	}
}

func TestNoFramesOfNoFunctions(t *testing.T) {
	for _, b := range someBuilt() {
		m := b.image()
		funs := impl.FunsOf(m)
		for _, at := range slices.Concat(upTo(len(m.Code)+2), noPlaces, []int{math.MaxInt - 1, 65535, -3}) {
			if !slices.Contains(funs, at) {
				checkNoFrame(t, m, at)
			}
		}
	}
	// Places of the code: within the function, within an instruction, not reached, and called by what is not reached.
	for program, list := range map[string][]int{
		"nop; push r0; pop r0; ret": {1, 2, 3, -1, 4, 5}, "set r0 24; halt": {1, 2, 3, 4}, "halt; ret; call 1": {1, 2, 3, 5},
		"if less @a; ret; @a:; halt": {2, 3, 4}, "call @f; halt; @f:; nop; ret": {1, 2, 3, 5, 6}, "jump @a; call @f; @f:; @a:; halt": {2, 5, 6},
	} {
		m := imageOf(program)
		if !impl.Sound(m) || len(impl.BlocksOf(m, 0)) == 0 {
			t.Errorf("%q is not sound", program)
		}
		for _, at := range list {
			checkNoFrame(t, m, at)
		}
	}
}

// What is returned is new, and what is told stays.

// spoilBlocks writes over blocks and what may follow them, also behind their ends.
func spoilBlocks(list []impl.Block) {
	for k := range list[:cap(list)] {
		spoil(list[:cap(list)][k].Next)
		list[:cap(list)][k] = impl.Block{From: 77777, Last: 77777}
	}
}

func TestWhatIsToldOfFramesSharesNothing(t *testing.T) {
	for _, b := range someBuilt() {
		kept, want := b.image(), b.want()
		m := copied(kept)
		first, second := framedOf(m, b.at), framedOf(m, b.at)
		spoil(first.heights)
		if !sameBlocks(first.blocks, want.blocks) {
			t.Errorf("the heights of %q share memory with its blocks", b.program)
		}
		spoilBlocks(first.blocks)
		if !alike(m, kept) || !sameFramed(second, want) {
			t.Errorf("what is told of %q shares memory", b.program)
		}
		if third := framedOf(m, b.at); !sameFramed(third, want) {
			t.Errorf("of %q is told %v after earlier results were changed", b.program, third)
		}
		spoil(m.Code)
		if !sameFramed(second, want) {
			t.Errorf("what is told of %q shares memory with it", b.program)
		}
	}
}

// Each Next is written over while the others are kept.
func TestBlocksShareNothing(t *testing.T) {
	for _, b := range someBuilt() {
		m, want := b.image(), b.want().blocks
		for k := range want {
			list := impl.BlocksOf(m, b.at)
			spoil(list[k].Next)
			for l := range want {
				if l != k && !sameBlock(list[l], want[l]) {
					t.Errorf("block %d of %q shares memory with block %d", l, b.program, k)
				}
			}
		}
	}
}

func TestFramesChangeNothing(t *testing.T) {
	for k, m := range slices.Concat(builtImages(), goodImages(), grownImages()[:100], badImages()) {
		g := guarded(m)
		for _, at := range append([]int{-1, 0, 1, 3, 4, len(m.Code), m.Entry}, impl.FunsOf(g)...) {
			first, is := framedOf(g, at), impl.Framed(g)
			if second := framedOf(g, at); !sameFramed(first, second) || is != impl.Framed(g) {
				t.Errorf("image %d is told in different ways", k)
			}
		}
		if !alike(g, m) || !isGuarded(g) {
			t.Errorf("image %d was changed", k)
		}
	}
}
