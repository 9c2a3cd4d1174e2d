package tree

// Kinds of expressions. Those that tokens have, too, are called as theirs.
const (
	kindInt     = "int"
	kindReal    = "real"
	kindLogical = "logical"
	kindText    = "text"
	kindName    = "name"
	kindItem    = "item"
	kindTriple  = "triple"
	kindNone    = "none"
	kindOp      = "op"
	kindList    = "list"
)

// Kinds of statements.
const (
	doesAssign  = "assign"
	doesWhere   = "where"
	doesDo      = "do"
	doesLoop    = "loop"
	doesIf      = "if"
	doesCall    = "call"
	doesPrint   = "print"
	doesStop    = "stop"
	doesExit    = "exit"
	doesCycle   = "cycle"
	doesNothing = "none"
)

// Kinds of units.
const (
	kindModule     = "module"
	kindProgram    = "program"
	kindSubroutine = "subroutine"
)

// thenWord makes a block of an if.
const thenWord = "then"
