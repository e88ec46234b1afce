// Package rules has no code: its tests hold the program against the rules by which it is written.
package rules
