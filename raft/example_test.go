package raft_test

import "testing"

// The chapter's examples: 16.3 to 16.9, 16.13.
func TestExamples(t *testing.T) {
	b := from(t, "0.0")
	for range 9 {
		b.plays([2]string{"tick", "F0 0.0 c0 n1"})
	}
	b.plays([][2]string{
		{"tick 5", "P0 0.0 c0 n1 > 2:pre t1 > 3:pre t1"},
		{"2 prereply t1", "C0 1.1 c0 w1[] > 2:vote t1 > 3:vote t1"},
		{"3 votereply t1", "L1 1.1 c0 w1[1.1] > 2:app t1 [1.1] > 3:app t1 [1.1]"},
		{"propose x y", "L1 1.1 c0 w2[2.1=x 3.1=y] p2-3 > 2:app t1 [1.1 2.1=x 3.1=y] > 3:app t1 [1.1 2.1=x 3.1=y]"},
		{"2 appreply t1 3.0", "L1 1.1 c3 n4 > 2:app t1 3.1 c3 > 3:app t1 c3 [1.1 2.1=x 3.1=y]"},
		{"compact 3", "L1 1.1 c3 n4"},
		{"tick", "L1 1.1 c3 n4"},
		{"tick", "L1 1.1 c3 n4 s3 > 2:app t1 3.1 c3 > 3:snap t1 3.1 c3"},
		{"3 vote t9 0.0", "L1 1.1 c3 n4"},
		{"2 app t1", "error 161"},
		{"3 appreply t2 1.0 no", "F0 2.0 c3 w4[]"},
		{"propose z", "error 162"},
	}...)
	b.is("2.0 s3.1 c3 []")
}

// 16.4: a node alone leads by one tick that begins, and commits what it is told at once.
func TestAlone(t *testing.T) {
	c := among(1)
	c.Least, c.Most, c.Beat = 3, 3, 1
	b := open(t, c, parseState("4.0 s2.1 c2 [3.4]"), 0)
	b.plays([][2]string{
		{"tick", "F0 4.0 c2 n4"},
		{"tick", "F0 4.0 c2 n4"},
		{"tick", "L1 5.1 c4 w4[4.5]"},
		{"propose x", "L1 5.1 c5 w5[5.5=x] p5-5"},
		{"hand 1", "error 161"},
		{"hand 2", "error 161"},
		{"gone 1", "error 161"},
		{"compact 5", "L1 5.1 c5 n6"},
		{"tick", "L1 5.1 c5 n6"},
		{"tick", "L1 5.1 c5 n6"},
		{"tick", "L1 5.1 c5 n6"},
		{"tick", "L1 5.1 c5 n6"},
	}...)
	b.is("5.1 s5.5 c5 []")
}
