import Derived.Test.YthhkpkfpifllkaaGreatK26
namespace Go.Proofs.YthhkpkfpifllkaaGreat
open Go.RowKit
set_option linter.unusedVariables false

section
variable {P : Program} {ops : Array Oper} {Q : Exit → Act → World → Prop} {md : Region.Mode} {S : World → Prop} {E : Nat → Bool}
theorem AnyE.two {i j : Nat} {oi oj : Oper} {fuel : Nat} {listed : Array Bool} {a : Act} {w : World} (hi : ops[i]? = some oi) (hj : ops[j]? = some oj) (hr : Region.ready md ops listed = [i, j]) (hwi : Region.wanted oi (yielded ops a.tmps) = true) (hwj : Region.wanted oj (yielded ops a.tmps) = true)
    (h1 : ∀ K : Act → World → Prop, Hid (∀ a' w', ((E i = true → S w') ∧ AnyE P md ops Q S E fuel (listed.setIfInBounds i true) a' w') → K a' w') → Oper.wp P oi a w K Q)
    (h2 : ∀ K : Act → World → Prop, Hid (∀ a' w', ((E j = true → S w') ∧ AnyE P md ops Q S E fuel (listed.setIfInBounds j true) a' w') → K a' w') → Oper.wp P oj a w K Q) : AnyE P md ops Q S E (fuel + 1) listed a w :=
  ⟨fun k => (by rw [hr] at k; cases k), fun m hm => by
    rw [hr] at hm
    rcases List.mem_cons.1 hm with rfl | hm
    · exact wpOp_step hi (fun K' hK => by rw [if_pos hwi]; exact h1 K' hK)
    · obtain rfl : m = j := by simpa using hm
      exact wpOp_step hj (fun K' hK => by rw [if_pos hwj]; exact h2 K' hK)⟩
end
theorem CtBx.setFive {w : World} {b : Nat} {c : Ct} (h : CtBx w b c) (d : Ct) : ∃ Y, Y = ((((w.setCell ⟨b, 0, none⟩ (.int .i64 d.o)).setCell ⟨b, 1, none⟩ (.int .i64 d.m)).setCell ⟨b, 2, none⟩ (.int .i64 d.x)).setCell ⟨b, 3, none⟩ (.int .i64 d.a)).setCell ⟨b, 4, none⟩ (.int .i64 d.k) ∧ CtBx Y b d ∧ w.grownBy Y (some b) := by
  refine ⟨_, rfl, ?_, grownQ (grownQ (grownQ (grownQ (grown1 _ _ _ _) (grown1 _ _ _ _)) (grown1 _ _ _ _)) (grown1 _ _ _ _)) (grown1 _ _ _ _)⟩
  unfold CtBx at *
  simp [World.setCell, Array.getElem?_modify, h]
set_option maxRecDepth 100000 in
theorem wp_allocCt {a : Act} {w : World} {K : Act → World → Prop} {Q : Exit → Act → World → Prop} {d : Option Nat} {ps : String} {af : Array Edge} (h : K (a.put d (.pointer (some ⟨w.heap.size, 0, none⟩))) (w.alloc (.cells #[.int .i64 0, .int .i64 0, .int .i64 0, .int .i64 0, .int .i64 0] 105))) :
    Oper.wp Tryz.prog { dst := d, op := Op.alloc 105, type := 0, pos := ps, after := af, guard := none } a w K Q := by
  go_simp
  exact h
set_option maxRecDepth 100000 in
theorem wp_storeCt {a : Act} {w : World} {K : Act → World → Prop} {Q : Exit → Act → World → Prop} {p v b : Nat} {c d : Ct} {ps : String} {af : Array Edge} (hb : CtBx w b c) (hp : a.tmps[p]?.getD undef = .pointer (some ⟨b, 0, none⟩)) (hv : a.tmps[v]?.getD undef = .agg #[.int .i64 d.o, .int .i64 d.m, .int .i64 d.x, .int .i64 d.a, .int .i64 d.k]) (h : ∀ Y, CtBx Y b d → w.grownBy Y (some b) → K a Y) :
    Oper.wp Tryz.prog { dst := none, op := Op.store 105 (Operand.tmp p) (Operand.tmp v), type := 0, pos := ps, after := af, guard := none } a w K Q := by
  obtain ⟨Y, hY, h1, h2⟩ := hb.setFive d
  have hk := h Y h1 h2
  have c0 := hb.c0
  have c1 := hb.c1
  have c2 := hb.c2
  have c3 := hb.c3
  have c4 := hb.c4
  have fz := hb.fz
  rw [hY] at hk
  clear hY h1 h2 h hb
  go_simp
  exact hk
set_option maxRecDepth 100000 in
theorem wp_droppedA {a : Act} {w : World} {K : Act → World → Prop} {Q : Exit → Act → World → Prop} {x1 x2 x3 x4 x5 : Nat} {v1 v2 v3 v4 v5 : Value} {d : Option Nat} {ty : TypeId} {ts : Array TypeId} {ps : String} {af : Array Edge} {R : Ending → World → Prop} (h1 : a.tmps[x1]?.getD undef = v1) (h2 : a.tmps[x2]?.getD undef = v2) (h3 : a.tmps[x3]?.getD undef = v3) (h4 : a.tmps[x4]?.getD undef = v4) (h5 : a.tmps[x5]?.getD undef = v5) (hc : Calls Tryz.prog 99 #[v1, v2, v3, v4, v5] w R) (hk : ∀ r w', R r w' → ∃ u, r = .returned u ∧ K (a.put d u) w') :
    Oper.wp Tryz.prog { dst := d, op := Op.call { callee := .value (.func 99), args := #[.tmp x1, .tmp x2, .tmp x3, .tmp x4, .tmp x5], argTypes := ts }, type := ty, pos := ps, after := af, guard := none } a w K Q := by
  go_simp
  refine Calls.mono hc ?_
  intro r w' hr
  obtain ⟨u, rfl, hk⟩ := hk r w' hr
  exact hk
set_option maxRecDepth 100000 in
theorem op_fieldC0 {a : Act} {w : World} {x g : Nat} {d : Option Nat} {ps : String} {af : Array Edge} (hx : a.tmps[x]?.getD undef = .pointer (some ⟨g, 0, none⟩)) :
    (execOp a.eval { dst := d, op := Op.fieldAddr 62 (Operand.tmp x) 0, type := 0, pos := ps, after := af, guard := none }).run Tryz.prog w = .ok (.value (.pointer (some ⟨g, 0, none⟩))) w := by
  go_simp
set_option maxRecDepth 100000 in
theorem op_fieldC1 {a : Act} {w : World} {x g : Nat} {d : Option Nat} {ps : String} {af : Array Edge} (hx : a.tmps[x]?.getD undef = .pointer (some ⟨g, 0, none⟩)) :
    (execOp a.eval { dst := d, op := Op.fieldAddr 62 (Operand.tmp x) 1, type := 0, pos := ps, after := af, guard := none }).run Tryz.prog w = .ok (.value (.pointer (some ⟨g, 1, none⟩))) w := by
  go_simp
set_option maxRecDepth 100000 in
theorem op_fieldC2 {a : Act} {w : World} {x g : Nat} {d : Option Nat} {ps : String} {af : Array Edge} (hx : a.tmps[x]?.getD undef = .pointer (some ⟨g, 0, none⟩)) :
    (execOp a.eval { dst := d, op := Op.fieldAddr 62 (Operand.tmp x) 2, type := 0, pos := ps, after := af, guard := none }).run Tryz.prog w = .ok (.value (.pointer (some ⟨g, 2, none⟩))) w := by
  go_simp
set_option maxRecDepth 100000 in
theorem op_fieldC3 {a : Act} {w : World} {x g : Nat} {d : Option Nat} {ps : String} {af : Array Edge} (hx : a.tmps[x]?.getD undef = .pointer (some ⟨g, 0, none⟩)) :
    (execOp a.eval { dst := d, op := Op.fieldAddr 62 (Operand.tmp x) 3, type := 0, pos := ps, after := af, guard := none }).run Tryz.prog w = .ok (.value (.pointer (some ⟨g, 3, none⟩))) w := by
  go_simp
set_option maxRecDepth 100000 in
theorem op_loadS {a : Act} {w : World} {x g n c : Nat} {ad : Option Addr} {d : Option Nat} {ps : String} {af : Array Edge} (hx : a.tmps[x]?.getD undef = .pointer (some ⟨g, 0, none⟩)) (h : w.cell? ⟨g, 0, none⟩ = some (.slice ad n c)) :
    (execOp a.eval { dst := d, op := Op.load 27 (Operand.tmp x), type := 27, pos := ps, after := af, guard := none }).run Tryz.prog w = .ok (.value (.agg #[.slice ad n c])) w := by
  go_simp
set_option maxRecDepth 100000 in
theorem op_loadI {a : Act} {w : World} {x g j : Nat} {z : Int} {d : Option Nat} {ps : String} {af : Array Edge} (hx : a.tmps[x]?.getD undef = .pointer (some ⟨g, j, none⟩)) (h : w.cell? ⟨g, j, none⟩ = some (.int .i64 z)) :
    (execOp a.eval { dst := d, op := Op.load 3 (Operand.tmp x), type := 3, pos := ps, after := af, guard := none }).run Tryz.prog w = .ok (.value (.int .i64 z)) w := by
  go_simp
set_option maxRecDepth 100000 in
theorem op_loadB {a : Act} {w : World} {x g j : Nat} {z : Bool} {d : Option Nat} {ps : String} {af : Array Edge} (hx : a.tmps[x]?.getD undef = .pointer (some ⟨g, j, none⟩)) (h : w.cell? ⟨g, j, none⟩ = some (.bool z)) :
    (execOp a.eval { dst := d, op := Op.load 4 (Operand.tmp x), type := 4, pos := ps, after := af, guard := none }).run Tryz.prog w = .ok (.value (.bool z)) w := by
  go_simp
set_option maxRecDepth 100000 in
theorem op_fieldD {a : Act} {w : World} {x g : Nat} {d : Option Nat} {ps : String} {af : Array Edge} (hx : a.tmps[x]?.getD undef = .pointer (some ⟨g, 0, none⟩)) :
    (execOp a.eval { dst := d, op := Op.fieldAddr 155 (Operand.tmp x) 6, type := 0, pos := ps, after := af, guard := none }).run Tryz.prog w = .ok (.value (.pointer (some ⟨g, 12, none⟩))) w := by
  go_simp
set_option maxRecDepth 100000 in
theorem wp_fieldD {a : Act} {w : World} {K : Act → World → Prop} {Q : Exit → Act → World → Prop} {x g : Nat} {d : Option Nat} {ps : String} {af : Array Edge} (hx : a.tmps[x]?.getD undef = .pointer (some ⟨g, 0, none⟩)) (hk : K (a.put d (.pointer (some ⟨g, 12, none⟩))) w) :
    Oper.wp Tryz.prog { dst := d, op := Op.fieldAddr 155 (Operand.tmp x) 6, type := 0, pos := ps, after := af, guard := none } a w K Q := by
  go_simp
  exact hk
set_option maxRecDepth 100000 in
theorem op_addI {a : Act} {w : World} {x y : Nat} {z u : Int} {d : Option Nat} {ps : String} {af : Array Edge} (hx : a.tmps[x]?.getD undef = .int .i64 z) (hy : a.tmps[y]?.getD undef = .int .i64 u) (hw : IntKind.i64.wrap (z + u) = z + u) :
    (execOp a.eval { dst := d, op := Op.binOp BinOp.add 3 (Operand.tmp x) (Operand.tmp y) 3, type := 3, pos := ps, after := af, guard := none }).run Tryz.prog w = .ok (.value (.int .i64 (z + u))) w := by
  go_simp
set_option maxRecDepth 100000 in
theorem wp_storeI {a : Act} {w : World} {K : Act → World → Prop} {Q : Exit → Act → World → Prop} {p q g j : Nat} {z : Int} {y : Value} {ps : String} {af : Array Edge} (hc : w.cell? ⟨g, j, none⟩ = some y) (hf : w.frozen? ⟨g, j, none⟩ = false) (hp : a.tmps[p]?.getD undef = .pointer (some ⟨g, j, none⟩)) (hq : a.tmps[q]?.getD undef = .int .i64 z) (hk : K a (w.setCell ⟨g, j, none⟩ (.int .i64 z))) :
    Oper.wp Tryz.prog { dst := none, op := Op.store 3 (Operand.tmp p) (Operand.tmp q), type := 0, pos := ps, after := af, guard := none } a w K Q := by
  go_simp
  exact hk
set_option maxRecDepth 100000 in
theorem op_fieldK0 {a : Act} {w : World} {x g j : Nat} {d : Option Nat} {ps : String} {af : Array Edge} (hx : a.tmps[x]?.getD undef = .pointer (some ⟨g, j, none⟩)) :
    (execOp a.eval { dst := d, op := Op.fieldAddr 105 (Operand.tmp x) 0, type := 0, pos := ps, after := af, guard := none }).run Tryz.prog w = .ok (.value (.pointer (some ⟨g, j + 0, none⟩))) w := by
  go_simp
set_option maxRecDepth 100000 in
theorem wp_fieldK0 {a : Act} {w : World} {K : Act → World → Prop} {Q : Exit → Act → World → Prop} {x g j : Nat} {d : Option Nat} {ps : String} {af : Array Edge} (hx : a.tmps[x]?.getD undef = .pointer (some ⟨g, j, none⟩)) (hk : K (a.put d (.pointer (some ⟨g, j + 0, none⟩))) w) :
    Oper.wp Tryz.prog { dst := d, op := Op.fieldAddr 105 (Operand.tmp x) 0, type := 0, pos := ps, after := af, guard := none } a w K Q := by
  go_simp
  exact hk
set_option maxRecDepth 100000 in
theorem op_fieldK1 {a : Act} {w : World} {x g j : Nat} {d : Option Nat} {ps : String} {af : Array Edge} (hx : a.tmps[x]?.getD undef = .pointer (some ⟨g, j, none⟩)) :
    (execOp a.eval { dst := d, op := Op.fieldAddr 105 (Operand.tmp x) 1, type := 0, pos := ps, after := af, guard := none }).run Tryz.prog w = .ok (.value (.pointer (some ⟨g, j + 1, none⟩))) w := by
  go_simp
set_option maxRecDepth 100000 in
theorem wp_fieldK1 {a : Act} {w : World} {K : Act → World → Prop} {Q : Exit → Act → World → Prop} {x g j : Nat} {d : Option Nat} {ps : String} {af : Array Edge} (hx : a.tmps[x]?.getD undef = .pointer (some ⟨g, j, none⟩)) (hk : K (a.put d (.pointer (some ⟨g, j + 1, none⟩))) w) :
    Oper.wp Tryz.prog { dst := d, op := Op.fieldAddr 105 (Operand.tmp x) 1, type := 0, pos := ps, after := af, guard := none } a w K Q := by
  go_simp
  exact hk
set_option maxRecDepth 100000 in
theorem op_fieldK2 {a : Act} {w : World} {x g j : Nat} {d : Option Nat} {ps : String} {af : Array Edge} (hx : a.tmps[x]?.getD undef = .pointer (some ⟨g, j, none⟩)) :
    (execOp a.eval { dst := d, op := Op.fieldAddr 105 (Operand.tmp x) 2, type := 0, pos := ps, after := af, guard := none }).run Tryz.prog w = .ok (.value (.pointer (some ⟨g, j + 2, none⟩))) w := by
  go_simp
set_option maxRecDepth 100000 in
theorem wp_fieldK2 {a : Act} {w : World} {K : Act → World → Prop} {Q : Exit → Act → World → Prop} {x g j : Nat} {d : Option Nat} {ps : String} {af : Array Edge} (hx : a.tmps[x]?.getD undef = .pointer (some ⟨g, j, none⟩)) (hk : K (a.put d (.pointer (some ⟨g, j + 2, none⟩))) w) :
    Oper.wp Tryz.prog { dst := d, op := Op.fieldAddr 105 (Operand.tmp x) 2, type := 0, pos := ps, after := af, guard := none } a w K Q := by
  go_simp
  exact hk
set_option maxRecDepth 100000 in
theorem op_fieldK3 {a : Act} {w : World} {x g j : Nat} {d : Option Nat} {ps : String} {af : Array Edge} (hx : a.tmps[x]?.getD undef = .pointer (some ⟨g, j, none⟩)) :
    (execOp a.eval { dst := d, op := Op.fieldAddr 105 (Operand.tmp x) 3, type := 0, pos := ps, after := af, guard := none }).run Tryz.prog w = .ok (.value (.pointer (some ⟨g, j + 3, none⟩))) w := by
  go_simp
set_option maxRecDepth 100000 in
theorem wp_fieldK3 {a : Act} {w : World} {K : Act → World → Prop} {Q : Exit → Act → World → Prop} {x g j : Nat} {d : Option Nat} {ps : String} {af : Array Edge} (hx : a.tmps[x]?.getD undef = .pointer (some ⟨g, j, none⟩)) (hk : K (a.put d (.pointer (some ⟨g, j + 3, none⟩))) w) :
    Oper.wp Tryz.prog { dst := d, op := Op.fieldAddr 105 (Operand.tmp x) 3, type := 0, pos := ps, after := af, guard := none } a w K Q := by
  go_simp
  exact hk
set_option maxRecDepth 100000 in
theorem op_fieldK4 {a : Act} {w : World} {x g j : Nat} {d : Option Nat} {ps : String} {af : Array Edge} (hx : a.tmps[x]?.getD undef = .pointer (some ⟨g, j, none⟩)) :
    (execOp a.eval { dst := d, op := Op.fieldAddr 105 (Operand.tmp x) 4, type := 0, pos := ps, after := af, guard := none }).run Tryz.prog w = .ok (.value (.pointer (some ⟨g, j + 4, none⟩))) w := by
  go_simp
set_option maxRecDepth 100000 in
theorem wp_fieldK4 {a : Act} {w : World} {K : Act → World → Prop} {Q : Exit → Act → World → Prop} {x g j : Nat} {d : Option Nat} {ps : String} {af : Array Edge} (hx : a.tmps[x]?.getD undef = .pointer (some ⟨g, j, none⟩)) (hk : K (a.put d (.pointer (some ⟨g, j + 4, none⟩))) w) :
    Oper.wp Tryz.prog { dst := d, op := Op.fieldAddr 105 (Operand.tmp x) 4, type := 0, pos := ps, after := af, guard := none } a w K Q := by
  go_simp
  exact hk
end Go.Proofs.YthhkpkfpifllkaaGreat
