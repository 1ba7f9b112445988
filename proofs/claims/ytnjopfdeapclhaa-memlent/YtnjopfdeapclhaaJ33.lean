import Derived.Test.YtnjopfdeapclhaaJ31
import Derived.Test.YtnjopfdeapclhaaJ32
import Derived.Deep.RegionHeld3
import Derived.Lib.Hide
namespace Go.Proofs.Ytnjopfdeapclhaa
open Go.RowKit
set_option linter.unusedVariables false

set_option maxRecDepth 100000 in
theorem nil_ok {a : Act} {w : World} {x g : Nat} {d : Option Nat} {ps : String} {af : Array Edge} (hx : a.tmps[x]?.getD undef = .pointer (some ⟨g, 0, none⟩)) :
    (execOp a.eval { dst := d, op := Op.nilCheck (Operand.tmp x), type := 0, pos := ps, after := af, guard := none }).run Try.prog w = .ok (.value (.pointer (some ⟨g, 0, none⟩))) w := by
  go_simp
set_option maxRecDepth 100000 in
theorem field_was {a : Act} {w : World} {x g : Nat} {d : Option Nat} {ps : String} {af : Array Edge} (hx : a.tmps[x]?.getD undef = .pointer (some ⟨g, 0, none⟩)) :
    (execOp a.eval { dst := d, op := Op.fieldAddr 51 (Operand.tmp x) 1, type := 0, pos := ps, after := af, guard := none }).run Try.prog w = .ok (.value (.pointer (some ⟨g, 1, none⟩))) w := by
  go_simp
set_option maxRecDepth 100000 in
theorem wp_load_row {a : Act} {w : World} {K : Act → World → Prop} {Q : Exit → Act → World → Prop} {p g : Nat} {v : Value} {d : Option Nat} {ps : String} {af : Array Edge} (h : w.cell? ⟨g, 1, none⟩ = some v) (hp : a.tmps[p]?.getD undef = .pointer (some ⟨g, 1, none⟩)) (hk : K (a.put d v) w) :
    Oper.wp Try.prog { dst := d, op := Op.load 49 (Operand.tmp p), type := 49, pos := ps, after := af, guard := none } a w K Q := by
  go_simp
  exact hk
set_option maxRecDepth 100000 in
theorem wp_build_one {a : Act} {w : World} {K : Act → World → Prop} {Q : Exit → Act → World → Prop} {p : Nat} {va : Option Addr} {vm vc : Nat} {d : Option Nat} {ps : String} {af : Array Edge} (hp : a.tmps[p]?.getD undef = .slice va vm vc) (hk : K (a.put d (.slice (some ⟨w.heap.size, 0, none⟩) 1 1)) (w.alloc (.cells #[.slice va vm vc] 28))) :
    Oper.wp Try.prog { dst := d, op := Op.buildSlice 49 1 #[(0, Operand.tmp p)], type := 49, pos := ps, after := af, guard := none } a w K Q := by
  go_simp
  exact hk
set_option maxRecDepth 100000 in
theorem wp_append_row {a : Act} {w : World} {K : Act → World → Prop} {Q : Exit → Act → World → Prop} {p q B n cW vm vc : Nat} {aW va : Option Addr} {ws : List Value} {d : Option Nat} {ps : String} {af : Array Edge} (hp : a.tmps[p]?.getD undef = .slice aW n cW) (hq : a.tmps[q]?.getD undef = .slice (some ⟨w.heap.size, 0, none⟩) 1 1) (hr : RowS w B (.slice aW n cW) n ws) (hn : n + 1 ≤ 1000000) (hB : B ≤ w.heap.size)
    (hk : ∀ a' c' w', RowS w' B (.slice a' (n + 1) c') (n + 1) (ws ++ [.slice va vm vc]) → w.grownBy w' (Value.slice aW n cW).ownBlock → ((Value.slice a' (n + 1) c').ownBlock = (Value.slice aW n cW).ownBlock ∨ ∀ g, (Value.slice a' (n + 1) c').ownBlock = some g → w.heap.size ≤ g) → K (a.put d (.slice a' (n + 1) c')) w') :
    Oper.wp Try.prog { dst := d, op := Op.call { callee := Callee.builtin Builtin.append, args := #[Operand.tmp p, Operand.tmp q], argTypes := #[49, 49] }, type := 49, pos := ps, after := af, guard := none } a (w.alloc (.cells #[.slice va vm vc] 28)) K Q := by
  obtain ⟨v', w', hrn, h1, h2, h3⟩ := append_row (u := .slice va vm vc) 49 hr rfl hn hB
  obtain ⟨a', c', rfl⟩ := rows_form h1.2.2
  have e1 : a.eval (Operand.tmp p) = .slice aW n cW := by simpa [Act.eval] using hp
  have e2 : a.eval (Operand.tmp q) = .slice (some ⟨w.heap.size, 0, none⟩) 1 1 := by simpa [Act.eval] using hq
  unfold Oper.wp execOp
  simp only [resolve, invoke, builtin, Sem.run_bind, Sem.run_pure, Result.andThen_ok, List.map_toArray, List.map_cons, List.map_nil, e1, e2, hrn]
  exact hk a' c' w' h1 h2 h3
set_option maxRecDepth 100000 in
theorem wp_nil {a : Act} {w : World} {K : Act → World → Prop} {Q : Exit → Act → World → Prop} {x g : Nat} {d : Option Nat} {ps : String} {af : Array Edge} (hx : a.tmps[x]?.getD undef = .pointer (some ⟨g, 0, none⟩)) (hk : K (a.put d (.pointer (some ⟨g, 0, none⟩))) w) :
    Oper.wp Try.prog { dst := d, op := Op.nilCheck (Operand.tmp x), type := 0, pos := ps, after := af, guard := none } a w K Q := by
  go_simp
  exact hk
set_option maxRecDepth 100000 in
theorem wp_field {a : Act} {w : World} {K : Act → World → Prop} {Q : Exit → Act → World → Prop} {x g : Nat} {d : Option Nat} {ps : String} {af : Array Edge} (hx : a.tmps[x]?.getD undef = .pointer (some ⟨g, 0, none⟩)) (hk : K (a.put d (.pointer (some ⟨g, 1, none⟩))) w) :
    Oper.wp Try.prog { dst := d, op := Op.fieldAddr 51 (Operand.tmp x) 1, type := 0, pos := ps, after := af, guard := none } a w K Q := by
  go_simp
  exact hk
set_option maxRecDepth 100000 in
theorem wp_store_row {a : Act} {w : World} {K : Act → World → Prop} {Q : Exit → Act → World → Prop} {p q g n c : Nat} {a' : Option Addr} {y : Value} {ps : String} {af : Array Edge} (hc : w.cell? ⟨g, 1, none⟩ = some y) (hf : w.frozen? ⟨g, 1, none⟩ = false) (hp : a.tmps[p]?.getD undef = .pointer (some ⟨g, 1, none⟩)) (hq : a.tmps[q]?.getD undef = .slice a' n c) (hk : K a (w.setCell ⟨g, 1, none⟩ (.slice a' n c))) :
    Oper.wp Try.prog { dst := none, op := Op.store 49 (Operand.tmp p) (Operand.tmp q), type := 0, pos := ps, after := af, guard := none } a w K Q := by
  go_simp
  exact hk

theorem cell_alloc1 {w : World} {p : Addr} {v : Value} {o : Obj} (h : w.cell? p = some v) : (w.alloc o).cell? p = some v := by
  rw [((Below.refl w.heap.size w).alloc (Nat.le_refl _) o).cell (World.block_lt_of_cell? w _ h)]
  exact h

def keep2Ops : Array Oper := #[{ dst := some 14, op := Op.move (Operand.tmp 0), type := 48, pos := "again.go:20", after := #[], guard := none }, { dst := some 15, op := Op.move (Operand.tmp 0), type := 48, pos := "again.go:20", after := #[], guard := none }, { dst := some 16, op := Op.nilCheck (Operand.tmp 15), type := 0, pos := "again.go:20", after := #[{ on := 1, ground := Ground.data }], guard := none }, { dst := some 17, op := Op.fieldAddr 51 (Operand.tmp 16) 1, type := 0, pos := "again.go:20", after := #[{ on := 2, ground := Ground.data }], guard := none }, { dst := some 18, op := Op.load 49 (Operand.tmp 17), type := 49, pos := "again.go:20", after := #[{ on := 3, ground := Ground.data }], guard := none }, { dst := some 19, op := Op.move (Operand.tmp 1), type := 28, pos := "again.go:20", after := #[], guard := none }, { dst := some 20, op := Op.call { callee := Callee.value (Operand.func 75), args := #[Operand.tmp 19], argTypes := #[28] }, type := 28, pos := "again.go:20", after := #[{ on := 5, ground := Ground.data }], guard := none }, { dst := some 21, op := Op.buildSlice 49 1 #[(0, Operand.tmp 20)], type := 49, pos := "again.go:20", after := #[{ on := 6, ground := Ground.data }], guard := none }, { dst := some 22, op := Op.call { callee := Callee.builtin Builtin.append, args := #[Operand.tmp 18, Operand.tmp 21], argTypes := #[49, 49] }, type := 49, pos := "again.go:20", after := #[{ on := 4, ground := Ground.data }, { on := 7, ground := Ground.data }, { on := 6, ground := Ground.chain }], guard := none }, { dst := some 23, op := Op.nilCheck (Operand.tmp 14), type := 0, pos := "again.go:20", after := #[{ on := 0, ground := Ground.data }, { on := 0, ground := Ground.phase }, { on := 1, ground := Ground.phase }, { on := 2, ground := Ground.phase }, { on := 3, ground := Ground.phase }, { on := 4, ground := Ground.phase }, { on := 5, ground := Ground.phase }, { on := 6, ground := Ground.phase }, { on := 7, ground := Ground.phase }, { on := 8, ground := Ground.phase }], guard := none }, { dst := some 24, op := Op.fieldAddr 51 (Operand.tmp 23) 1, type := 0, pos := "again.go:20", after := #[{ on := 9, ground := Ground.data }, { on := 0, ground := Ground.phase }, { on := 1, ground := Ground.phase }, { on := 2, ground := Ground.phase }, { on := 3, ground := Ground.phase }, { on := 4, ground := Ground.phase }, { on := 5, ground := Ground.phase }, { on := 6, ground := Ground.phase }, { on := 7, ground := Ground.phase }, { on := 8, ground := Ground.phase }], guard := none }, { dst := none, op := Op.store 49 (Operand.tmp 24) (Operand.tmp 22), type := 0, pos := "again.go:20", after := #[{ on := 10, ground := Ground.data }, { on := 8, ground := Ground.data }, { on := 8, ground := Ground.chain }, { on := 0, ground := Ground.phase }, { on := 1, ground := Ground.phase }, { on := 2, ground := Ground.phase }, { on := 3, ground := Ground.phase }, { on := 4, ground := Ground.phase }, { on := 5, ground := Ground.phase }, { on := 6, ground := Ground.phase }, { on := 7, ground := Ground.phase }, { on := 8, ground := Ground.phase }], guard := none }]
def keep2Act (s0 s1 s4 s5 s6 s7 s8 s9 s10 s11 s12 s13 v14 v15 v16 v17 v18 v19 v20 v21 v22 v23 v24 : Value) : Act := ⟨#[s0, s1, undef, undef, s4, s5, s6, s7, s8, s9, s10, s11, s12, s13, v14, v15, v16, v17, v18, v19, v20, v21, v22, v23, v24], []⟩

set_option maxRecDepth 100000 in
set_option maxHeartbeats 8000000 in
theorem keep2_region {g n m c cW : Nat} {a aW : Option Addr} {X : World} {s4 s5 s6 s7 s8 s9 s10 s11 s12 s13 : Value} {R : Ending → World → Prop} (hw : X.cell? ⟨g, 1, none⟩ = some (.slice aW n cW)) (hcall : Calls Try.prog 75 #[.slice a m c] X.drew R) (hret : ∀ r w2, R r w2 → ∃ va vm vc, r = .returned (.slice va vm vc)) (Q : Exit → Act → World → Prop)
    (hR : Hid (∀ (va : Option Addr) (vm vc : Nat) (w2 : World), R (.returned (.slice va vm vc)) w2 → w2.cell? ⟨g, 1, none⟩ = some (.slice aW n cW) ∧ ∃ B ws, RowS w2 B (.slice aW n cW) n ws ∧ B ≤ w2.heap.size ∧ n + 1 ≤ 1000000 ∧ ∀ (aW' : Option Addr) (cW' : Nat) (w3 : World), RowS w3 B (.slice aW' (n + 1) cW') (n + 1) (ws ++ [(.slice va vm vc)]) → w2.grownBy w3 (Value.slice aW n cW).ownBlock → ((Value.slice aW' (n + 1) cW').ownBlock = (Value.slice aW n cW).ownBlock ∨ ∀ x, (Value.slice aW' (n + 1) cW').ownBlock = some x → w2.heap.size ≤ x) → (∃ y, w3.cell? ⟨g, 1, none⟩ = some y) ∧ w3.frozen? ⟨g, 1, none⟩ = false ∧ Q .normal (keep2Act (.pointer (some ⟨g, 0, none⟩)) (.slice a m c) s4 s5 s6 s7 s8 s9 s10 s11 s12 s13 (.pointer (some ⟨g, 0, none⟩)) (.pointer (some ⟨g, 0, none⟩)) (.pointer (some ⟨g, 0, none⟩)) (.pointer (some ⟨g, 1, none⟩)) (.slice aW n cW) (.slice a m c) (.slice va vm vc) (.slice (some ⟨w2.heap.size, 0, none⟩) 1 1) (.slice aW' (n + 1) cW') (.pointer (some ⟨g, 0, none⟩)) (.pointer (some ⟨g, 1, none⟩))) (w3.setCell ⟨g, 1, none⟩ (.slice aW' (n + 1) cW')))) :
    Code.wp Try.prog (Code.region 1 keep2Ops true) Q (keep2Act (.pointer (some ⟨g, 0, none⟩)) (.slice a m c) s4 s5 s6 s7 s8 s9 s10 s11 s12 s13 undef undef undef undef undef undef undef undef undef undef undef) X := by
  have HW : Hid (X.drew.cell? ⟨g, 1, none⟩ = some (.slice aW n cW)) := hw
  have HCL := Lib.hid hcall
  have HRT := Lib.hid hret
  clear hw hcall hret
  refine wp_region_noPanic ?_
  have st12 : ∀ (va : Option Addr) (vm vc : Nat) (w2 : World), R (.returned (.slice va vm vc)) w2 → wpAnyH Try.prog .any keep2Ops (NoPanic Q) (fun _ => True) 4 #[true, true, true, true, true, true, true, true, false, false, false, false] (keep2Act (.pointer (some ⟨g, 0, none⟩)) (.slice a m c) s4 s5 s6 s7 s8 s9 s10 s11 s12 s13 (.pointer (some ⟨g, 0, none⟩)) (.pointer (some ⟨g, 0, none⟩)) (.pointer (some ⟨g, 0, none⟩)) (.pointer (some ⟨g, 1, none⟩)) (.slice aW n cW) (.slice a m c) (.slice va vm vc) (.slice (some ⟨w2.heap.size, 0, none⟩) 1 1) undef undef undef) (w2.alloc (.cells #[.slice va vm vc] 28)) := by
    intro va vm vc w2 hr
    obtain ⟨hc2, B, ws, rw2, hB, hn, hfin⟩ := hR.out va vm vc w2 hr
    refine wpAnyH_ready (rs := [8]) (by kernel_rfl) (by simp) ?_
    refine AllReadyH.cons (o := { dst := some 22, op := Op.call { callee := Callee.builtin Builtin.append, args := #[Operand.tmp 18, Operand.tmp 21], argTypes := #[49, 49] }, type := 49, pos := "again.go:20", after := #[{ on := 4, ground := Ground.data }, { on := 7, ground := Ground.data }, { on := 6, ground := Ground.chain }], guard := none }) rfl (fun K hK => ?_) AllReadyH.nil
    rw [if_pos (by rfl)]
    refine wp_append_row rfl rfl rw2 hn hB ?_
    intro aW' cW' w3 r3 g3 b3
    obtain ⟨⟨y, hy⟩, hf, hq⟩ := hfin aW' cW' w3 r3 g3 b3
    have q9 : wpAnyH Try.prog .any keep2Ops (NoPanic Q) (fun _ => True) 3 #[true, true, true, true, true, true, true, true, true, false, false, false] (keep2Act (.pointer (some ⟨g, 0, none⟩)) (.slice a m c) s4 s5 s6 s7 s8 s9 s10 s11 s12 s13 (.pointer (some ⟨g, 0, none⟩)) (.pointer (some ⟨g, 0, none⟩)) (.pointer (some ⟨g, 0, none⟩)) (.pointer (some ⟨g, 1, none⟩)) (.slice aW n cW) (.slice a m c) (.slice va vm vc) (.slice (some ⟨w2.heap.size, 0, none⟩) 1 1) (.slice aW' (n + 1) cW') undef undef) w3 := by
      refine wpAnyH_ready (rs := [9]) (by kernel_rfl) (by simp) ?_
      refine AllReadyH.cons (o := { dst := some 23, op := Op.nilCheck (Operand.tmp 14), type := 0, pos := "again.go:20", after := #[{ on := 0, ground := Ground.data }, { on := 0, ground := Ground.phase }, { on := 1, ground := Ground.phase }, { on := 2, ground := Ground.phase }, { on := 3, ground := Ground.phase }, { on := 4, ground := Ground.phase }, { on := 5, ground := Ground.phase }, { on := 6, ground := Ground.phase }, { on := 7, ground := Ground.phase }, { on := 8, ground := Ground.phase }], guard := none }) rfl (fun K9 hK9 => ?_) AllReadyH.nil
      rw [if_pos (by rfl)]
      refine wp_nil rfl ?_
      have q10 : wpAnyH Try.prog .any keep2Ops (NoPanic Q) (fun _ => True) 2 #[true, true, true, true, true, true, true, true, true, true, false, false] (keep2Act (.pointer (some ⟨g, 0, none⟩)) (.slice a m c) s4 s5 s6 s7 s8 s9 s10 s11 s12 s13 (.pointer (some ⟨g, 0, none⟩)) (.pointer (some ⟨g, 0, none⟩)) (.pointer (some ⟨g, 0, none⟩)) (.pointer (some ⟨g, 1, none⟩)) (.slice aW n cW) (.slice a m c) (.slice va vm vc) (.slice (some ⟨w2.heap.size, 0, none⟩) 1 1) (.slice aW' (n + 1) cW') (.pointer (some ⟨g, 0, none⟩)) undef) w3 := by
        refine wpAnyH_ready (rs := [10]) (by kernel_rfl) (by simp) ?_
        refine AllReadyH.cons (o := { dst := some 24, op := Op.fieldAddr 51 (Operand.tmp 23) 1, type := 0, pos := "again.go:20", after := #[{ on := 9, ground := Ground.data }, { on := 0, ground := Ground.phase }, { on := 1, ground := Ground.phase }, { on := 2, ground := Ground.phase }, { on := 3, ground := Ground.phase }, { on := 4, ground := Ground.phase }, { on := 5, ground := Ground.phase }, { on := 6, ground := Ground.phase }, { on := 7, ground := Ground.phase }, { on := 8, ground := Ground.phase }], guard := none }) rfl (fun K10 hK10 => ?_) AllReadyH.nil
        rw [if_pos (by rfl)]
        refine wp_field rfl ?_
        have q11 : wpAnyH Try.prog .any keep2Ops (NoPanic Q) (fun _ => True) 1 #[true, true, true, true, true, true, true, true, true, true, true, false] (keep2Act (.pointer (some ⟨g, 0, none⟩)) (.slice a m c) s4 s5 s6 s7 s8 s9 s10 s11 s12 s13 (.pointer (some ⟨g, 0, none⟩)) (.pointer (some ⟨g, 0, none⟩)) (.pointer (some ⟨g, 0, none⟩)) (.pointer (some ⟨g, 1, none⟩)) (.slice aW n cW) (.slice a m c) (.slice va vm vc) (.slice (some ⟨w2.heap.size, 0, none⟩) 1 1) (.slice aW' (n + 1) cW') (.pointer (some ⟨g, 0, none⟩)) (.pointer (some ⟨g, 1, none⟩))) w3 := by
          refine wpAnyH_ready (rs := [11]) (by kernel_rfl) (by simp) ?_
          refine AllReadyH.cons (o := { dst := none, op := Op.store 49 (Operand.tmp 24) (Operand.tmp 22), type := 0, pos := "again.go:20", after := #[{ on := 10, ground := Ground.data }, { on := 8, ground := Ground.data }, { on := 8, ground := Ground.chain }, { on := 0, ground := Ground.phase }, { on := 1, ground := Ground.phase }, { on := 2, ground := Ground.phase }, { on := 3, ground := Ground.phase }, { on := 4, ground := Ground.phase }, { on := 5, ground := Ground.phase }, { on := 6, ground := Ground.phase }, { on := 7, ground := Ground.phase }, { on := 8, ground := Ground.phase }], guard := none }) rfl (fun K11 hK11 => ?_) AllReadyH.nil
          rw [if_pos (by rfl)]
          refine wp_store_row hy hf rfl rfl ?_
          refine hK11.out _ _ trivial (fun _ => ?_)
          refine wpAnyH_done (by kernel_rfl) ?_ _
          exact NoPanic.normal hq
        exact hK10.out _ _ trivial (fun _ => q11)
      exact hK9.out _ _ trivial (fun _ => q10)
    exact hK.out _ _ trivial (fun _ => q9)
  have st02 : ∀ (va : Option Addr) (vm vc : Nat) (w2 : World), R (.returned (.slice va vm vc)) w2 → wpAnyH Try.prog .any keep2Ops (NoPanic Q) (fun _ => True) 5 #[true, true, true, true, false, true, true, true, false, false, false, false] (keep2Act (.pointer (some ⟨g, 0, none⟩)) (.slice a m c) s4 s5 s6 s7 s8 s9 s10 s11 s12 s13 (.pointer (some ⟨g, 0, none⟩)) (.pointer (some ⟨g, 0, none⟩)) (.pointer (some ⟨g, 0, none⟩)) (.pointer (some ⟨g, 1, none⟩)) undef (.slice a m c) (.slice va vm vc) (.slice (some ⟨w2.heap.size, 0, none⟩) 1 1) undef undef undef) (w2.alloc (.cells #[.slice va vm vc] 28)) := by
    intro va vm vc w2 hr
    refine wpAnyH_ready (rs := [4]) (by kernel_rfl) (by simp) ?_
    refine AllReadyH.cons (o := { dst := some 18, op := Op.load 49 (Operand.tmp 17), type := 49, pos := "again.go:20", after := #[{ on := 3, ground := Ground.data }], guard := none }) rfl (fun K hK => ?_) AllReadyH.nil
    rw [if_pos (by rfl)]
    refine wp_load_row (cell_alloc1 (hR.out va vm vc w2 hr).1) rfl ?_
    exact hK.out _ _ trivial (fun _ => st12 va vm vc w2 hr)
  have st11 : ∀ (va : Option Addr) (vm vc : Nat) (w2 : World), R (.returned (.slice va vm vc)) w2 → wpAnyH Try.prog .any keep2Ops (NoPanic Q) (fun _ => True) 5 #[true, true, true, true, true, true, true, false, false, false, false, false] (keep2Act (.pointer (some ⟨g, 0, none⟩)) (.slice a m c) s4 s5 s6 s7 s8 s9 s10 s11 s12 s13 (.pointer (some ⟨g, 0, none⟩)) (.pointer (some ⟨g, 0, none⟩)) (.pointer (some ⟨g, 0, none⟩)) (.pointer (some ⟨g, 1, none⟩)) (.slice aW n cW) (.slice a m c) (.slice va vm vc) undef undef undef undef) w2 := by
    intro va vm vc w2 hr
    refine wpAnyH_ready (rs := [7]) (by kernel_rfl) (by simp) ?_
    refine AllReadyH.cons (o := { dst := some 21, op := Op.buildSlice 49 1 #[(0, Operand.tmp 20)], type := 49, pos := "again.go:20", after := #[{ on := 6, ground := Ground.data }], guard := none }) rfl (fun K hK => ?_) AllReadyH.nil
    rw [if_pos (by rfl)]
    refine wp_build_one rfl ?_
    exact hK.out _ _ trivial (fun _ => st12 va vm vc w2 hr)
  have st01 : ∀ (va : Option Addr) (vm vc : Nat) (w2 : World), R (.returned (.slice va vm vc)) w2 → wpAnyH Try.prog .any keep2Ops (NoPanic Q) (fun _ => True) 6 #[true, true, true, true, false, true, true, false, false, false, false, false] (keep2Act (.pointer (some ⟨g, 0, none⟩)) (.slice a m c) s4 s5 s6 s7 s8 s9 s10 s11 s12 s13 (.pointer (some ⟨g, 0, none⟩)) (.pointer (some ⟨g, 0, none⟩)) (.pointer (some ⟨g, 0, none⟩)) (.pointer (some ⟨g, 1, none⟩)) undef (.slice a m c) (.slice va vm vc) undef undef undef undef) w2 := by
    intro va vm vc w2 hr
    refine wpAnyH_ready (rs := [4, 7]) (by kernel_rfl) (by simp) ?_
    refine AllReadyH.cons (o := { dst := some 18, op := Op.load 49 (Operand.tmp 17), type := 49, pos := "again.go:20", after := #[{ on := 3, ground := Ground.data }], guard := none }) rfl (fun K hK => ?_) ?_
    · rw [if_pos (by rfl)]
      refine wp_load_row (hR.out va vm vc w2 hr).1 rfl ?_
      exact hK.out _ _ trivial (fun _ => st11 va vm vc w2 hr)
    refine AllReadyH.cons (o := { dst := some 21, op := Op.buildSlice 49 1 #[(0, Operand.tmp 20)], type := 49, pos := "again.go:20", after := #[{ on := 6, ground := Ground.data }], guard := none }) rfl (fun K hK => ?_) AllReadyH.nil
    rw [if_pos (by rfl)]
    refine wp_build_one rfl ?_
    exact hK.out _ _ trivial (fun _ => st02 va vm vc w2 hr)
  have st10 : wpAnyH Try.prog .any keep2Ops (NoPanic Q) (fun _ => True) 6 #[true, true, true, true, true, true, false, false, false, false, false, false] (keep2Act (.pointer (some ⟨g, 0, none⟩)) (.slice a m c) s4 s5 s6 s7 s8 s9 s10 s11 s12 s13 (.pointer (some ⟨g, 0, none⟩)) (.pointer (some ⟨g, 0, none⟩)) (.pointer (some ⟨g, 0, none⟩)) (.pointer (some ⟨g, 1, none⟩)) (.slice aW n cW) (.slice a m c) undef undef undef undef undef) X.drew := by
    refine wpAnyH_ready (rs := [6]) (by kernel_rfl) (by simp) ?_
    refine AllReadyH.cons (o := { dst := some 20, op := Op.call { callee := Callee.value (Operand.func 75), args := #[Operand.tmp 19], argTypes := #[28] }, type := 28, pos := "again.go:20", after := #[{ on := 5, ground := Ground.data }], guard := none }) rfl (fun K hK => ?_) AllReadyH.nil
    rw [if_pos (by rfl)]
    refine wp_call_copied HCL.out rfl ?_
    intro r w2 hr
    obtain ⟨va, vm, vc, rfl⟩ := HRT.out r w2 hr
    exact ⟨_, rfl, hK.out _ _ trivial (fun _ => st11 va vm vc w2 hr)⟩
  have st00 : wpAnyH Try.prog .any keep2Ops (NoPanic Q) (fun _ => True) 7 #[true, true, true, true, false, true, false, false, false, false, false, false] (keep2Act (.pointer (some ⟨g, 0, none⟩)) (.slice a m c) s4 s5 s6 s7 s8 s9 s10 s11 s12 s13 (.pointer (some ⟨g, 0, none⟩)) (.pointer (some ⟨g, 0, none⟩)) (.pointer (some ⟨g, 0, none⟩)) (.pointer (some ⟨g, 1, none⟩)) undef (.slice a m c) undef undef undef undef undef) X.drew := by
    refine wpAnyH_ready (rs := [4, 6]) (by kernel_rfl) (by simp) ?_
    refine AllReadyH.cons (o := { dst := some 18, op := Op.load 49 (Operand.tmp 17), type := 49, pos := "again.go:20", after := #[{ on := 3, ground := Ground.data }], guard := none }) rfl (fun K hK => ?_) ?_
    · rw [if_pos (by rfl)]
      refine wp_load_row HW.out rfl ?_
      exact hK.out _ _ trivial (fun _ => st10)
    refine AllReadyH.cons (o := { dst := some 20, op := Op.call { callee := Callee.value (Operand.func 75), args := #[Operand.tmp 19], argTypes := #[28] }, type := 28, pos := "again.go:20", after := #[{ on := 5, ground := Ground.data }], guard := none }) rfl (fun K hK => ?_) AllReadyH.nil
    rw [if_pos (by rfl)]
    refine wp_call_copied HCL.out rfl ?_
    intro r w2 hr
    obtain ⟨va, vm, vc, rfl⟩ := HRT.out r w2 hr
    exact ⟨_, rfl, hK.out _ _ trivial (fun _ => st01 va vm vc w2 hr)⟩
  refine wp_region_held_drew (S := (fun _ => True)) (by kernel_rfl) trivial (fun hS => ?_)
  refine wpAnyH_take (i := 0) (oi := { dst := some 14, op := Op.move (Operand.tmp 0), type := 48, pos := "again.go:20", after := #[], guard := none }) (v := (.pointer (some ⟨g, 0, none⟩))) rfl (by kernel_rfl) (by kernel_rfl) (by kernel_rfl) (fun _ _ _ h => h) (Or.inl ⟨by rfl, fun w hw => move_any rfl⟩) hS ?_
  refine wpAnyH_take (i := 1) (oi := { dst := some 15, op := Op.move (Operand.tmp 0), type := 48, pos := "again.go:20", after := #[], guard := none }) (v := (.pointer (some ⟨g, 0, none⟩))) rfl (by kernel_rfl) (by kernel_rfl) (by kernel_rfl) (fun _ _ _ h => h) (Or.inl ⟨by rfl, fun w hw => move_any rfl⟩) hS ?_
  refine wpAnyH_take (i := 2) (oi := { dst := some 16, op := Op.nilCheck (Operand.tmp 15), type := 0, pos := "again.go:20", after := #[{ on := 1, ground := Ground.data }], guard := none }) (v := (.pointer (some ⟨g, 0, none⟩))) rfl (by kernel_rfl) (by kernel_rfl) (by kernel_rfl) (fun _ _ _ h => h) (Or.inl ⟨by rfl, fun w hw => nil_ok rfl⟩) hS ?_
  refine wpAnyH_take (i := 3) (oi := { dst := some 17, op := Op.fieldAddr 51 (Operand.tmp 16) 1, type := 0, pos := "again.go:20", after := #[{ on := 2, ground := Ground.data }], guard := none }) (v := (.pointer (some ⟨g, 1, none⟩))) rfl (by kernel_rfl) (by kernel_rfl) (by kernel_rfl) (fun _ _ _ h => h) (Or.inl ⟨by rfl, fun w hw => field_was rfl⟩) hS ?_
  refine wpAnyH_take (i := 5) (oi := { dst := some 19, op := Op.move (Operand.tmp 1), type := 28, pos := "again.go:20", after := #[], guard := none }) (v := (.slice a m c)) rfl (by kernel_rfl) (by kernel_rfl) (by kernel_rfl) (fun _ _ _ h => h) (Or.inl ⟨by rfl, fun w hw => move_any rfl⟩) hS ?_
  exact st00

end Go.Proofs.Ytnjopfdeapclhaa

namespace Go.Proofs.Ytnjopfdeapclhaa
open Go.RowKit
set_option linter.unusedVariables false

set_option maxRecDepth 100000 in
set_option maxHeartbeats 4000000 in
theorem keep_any {w : World} {g B n m c : Nat} {a aL aW : Option Addr} {cL cW : Nat} {ls ws : List Value} {xs : List Nat} (hk : KBox w g (.slice aL n cL) (.slice aW n cW)) (rL : RowS w B (.slice aL n cL) n ls) (rW : RowS w B (.slice aW n cW) n ws) (hne : ∀ x, (Value.slice aL n cL).ownBlock = some x → (Value.slice aW n cW).ownBlock ≠ some x) (ho : Own w B (.slice a m c) m xs) (hby : Bys xs) (hl : xs.length ≤ 100000) (hn : n ≤ 1000) (hB : B ≤ w.heap.size) :
    Calls Try.prog 48 #[.pointer (some ⟨g, 0, none⟩), .slice a m c] w fun r w' => r = .returned (.tuple #[]) ∧ ∃ aL' cL' aW' cW' va vm vc, KBox w' g (.slice aL' (n + 1) cL') (.slice aW' (n + 1) cW') ∧ RowS w' B (.slice aL' (n + 1) cL') (n + 1) (ls ++ [.slice a m c]) ∧ RowS w' B (.slice aW' (n + 1) cW') (n + 1) (ws ++ [.slice va vm vc]) ∧ Own w' w.heap.size (.slice va vm vc) vm xs ∧ (∀ x, (Value.slice aL' (n + 1) cL').ownBlock = some x → (Value.slice aW' (n + 1) cW').ownBlock ≠ some x) ∧ (∀ i, i < w.heap.size → i ≠ g → (Value.slice aL n cL).ownBlock ≠ some i → (Value.slice aW n cW).ownBlock ≠ some i → w'.heap[i]? = w.heap[i]?) ∧ w.heap.size ≤ w'.heap.size ∧ w'.os = w.os ∧ w'.tape = w.tape ∧ w'.output = w.output := by
  have k0 := hk.l
  have f0 := hk.fz 0
  have HKB := Lib.hid hk
  have HRL := Lib.hid rL
  have HRW := Lib.hid rW
  have HNE := Lib.hid hne
  have HO := Lib.hid ho
  clear hk rW hne ho
  go_enter Try.func48, Try.ntmps48
  go_wp2_with (at_builtin; refine wpList_append_one rfl _ _ rfl B aL n cL ls rfl rL (.slice a m c) rfl rfl (by omega) hB ?_; intro aL' cL' w1 r1 g1 b1; have K1 := Lib.hid (HKB.out.far g1 (fun x hx => kbox_row HKB.out rL hx)); have k1 := K1.out.l; have f1 := K1.out.fz 0; have R1 := Lib.hid r1; have G1 := Lib.hid g1; have E1 := Lib.hid b1; clear r1 g1 b1)
  obtain ⟨W1, hW1⟩ : ∃ W1, W1 = w1.setCell ⟨g, 0, none⟩ (.slice aL' (n + 1) cL') := ⟨_, rfl⟩
  have SG : w1.grownBy W1 (some g) := by rw [hW1]; exact set_grown _ _ _ _
  have KB1 : Hid (KBox W1 g (.slice aL' (n + 1) cL') (.slice aW n cW)) := by rw [hW1]; exact K1.out.setL _
  have RL1 : Hid (RowS W1 B (.slice aL' (n + 1) cL') (n + 1) (ls ++ [.slice a m c])) := R1.out.far SG (fun x hx e => by cases hx; exact kbox_row K1.out R1.out e rfl)
  have RWm := HRW.out.far G1.out (fun x hx => HNE.out x hx)
  have RW1 : Hid (RowS W1 B (.slice aW n cW) n ws) := RWm.far SG (fun x hx e => by cases hx; exact kbox_row K1.out RWm e rfl)
  have Om := HO.out.far G1.out (fun x hx => row_own HRL.out HO.out hx)
  have O1 : Hid (Own W1 B (.slice a m c) m xs) := Om.far SG (fun x hx e => by cases hx; exact kbox_own K1.out Om e rfl)
  have SZ : Hid (w.heap.size ≤ w1.heap.size ∧ W1.heap.size = w1.heap.size) := ⟨G1.out.size, by rw [hW1]; simp [World.setCell]⟩
  have hm : m ≤ 281474976710656 := by rw [HO.out.1]; omega
  have D0 : Below W1.heap.size W1 W1.drew := (Below.refl _ _).drew
  have kw := KB1.out.w
  have LLT : Hid (∀ x, (Value.slice aL n cL).ownBlock = some x → x < w.heap.size) := fun x hx => (HRL.out.2.2.lt x hx).2
  have WLT : Hid (∀ x, (Value.slice aW n cW).ownBlock = some x → x < w.heap.size) := fun x hx => (HRW.out.2.2.lt x hx).2
  have L1LT : Hid (∀ x, (Value.slice aL' (n + 1) cL').ownBlock = some x → x < w1.heap.size) := fun x hx => (R1.out.2.2.lt x hx).2
  rw [← hW1]
  clear hW1 k0 f0 k1 f1 RWm Om rL
  refine keep2_region kw (copied_any ((O1.out.rd hby hm).later D0) (by omega)) (fun r w2 h => by obtain ⟨a2, m2, c2, rfl, _⟩ := h; exact ⟨_, _, _, rfl⟩) _ (fun va vm vc w2 hr => ?_)
  obtain ⟨a2, m2, c2, he, own2, hb2⟩ := hr
  simp only [Ending.returned.injEq, Value.slice.injEq] at he
  obtain ⟨rfl, rfl, rfl⟩ := he
  have hb12 := D0.trans (hb2.mono D0.size)
  have KB2 := KB1.out.later hb12
  have RW2 := RW1.out.later hb12
  have RL2 := RL1.out.later hb12
  have hs2 : W1.heap.size ≤ w2.heap.size := hb12.size
  refine ⟨KB2.w, B, ws, RW2, by have := SZ.out; omega, by omega, fun aW' cW' w3 r3 g3 b3 => ?_⟩
  have KB3 := KB2.far g3 (fun x hx => kbox_row KB2 RW2 hx)
  refine ⟨⟨_, KB3.w⟩, KB3.fz 1, ?_⟩
  have SG2 := set_grown w3 g 1 (.slice aW' (n + 1) cW')
  have KB4 := KB3.setW (.slice aW' (n + 1) cW')
  have NL : ∀ x, (Value.slice aL' (n + 1) cL').ownBlock = some x → (Value.slice aW n cW).ownBlock ≠ some x := fun x hx hy => by
    rcases E1.out with e | e
    · rw [e] at hx; exact HNE.out x hx hy
    · have := e x hx; have := WLT.out x hy; omega
  have RL3 := RL2.far g3 (fun x hx hy => NL x hy hx)
  have RL4 := RL3.far SG2 (fun x hx e => by cases hx; exact kbox_row KB3 RL3 e rfl)
  have RW4 := r3.far SG2 (fun x hx e => by cases hx; exact kbox_row KB3 r3 e rfl)
  have o2' : Own w2 w.heap.size (.slice va vm vc) vm xs := own2.mono (by have := SZ.out; simp; omega)
  have o3 := o2'.far g3 (fun x hx => row_own RW2 o2' hx)
  have o4 := o3.far SG2 (fun x hx e => by cases hx; exact kbox_own KB3 o3 e rfl)
  have NLW : ∀ x, (Value.slice aL' (n + 1) cL').ownBlock = some x → (Value.slice aW' (n + 1) cW').ownBlock ≠ some x := fun x hx hy => by
    rcases b3 with e | e
    · rw [e] at hy; exact NL x hx hy
    · have h1 := e x hy; have h2 := L1LT.out x hx; have := SZ.out; omega
  have BLK : ∀ i, i < w.heap.size → i ≠ g → (Value.slice aL n cL).ownBlock ≠ some i → (Value.slice aW n cW).ownBlock ≠ some i → (w3.setCell ⟨g, 1, none⟩ (.slice aW' (n + 1) cW')).heap[i]? = w.heap[i]? := fun i hi hg hL hW => by
    have hz := SZ.out
    rw [SG2.block i (by have := g3.size; omega) (fun e => by cases e; exact hg rfl), g3.block i (by omega) (fun e => hW e.symm), hb12.block i (by omega), SG.block i (by omega) (fun e => by cases e; exact hg rfl), G1.out.block i hi (fun e => hL e.symm)]
  have SZ4 : w.heap.size ≤ (w3.setCell ⟨g, 1, none⟩ (.slice aW' (n + 1) cW')).heap.size := by have := SG2.size; have := g3.size; have := SZ.out; omega
  unfold keep2Act
  refine bodyPost_end (v := .tuple #[]) (by first | rfl | kernel_rfl) rfl ?_
  exact ⟨rfl, aL', cL', aW', cW', va, vm, vc, KB4, RL4, RW4, o4, NLW, BLK, SZ4, SG2.os.trans (g3.os.trans (hb12.os.trans (SG.os.trans G1.out.os))), SG2.tape.trans (g3.tape.trans (hb12.tape.trans (SG.tape.trans G1.out.tape))), SG2.output.trans (g3.output.trans (hb12.output.trans (SG.output.trans G1.out.output)))⟩

end Go.Proofs.Ytnjopfdeapclhaa

namespace Go.Proofs.Ytnjopfdeapclhaa
open Go.RowKit
set_option linter.unusedVariables false

/-- Two byte strings that lie apart. -/
def AP (u v : Value) : Prop := ∀ g, u.ownBlock = some g → v.ownBlock ≠ some g
theorem AP.symm {u v : Value} (h : AP u v) : AP v u := fun g hv hu => h g hu hv
/-- An item of the book: what was handed out, the copy, what they hold. -/
structure Item where
  l : Value
  k : Value
  xs : List Nat
/-- The book: each item and each copy owns its bytes, all apart. -/
structure Bk (w : World) (B g n : Nat) (its : List Item) : Prop where
  box : ∃ aL cL aW cW, KBox w g (.slice aL n cL) (.slice aW n cW) ∧ RowS w B (.slice aL n cL) n (its.map Item.l) ∧ RowS w B (.slice aW n cW) n (its.map Item.k) ∧ AP (.slice aL n cL) (.slice aW n cW)
  own : ∀ p ∈ its, Own w B p.l p.xs.length p.xs ∧ Own w B p.k p.xs.length p.xs ∧ Bys p.xs ∧ p.xs.length ≤ 100000
  apart : (its.map Item.l ++ its.map Item.k).Pairwise AP
theorem Bk.later {w w' : World} {B g n : Nat} {its : List Item} (h : Bk w B g n its) (hb : Below w.heap.size w w') : Bk w' B g n its := by
  obtain ⟨⟨aL, cL, aW, cW, h1, h2, h3, h4⟩, h5, h6⟩ := h
  exact ⟨⟨aL, cL, aW, cW, h1.later hb, h2.later hb, h3.later hb, h4⟩, fun p hp => ⟨(h5 p hp).1.later hb, (h5 p hp).2.1.later hb, (h5 p hp).2.2⟩, h6⟩
theorem Own.same_block {w w' : World} {B m : Nat} {v : Value} {xs : List Nat} (h : Own w B v m xs) (k : ∀ g, v.ownBlock = some g → w'.heap[g]? = w.heap[g]?) : Own w' B v m xs := by
  refine ⟨h.1, h.2.1, ?_⟩
  rcases h.2.2 with h2 | ⟨g, cap, cur, h3, h4, h5, h6⟩
  · exact .inl h2
  · exact .inr ⟨g, cap, cur, h3, h4, by rw [k g (by rw [h3]; rfl)]; exact h5, h6⟩
/-- What Keep does to the rest of the memory: nothing but to the box and its rows. -/
def Still (w w' : World) (g : Nat) (vL vW : Value) : Prop := (∀ i, i < w.heap.size → i ≠ g → vL.ownBlock ≠ some i → vW.ownBlock ≠ some i → w'.heap[i]? = w.heap[i]?) ∧ w.heap.size ≤ w'.heap.size ∧ w'.os = w.os ∧ w'.tape = w.tape ∧ w'.output = w.output
theorem Own.still {w w' : World} {B g n : Nat} {v vL vW : Value} {vs us : List Value} {m n1 n2 : Nat} {xs : List Nat} (h : Own w B v m xs) (hk : KBox w g vL vW) (rL : RowS w n1 vL n vs) (rW : RowS w n2 vW n us) (s : Still w w' g vL vW) : Own w' B v m xs :=
  h.same_block (fun x hx => s.1 x (h.2.lt x hx).2 (fun e => kbox_own hk h hx e.symm) (fun e => row_own rL h e hx) (fun e => row_own rW h e hx))

theorem row_ebox {w : World} {B m g : Nat} {u : Value} {vs : List Value} {e : EntD} (h : RowS w B u m vs) (k : EBox w g e) : u.ownBlock ≠ some g := by
  intro hu
  rcases h.2.2.2 with ⟨h1, _⟩ | ⟨g2, cap, cur, h3, _, h5, _⟩
  · rw [h1] at hu; cases hu
  · rw [h3] at hu
    simp only [Value.ownBlock, Option.some.injEq] at hu
    subst hu
    unfold EBox at k
    rw [h5] at k
    simp at k
theorem kbox_ebox {w : World} {g q : Nat} {vL vW : Value} {e : EntD} (h : KBox w g vL vW) (k : EBox w q e) : q ≠ g := by
  rintro rfl
  unfold KBox at h
  unfold EBox at k
  rw [h] at k
  simp at k
/-- All blocks but those of books and of their rows are as they were. -/
def FrT (w w' : World) : Prop := ∀ (q : Nat) (cs : Array Value) (ty : TypeId) (fz : Nat × Nat), w.heap[q]? = some (Obj.cells cs ty fz) → ty ≠ 28 → ty ≠ 51 → w'.heap[q]? = w.heap[q]?
theorem FrT.of_below {w w' : World} (h : Below w.heap.size w w') : FrT w w' := fun q cs ty fz hq _ _ => h.block q (Array.getElem?_eq_some_iff.1 hq).1
theorem FrT.trans {a b c : World} (h : FrT a b) (k : FrT b c) : FrT a c := fun q cs ty fz hq h1 h2 => by
  have e := h q cs ty fz hq h1 h2
  rw [k q cs ty fz (by rw [e]; exact hq) h1 h2, e]
theorem row_not {w : World} {B m q : Nat} {u : Value} {vs : List Value} {cs : Array Value} {ty : TypeId} {fz : Nat × Nat} (h : RowS w B u m vs) (k : w.heap[q]? = some (.cells cs ty fz)) (hty : ty ≠ 28) : u.ownBlock ≠ some q := by
  intro hu
  rcases h.2.2.2 with ⟨h1, _⟩ | ⟨g2, cap, cur, h3, _, h5, _⟩
  · rw [h1] at hu; cases hu
  · rw [h3] at hu
    simp only [Value.ownBlock, Option.some.injEq] at hu
    subst hu
    rw [h5] at k
    simp at k
    exact hty k.2.1.symm
theorem kbox_not {w : World} {g q : Nat} {vL vW : Value} {cs : Array Value} {ty : TypeId} {fz : Nat × Nat} (h : KBox w g vL vW) (k : w.heap[q]? = some (.cells cs ty fz)) (hty : ty ≠ 51) : q ≠ g := by
  rintro rfl
  unfold KBox at h
  rw [h] at k
  simp at k
  exact hty k.2.1.symm
theorem keep_bk {w : World} {g B n m c : Nat} {a : Option Addr} {its : List Item} {xs : List Nat} (hk : Bk w B g n its) (ho : Own w B (.slice a m c) m xs) (hap : ∀ p ∈ its, AP p.l (.slice a m c) ∧ AP p.k (.slice a m c)) (hby : Bys xs) (hl : xs.length ≤ 100000) (hn : n ≤ 1000) (hB : B ≤ w.heap.size) :
    Calls Try.prog 48 #[.pointer (some ⟨g, 0, none⟩), .slice a m c] w fun r w' => r = .returned (.tuple #[]) ∧ ∃ u, Bk w' B g (n + 1) (its ++ [⟨.slice a m c, u, xs⟩]) ∧ (∀ x, u.ownBlock = some x → w.heap.size ≤ x) ∧ w.heap.size ≤ w'.heap.size ∧ w'.os = w.os ∧ w'.tape = w.tape ∧ w'.output = w.output ∧ (∀ v m' ys B', Own w B' v m' ys → Own w' B' v m' ys) ∧ (∀ i, i < w.heap.size → i < B → w'.heap[i]? = w.heap[i]? ∨ i = g) ∧ (∀ q d, EBox w q d → EBox w' q d) ∧ FrT w w' := by
  obtain ⟨⟨aL, cL, aW, cW, h1, h2, h3, h4⟩, h5, h6⟩ := hk
  refine (keep_any h1 h2 h3 h4 ho hby hl hn hB).mono ?_
  rintro r w' ⟨rfl, aL', cL', aW', cW', va, vm, vc, k1, r1, r2, o1, ne, blk, sz, e1, e2, e3⟩
  have st : Still w w' g (.slice aL n cL) (.slice aW n cW) := ⟨blk, sz, e1, e2, e3⟩
  have OW : ∀ v m' ys B', Own w B' v m' ys → Own w' B' v m' ys := fun v m' ys B' h => h.still h1 h2 h3 st
  have hu : ∀ x, (Value.slice va vm vc).ownBlock = some x → w.heap.size ≤ x := fun x hx => (o1.2.lt x hx).1
  refine ⟨rfl, .slice va vm vc, ⟨⟨aL', cL', aW', cW', k1, by simpa using r1, by simpa using r2, ne⟩, fun p hp => ?_, ?_⟩, hu, sz, e1, e2, e3, OW, fun i hi hiB => ?_, fun q d hq => ?_, fun q cs ty fz hq h7 h8 => blk q (Array.getElem?_eq_some_iff.1 hq).1 (kbox_not h1 hq h8) (row_not h2 hq h7) (row_not h3 hq h7)⟩
  · rcases List.mem_append.1 hp with hp | hp
    · exact ⟨OW _ _ _ _ (h5 p hp).1, OW _ _ _ _ (h5 p hp).2.1, (h5 p hp).2.2⟩
    · simp at hp
      subst hp
      refine ⟨?_, ?_, hby, hl⟩
      · exact own_len (OW _ _ _ _ ho)
      · have := o1.mono hB
        exact own_len this
  · -- all apart
    have new_k : ∀ p ∈ its, AP p.l (.slice va vm vc) ∧ AP p.k (.slice va vm vc) := fun p hp => ⟨fun x hx hy => by have := ((h5 p hp).1.2.lt x hx).2; have := hu x hy; omega, fun x hx hy => by have := ((h5 p hp).2.1.2.lt x hx).2; have := hu x hy; omega⟩
    have new_l : AP (.slice a m c) (.slice va vm vc) := fun x hx hy => by have := (ho.2.lt x hx).2; have := hu x hy; omega
    rw [List.pairwise_append] at h6
    obtain ⟨p1, p2, p3⟩ := h6
    simp only [List.map_append, List.map_cons, List.map_nil]
    rw [List.pairwise_append]
    refine ⟨?_, ?_, ?_⟩
    · rw [List.pairwise_append]
      refine ⟨p1, by simp, fun u hu2 v hv => ?_⟩
      simp at hv
      subst hv
      obtain ⟨p, hp, rfl⟩ := List.mem_map.1 hu2
      exact (hap p hp).1
    · rw [List.pairwise_append]
      refine ⟨p2, by simp, fun u hu2 v hv => ?_⟩
      simp at hv
      subst hv
      obtain ⟨p, hp, rfl⟩ := List.mem_map.1 hu2
      exact (new_k p hp).2
    · intro u hu2 v hv
      rcases List.mem_append.1 hu2 with hu3 | hu3 <;> rcases List.mem_append.1 hv with hv3 | hv3
      · exact p3 u hu3 v hv3
      · simp at hv3
        subst hv3
        obtain ⟨p, hp, rfl⟩ := List.mem_map.1 hu3
        exact (new_k p hp).1
      · simp at hu3
        subst hu3
        obtain ⟨p, hp, rfl⟩ := List.mem_map.1 hv3
        exact (hap p hp).2.symm
      · simp at hu3 hv3
        subst hu3 hv3
        exact new_l
  · by_cases hg : i = g
    · exact .inr hg
    · refine .inl (blk i hi hg (fun e => ?_) (fun e => ?_))
      · have := (h2.2.2.lt i e).1; omega
      · have := (h3.2.2.lt i e).1; omega
  · unfold EBox
    rw [blk q (Array.getElem?_eq_some_iff.1 hq).1 (kbox_ebox h1 hq) (row_ebox h2 hq) (row_ebox h3 hq)]
    exact hq

end Go.Proofs.Ytnjopfdeapclhaa
