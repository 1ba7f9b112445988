import Derived.Test.YtchebhafabhabaaGreatDoorK05
namespace Go.Proofs.YtchebhafabhabaaGreatDoor
open Go.RowKit
set_option linter.unusedVariables false

def Tri (a b c : Int) : Prop := (a ≤ 0 ∧ b ≤ 0 → c ≤ 0) ∧ (0 ≤ a ∧ 0 ≤ b → 0 ≤ c) ∧ (a ≤ 0 ∧ b ≤ 0 ∧ c = 0 → a = 0 ∧ b = 0) ∧ (0 ≤ a ∧ 0 ≤ b ∧ c = 0 → a = 0 ∧ b = 0) ∧ (a = 0 → c = b) ∧ (b = 0 → c = a)
theorem tri_cmpI (x y z : Int) : Tri (cmpI x y) (cmpI y z) (cmpI x z) := by
 unfold Tri cmpI
 repeat' split
 all_goals omega
theorem tri_lex {a b c a' b' c' : Int} (h : Tri a b c) (k : Tri a' b' c') : Tri (if a = 0 then a' else a) (if b = 0 then b' else b) (if c = 0 then c' else c) := by
 unfold Tri at *
 obtain ⟨h1, h2, h3, h4, h5, h6⟩ := h
 by_cases ha : a = 0
 ·by_cases hb : b = 0
  ·have hc : c = 0 := by rw [h5 ha]; exact hb
   rw [if_pos ha, if_pos hb, if_pos hc]; exact k
  ·have hc : c = b := h5 ha
   have hc0 : ¬ c = 0 := by omega
   rw [if_pos ha, if_neg hb, if_neg hc0]
   refine ⟨?_, ?_, ?_, ?_, ?_, ?_⟩ <;> omega
 ·by_cases hb : b = 0
  ·have hc : c = a := h6 hb
   have hc0 : ¬ c = 0 := by omega
   rw [if_neg ha, if_pos hb, if_neg hc0]
   refine ⟨?_, ?_, ?_, ?_, ?_, ?_⟩ <;> omega
  ·rw [if_neg ha, if_neg hb]
   by_cases hc : c = 0
   ·rw [if_pos hc]
    have e1 : ¬ (a ≤ 0 ∧ b ≤ 0) := fun e => ha (h3 ⟨e.1, e.2, hc⟩).1
    have e2 : ¬ (0 ≤ a ∧ 0 ≤ b) := fun e => ha (h4 ⟨e.1, e.2, hc⟩).1
    refine ⟨?_, ?_, ?_, ?_, ?_, ?_⟩ <;> omega
   ·rw [if_neg hc]; exact ⟨h1, h2, h3, h4, h5, h6⟩
theorem tri_zero : Tri 0 0 0 := by unfold Tri; omega
theorem ordC_cons (x y : Nat) (a b : List Nat) : ordC (x :: a) (y :: b) = if cmpI (x : Int) (y : Int) = 0 then ordC a b else cmpI (x : Int) (y : Int) := by
 have e : ordC (x :: a) (y :: b) = if x < y then -1 else if y < x then 1 else ordC a b := rfl
 rw [e]
 unfold cmpI
 by_cases h1 : x < y
 ·simp [h1]
 ·by_cases h2 : y < x
  ·have : ¬ (x : Int) < y := by omega
   simp [h1, h2]
  ·simp [h1, h2]
theorem tri_ordC : ∀ (x y z : List Nat), Tri (ordC x y) (ordC y z) (ordC x z)
 | [], [], [] => by simp only [ordC]; exact tri_zero
 | [], [], _ :: _ => by simp only [ordC]; unfold Tri; omega
 | [], _ :: _, [] => by simp only [ordC]; unfold Tri; omega
 | [], y :: b, z :: c => by
  have h : ordC [] (y :: b) = -1 := rfl
  have h2 : ordC [] (z :: c) = -1 := rfl
  rw [h, h2]; unfold Tri; omega
 | _ :: _, [], [] => by simp only [ordC]; unfold Tri; omega
 | x :: a, [], z :: c => by
  have h : ordC (x :: a) [] = 1 := rfl
  have h2 : ordC [] (z :: c) = -1 := rfl
  rw [h, h2]; unfold Tri; omega
 | x :: a, y :: b, [] => by
  have h : ordC (y :: b) [] = 1 := rfl
  have h2 : ordC (x :: a) [] = 1 := rfl
  rw [h, h2]; unfold Tri; omega
 | x :: a, y :: b, z :: c => by
  rw [ordC_cons, ordC_cons, ordC_cons]
  exact tri_lex (tri_cmpI _ _ _) (tri_ordC a b c)
theorem cmpI_swap (a b : Int) : cmpI b a = -cmpI a b := by
 unfold cmpI
 repeat' split
 all_goals omega
theorem lex_neg {a a' b b' : Int} (h : b = -a) (k : b' = -a') : (if b = 0 then b' else b) = -(if a = 0 then a' else a) := by
 subst h k
 by_cases ha : a = 0
 ·rw [if_pos ha, if_pos (by omega)]
 ·rw [if_neg ha, if_neg (by omega)]
theorem compareS_tri (x y z : EntD) : Tri (compareS x y) (compareS y z) (compareS x z) := by
 unfold compareS cmpsS
 simp only [firstNZ]
 have rev : ∀ a b c : Int, Tri (cmpI b a) (cmpI c b) (cmpI c a) := fun a b c => by
  rw [cmpI_swap a b, cmpI_swap b c, cmpI_swap a c]
  have h := tri_cmpI a b c
  unfold Tri at *
  omega
 refine tri_lex (tri_ordC _ _ _) (tri_lex (tri_cmpI _ _ _) (tri_lex ?_ (tri_lex (tri_ordC _ _ _) (tri_lex ?_ (tri_lex (rev _ _ _) (tri_lex (rev _ _ _) (tri_lex (tri_cmpI _ _ _) tri_zero)))))))
 ·exact tri_cmpI _ _ _
 ·exact tri_cmpI _ _ _
theorem compareS_swap (x y : EntD) : compareS y x = -compareS x y := by
 unfold compareS cmpsS
 simp only [firstNZ]
 exact lex_neg (ordC_swap _ _) (lex_neg (cmpI_swap _ _) (lex_neg (cmpI_swap _ _) (lex_neg (ordC_swap _ _) (lex_neg (cmpI_swap _ _) (lex_neg (cmpI_swap _ _) (lex_neg (cmpI_swap _ _) (lex_neg (cmpI_swap _ _) (by omega))))))))
theorem lex_small {a b : Int} (h : -1 ≤ a ∧ a ≤ 1) (k : -1 ≤ b ∧ b ≤ 1) : -1 ≤ (if a = 0 then b else a) ∧ (if a = 0 then b else a) ≤ 1 := by split <;> assumption
theorem cmpI_small (a b : Int) : -1 ≤ cmpI a b ∧ cmpI a b ≤ 1 := by
 unfold cmpI
 by_cases h : a < b
 ·rw [if_pos h]; omega
 ·rw [if_neg h]
  by_cases h2 : b < a
  ·rw [if_pos h2]; omega
  ·rw [if_neg h2]; omega
theorem ordC_small : ∀ (a b : List Nat), -1 ≤ ordC a b ∧ ordC a b ≤ 1
 | [], [] => by simp [ordC]
 | [], _ :: _ => by simp [ordC]
 | _ :: _, [] => by simp [ordC]
 | x :: a, y :: b => by rw [ordC_cons]; exact lex_small (cmpI_small _ _) (ordC_small a b)
theorem compareS_small (x y : EntD) : -1 ≤ compareS x y ∧ compareS x y ≤ 1 := by
 unfold compareS cmpsS
 simp only [firstNZ]
 exact lex_small (ordC_small _ _) (lex_small (cmpI_small _ _) (lex_small (cmpI_small _ _) (lex_small (ordC_small _ _) (lex_small (cmpI_small _ _) (lex_small (cmpI_small _ _) (lex_small (cmpI_small _ _) (lex_small (cmpI_small _ _) (by omega))))))))
end Go.Proofs.YtchebhafabhabaaGreatDoor

namespace Go.Proofs.YtchebhafabhabaaGreatDoor
open Go.RowKit
set_option linter.unusedVariables false

set_option maxRecDepth 100000 in
theorem refFirst_any (a b : Bool) (w : World) : Calls Tryz.prog 85 #[.bool a, .bool b] w fun e w' => e = .returned (.int .i64 (cmpI (if a then 0 else 1) (if b then 0 else 1))) ∧ w' = w := by
 cases a <;> cases b <;>
 ·go_enter Tryz.func85, Tryz.ntmps85
  go_wp2
  go_ret
  exact ⟨rfl, rfl⟩

theorem refFirst_ahead {a b : EntD} (k : Int) {p q : Bool} (hp : p = true ↔ a.kind = k) (hq : q = true ↔ b.kind = k) (w : World) : Calls Tryz.prog 85 #[.bool p, .bool q] w fun e w' => e = .returned (.int .i64 (aheadS a b k)) ∧ w' = w := by
 have h := refFirst_any p q w
 have e : cmpI (if p = true then 0 else 1) (if q = true then 0 else 1) = aheadS a b k := by
  unfold aheadS mark
  by_cases h1 : a.kind = k <;> by_cases h2 : b.kind = k <;> simp [h1, h2, hp, hq]
 rw [e] at h
 exact h

end Go.Proofs.YtchebhafabhabaaGreatDoor

namespace Go.Proofs.YtchebhafabhabaaGreatDoor
open Go.RowKit
set_option linter.unusedVariables false

set_option maxRecDepth 100000 in
set_option maxHeartbeats 8000000 in
theorem refCompare_any {a b : EntD} {w : World} (ha : EntD.Ok w a) (hb : EntD.Ok w b) :
  Calls Tryz.prog 48 #[.agg a.cells, .agg b.cells] w fun r w' => r = .returned (.int .i64 (compareS a b)) ∧ Below w.heap.size w w' := by
 have A1 := (Below.refl w.heap.size w).alloc (Nat.le_refl _) (.cells a.cells 40)
 have A2 := A1.alloc A1.size (.cells b.cells 40)
 have bxa0 := (EBox.new w a).later ((Below.refl (w.alloc (.cells a.cells 40)).heap.size (w.alloc (.cells a.cells 40))).alloc (Nat.le_refl _) (.cells b.cells 40))
 have bxb0 := EBox.new (w.alloc (.cells a.cells 40)) b
 rw [World.size_alloc] at bxb0
 have HX : Hid (EBox ((w.alloc (.cells a.cells 40)).alloc (.cells b.cells 40)) w.heap.size a ∧ EBox ((w.alloc (.cells a.cells 40)).alloc (.cells b.cells 40)) (w.heap.size + 1) b ∧ Below w.heap.size w ((w.alloc (.cells a.cells 40)).alloc (.cells b.cells 40))) := ⟨bxa0, bxb0, A2⟩
 have HA : Hid (EntD.Ok w a) := ha
 have HB : Hid (EntD.Ok w b) := hb
 have HCS : Hid (compareS a b = firstNZ (cmpsS a b)) := rfl
 clear A1 A2 bxa0 bxb0 ha hb
 simp only [EntD.cells] at HX ⊢
 obtain ⟨W, hW⟩ : ∃ W, W = ((w.alloc (.cells #[a.vr, .int .i64 a.fam, a.vq, .int .i64 a.ts, .int .i64 a.seq, .int .i64 a.kind, a.vv] 40)).alloc (.cells #[b.vr, .int .i64 b.fam, b.vq, .int .i64 b.ts, .int .i64 b.seq, .int .i64 b.kind, b.vv] 40)) := ⟨_, rfl⟩
 rw [← hW] at HX
 have KS : Hid (∀ wx, Below W.heap.size W wx → (wx.cell? ⟨w.heap.size, 0, none⟩ = some a.vr ∧ wx.cell? ⟨w.heap.size, 1, none⟩ = some (.int .i64 a.fam) ∧ wx.cell? ⟨w.heap.size, 2, none⟩ = some a.vq ∧ wx.cell? ⟨w.heap.size, 3, none⟩ = some (.int .i64 a.ts) ∧ wx.cell? ⟨w.heap.size, 4, none⟩ = some (.int .i64 a.seq) ∧ wx.cell? ⟨w.heap.size, 5, none⟩ = some (.int .i64 a.kind)) ∧ (wx.cell? ⟨w.heap.size + 1, 0, none⟩ = some b.vr ∧ wx.cell? ⟨w.heap.size + 1, 1, none⟩ = some (.int .i64 b.fam) ∧ wx.cell? ⟨w.heap.size + 1, 2, none⟩ = some b.vq ∧ wx.cell? ⟨w.heap.size + 1, 3, none⟩ = some (.int .i64 b.ts) ∧ wx.cell? ⟨w.heap.size + 1, 4, none⟩ = some (.int .i64 b.seq) ∧ wx.cell? ⟨w.heap.size + 1, 5, none⟩ = some (.int .i64 b.kind))) := fun wx h => by
  have e1 := HX.out.1.later h
  have e2 := HX.out.2.1.later h
  exact ⟨⟨e1.vr, e1.fam, e1.vq, e1.ts, e1.seq, e1.kind⟩, ⟨e2.vr, e2.fam, e2.vq, e2.ts, e2.seq, e2.kind⟩⟩
 have D0 : Below W.heap.size W W.drew := (Below.refl _ _).drew
 have RA : Hid (∀ wx, Below W.heap.size W wx → EntD.Ok wx a ∧ EntD.Ok wx b) := fun wx h => ⟨(HA.out.later HX.out.2.2).later h, (HB.out.later HX.out.2.2).later h⟩
 go_enter Tryz.func48, Tryz.ntmps48
 go_wp2_with fail
 rw [← hW]
 clear hW
 go_region_held3 (fun wx => (wx.cell? ⟨w.heap.size, 0, none⟩ = some a.vr ∧ wx.cell? ⟨w.heap.size, 1, none⟩ = some (.int .i64 a.fam) ∧ wx.cell? ⟨w.heap.size, 2, none⟩ = some a.vq ∧ wx.cell? ⟨w.heap.size, 3, none⟩ = some (.int .i64 a.ts) ∧ wx.cell? ⟨w.heap.size, 4, none⟩ = some (.int .i64 a.seq) ∧ wx.cell? ⟨w.heap.size, 5, none⟩ = some (.int .i64 a.kind)) ∧ (wx.cell? ⟨w.heap.size + 1, 0, none⟩ = some b.vr ∧ wx.cell? ⟨w.heap.size + 1, 1, none⟩ = some (.int .i64 b.fam) ∧ wx.cell? ⟨w.heap.size + 1, 2, none⟩ = some b.vq ∧ wx.cell? ⟨w.heap.size + 1, 3, none⟩ = some (.int .i64 b.ts) ∧ wx.cell? ⟨w.heap.size + 1, 4, none⟩ = some (.int .i64 b.seq) ∧ wx.cell? ⟨w.heap.size + 1, 5, none⟩ = some (.int .i64 b.kind)))
  (first | exact KS.out _ D0 | exact KS.out _ DD1 | exact KS.out _ DD2 | exact KS.out _ (DD2.alloc DD2.size _))
  (first
   | (go_at_call 84; refine (refNumber_any _ _ _).mono ?_; rintro e wn ⟨rfl, rfl⟩)
   | (go_at_call 85; have _t := T5.out; refine (refFirst_ahead (a := a) (b := b) 4 (by simp) (by simp) _).mono ?_; rintro e wn ⟨rfl, rfl⟩)
   | (go_at_call 85; refine (refFirst_ahead (a := a) (b := b) 5 (by simp) (by simp) _).mono ?_; rintro e wn ⟨rfl, rfl⟩; have T5 : Hid True := trivial)
   | (go_at_call 72; refine (refBytesOrd_any (RA.out _ DD1).1.2.1 (RA.out _ DD1).2.2.1).mono ?_; rintro e4 w4 ⟨rfl, hb4⟩; have DD2 := DD1.trans (hb4.mono DD1.size))
   | (go_at_call 72; refine (refBytesOrd_any (RA.out _ D0).1.1 (RA.out _ D0).2.1).mono ?_; rintro e3 w3 ⟨rfl, hb3⟩; have DD1 := D0.trans (hb3.mono D0.size)))
 have DW := HX.out.2.2.trans (DD2.mono HX.out.2.2.size)
 have DA := DW.alloc DW.size (.cells #[.int .i64 (ordC a.row b.row), .int .i64 (cmpI a.fam b.fam), .int .i64 (aheadS a b 5), .int .i64 (ordC a.qual b.qual), .int .i64 (aheadS a b 4), .int .i64 (cmpI b.ts a.ts), .int .i64 (cmpI b.seq a.seq), .int .i64 (cmpI a.kind b.kind)] 3)
 obtain ⟨U, hU⟩ : ∃ U, U = wn.alloc (.cells #[.int .i64 (ordC a.row b.row), .int .i64 (cmpI a.fam b.fam), .int .i64 (aheadS a b 5), .int .i64 (ordC a.qual b.qual), .int .i64 (aheadS a b 4), .int .i64 (cmpI b.ts a.ts), .int .i64 (cmpI b.seq a.seq), .int .i64 (cmpI a.kind b.kind)] 3) := ⟨_, rfl⟩
 have HCL : Hid (∀ t, t < 8 → U.cell? ⟨wn.heap.size, t, none⟩ = some (.int .i64 ((cmpsS a b).getD t 0))) := fun t ht => by
  have hh : U.heap[wn.heap.size]? = some (.cells #[.int .i64 (ordC a.row b.row), .int .i64 (cmpI a.fam b.fam), .int .i64 (aheadS a b 5), .int .i64 (ordC a.qual b.qual), .int .i64 (aheadS a b 4), .int .i64 (cmpI b.ts a.ts), .int .i64 (cmpI b.seq a.seq), .int .i64 (cmpI a.kind b.kind)] 3) := by rw [hU]; exact heap_new wn _
  have hc : ∀ j, U.cell? ⟨wn.heap.size, j, none⟩ = (#[.int .i64 (ordC a.row b.row), .int .i64 (cmpI a.fam b.fam), .int .i64 (aheadS a b 5), .int .i64 (ordC a.qual b.qual), .int .i64 (aheadS a b 4), .int .i64 (cmpI b.ts a.ts), .int .i64 (cmpI b.seq a.seq), .int .i64 (cmpI a.kind b.kind)] : Array Value)[j]? := fun j => by simp [World.cell?, hh]
  rw [hc]
  match t, ht with
  | 0, _ => rfl
  | 1, _ => rfl
  | 2, _ => rfl
  | 3, _ => rfl
  | 4, _ => rfl
  | 5, _ => rfl
  | 6, _ => rfl
  | 7, _ => rfl
 rw [← hU] at DA ⊢
 have HDA := Lib.hid DA
 have HLL : Hid ((cmpsS a b).length = 8) := rfl
 obtain ⟨l, hl⟩ : ∃ l, l = cmpsS a b := ⟨_, rfl⟩
 rw [← hl] at HCL HLL HCS
 obtain ⟨G, hG⟩ : ∃ G, G = wn.heap.size := ⟨_, rfl⟩
 rw [← hG] at HCL ⊢
 clear DA DW hU DD1 DD2 KS RA D0 HX HA HB hl hG
 rename_i hXX
 clear hXX
 go_wp2
 go_loopw [6] (fun i wr => ∃ t : Nat, t ≤ 8 ∧ i = .int .i64 (t : Int) ∧ Hid (∀ j, j < t → l.getD j 0 = 0) ∧ wr = U) (fun i _ => 8 - (intOf i).toNat)
 case atStart => exact ⟨0, by omega, rfl, fun j hj => by omega, rfl⟩
 case round =>
  obtain ⟨t, ht, rfl, hz, rfl⟩ := hrel
  by_cases hlt : t < 8
  ·have hlt2 : (t : Int) < 8 := by omega
   have ht0 : (0 : Int) ≤ (t : Int) := by omega
   have ct := HCL.out t hlt
   obtain ⟨v, hv⟩ : ∃ v, v = l.getD t 0 := ⟨_, rfl⟩
   rw [← hv] at ct
   have HV := Lib.hid hv
   clear hv
   by_cases h0 : v = 0
   ·subst h0
    go_wp2
    go_roundw
    case rel => exact ⟨t + 1, by omega, by go_num, fun j hj => by
     by_cases hjt : j = t
     ·subst hjt; exact HV.out.symm
     ·exact hz.out j (by omega), trivial⟩
    case measure => simp [intOf]; omega
   ·have h1 : (v != 0) = true := by simpa using h0
    have h2 : (v == 0) = false := by simpa using h0
    have HR : Hid (compareS a b = v) := by unfold Hid; rw [HCS.out, firstNZ_at l t hz.out (by rw [← HV.out]; exact h0)]; exact HV.out.symm
    go_wp2
    go_ret
    rw [HR.out]
    exact ⟨rfl, HDA.out⟩
  ·have hge : (8 : Int) ≤ (t : Int) := by omega
   obtain rfl : t = 8 := by omega
   have HR : Hid (compareS a b = 0) := by unfold Hid; rw [HCS.out]; exact firstNZ_none l (fun j hj => hz.out j (by rw [HLL.out] at hj; exact hj))
   go_wp2
   go_ret
   rw [HR.out]
   exact ⟨rfl, HDA.out⟩

end Go.Proofs.YtchebhafabhabaaGreatDoor

namespace Go.Proofs.YtchebhafabhabaaGreatDoor
open Go.RowKit
set_option linter.unusedVariables false

end Go.Proofs.YtchebhafabhabaaGreatDoor

namespace Go.Proofs.YtchebhafabhabaaGreatDoor
open Go.RowKit
set_option linter.unusedVariables false

end Go.Proofs.YtchebhafabhabaaGreatDoor

namespace Go.Proofs.YtchebhafabhabaaGreatDoor
open Go.RowKit
set_option linter.unusedVariables false

end Go.Proofs.YtchebhafabhabaaGreatDoor

namespace Go.Proofs.YtchebhafabhabaaGreatDoor
open Go.RowKit
set_option linter.unusedVariables false

end Go.Proofs.YtchebhafabhabaaGreatDoor

namespace Go.Proofs.YtchebhafabhabaaGreatDoor
open Go.RowKit
set_option linter.unusedVariables false

end Go.Proofs.YtchebhafabhabaaGreatDoor

namespace Go.Proofs.YtchebhafabhabaaGreatDoor
open Go.RowKit
set_option linter.unusedVariables false

end Go.Proofs.YtchebhafabhabaaGreatDoor

namespace Go.Proofs.YtchebhafabhabaaGreatDoor
open Go.RowKit
set_option linter.unusedVariables false

end Go.Proofs.YtchebhafabhabaaGreatDoor

namespace Go.Proofs.YtchebhafabhabaaGreatDoor
open Go.RowKit
set_option linter.unusedVariables false

structure KeysMid (w0 w : World) (q1 q2 : Nat) (D1 D2 : EntD) (K P : List Nat) (b1 b2 b3 b4 b5 : Nat) (vb vw vp vv : Value) (mb mw mp mv : Nat) : Prop where
 e1 : EBox w q1 D1
 e2 : EBox w q2 D2
 l1 : LaidE w w0.heap.size D1
 l2 : LaidE w w0.heap.size D2
 n1 : ∀ g, D1.vr.ownBlock = some g ∨ D1.vq.ownBlock = some g ∨ D1.vv.ownBlock = some g → g < b1
 n2 : ∀ g, D2.vr.ownBlock = some g ∨ D2.vq.ownBlock = some g ∨ D2.vv.ownBlock = some g → g < b1
 ob : Own w b1 vb mb K
 ow : Own w b2 vw mw K
 op : Own w b3 vp mp P
 ov : Own w b4 vv mv P
 ib : ∀ g, vb.ownBlock = some g → b1 ≤ g ∧ g < b2
 iw : ∀ g, vw.ownBlock = some g → b2 ≤ g ∧ g < b3
 ip : ∀ g, vp.ownBlock = some g → b3 ≤ g ∧ g < b4
 iv : ∀ g, vv.ownBlock = some g → b4 ≤ g ∧ g < b5
 bs : w0.heap.size ≤ b1 ∧ b1 ≤ b2 ∧ b2 ≤ b3 ∧ b3 ≤ b4 ∧ b4 ≤ b5 ∧ b5 ≤ w.heap.size
 bel : Below w0.heap.size w0 w
end Go.Proofs.YtchebhafabhabaaGreatDoor

namespace Go.Proofs.YtchebhafabhabaaGreatDoor
open Go.RowKit
set_option linter.unusedVariables false

def Det (bs : List Nat) (D : EntD) (E : Nat) : Prop := (E = 0 ∧ checkS D = 0 ∧ keyL D = bs ∧ D.val = []) ∨ (¬ IsKey bs ∧ E = 27 ∧ D.fam = 0 ∧ D.ts = 0 ∧ D.seq = 0 ∧ D.kind = 0 ∧ D.row = [] ∧ D.qual = [] ∧ D.val = [])
structure OwnE (w : World) (b : Nat) (D : EntD) : Prop where
 br : Bys D.row ∧ D.row.length ≤ 256
 bq : Bys D.qual ∧ D.qual.length ≤ 256
 vv : D.vv = .slice none 0 0 ∧ D.val = []
 row : Own w b D.vr D.row.length D.row
 qual : Own w b D.vq D.qual.length D.qual
 apart : ∀ k, D.vr.ownBlock = some k → D.vq.ownBlock ≠ some k
end Go.Proofs.YtchebhafabhabaaGreatDoor

namespace Go.Proofs.YtchebhafabhabaaGreatDoor
open Go.RowKit
set_option linter.unusedVariables false

def ZeroD (D : EntD) : Prop := D.fam = 0 ∧ D.ts = 0 ∧ D.seq = 0 ∧ D.kind = 0 ∧ D.row = [] ∧ D.qual = [] ∧ D.val = []
def UDet (K V : List Nat) (E1 P2 E2 : Nat) (D : EntD) (P E : Nat) : Prop :=
 (E1 = 0 ∧ E2 = 0 ∧ checkS D = 0 ∧ D.val = V ∧ keyL D = K ∧ P = P2 ∧ E = 0) ∨
 (ZeroD D ∧ P = 0 ∧ ((E1 ≠ 0 ∧ E = E1) ∨ (E1 = 0 ∧ ¬ IsKey K ∧ E = 29) ∨ (E1 = 0 ∧ IsKey K ∧ E2 ≠ 0 ∧ E = E2) ∨ (E1 = 0 ∧ IsKey K ∧ E2 = 0 ∧ (¬ ∃ D : EntD, checkS D = 0 ∧ D.val = V ∧ keyL D = K) ∧ E = 29)))
structure OwnV (w : World) (b : Nat) (D : EntD) : Prop where
 br : Bys D.row ∧ D.row.length ≤ 256
 bq : Bys D.qual ∧ D.qual.length ≤ 256
 bv : Bys D.val ∧ D.val.length ≤ 4096
 row : Own w b D.vr D.row.length D.row
 qual : Own w b D.vq D.qual.length D.qual
 val : Own w b D.vv D.val.length D.val
 arq : ∀ k, D.vr.ownBlock = some k → D.vq.ownBlock ≠ some k
 arv : ∀ k, D.vr.ownBlock = some k → D.vv.ownBlock ≠ some k
 aqv : ∀ k, D.vq.ownBlock = some k → D.vv.ownBlock ≠ some k
end Go.Proofs.YtchebhafabhabaaGreatDoor

namespace Go.Proofs.YtchebhafabhabaaGreatDoor
open Go.RowKit
set_option linter.unusedVariables false

def ApE (D : EntD) : Prop := (∀ g, D.vr.ownBlock = some g → D.vq.ownBlock ≠ some g) ∧ (∀ g, D.vr.ownBlock = some g → D.vv.ownBlock ≠ some g) ∧ (∀ g, D.vq.ownBlock = some g → D.vv.ownBlock ≠ some g)
def Within (D : EntD) (lo hi : Nat) : Prop := ∀ g, D.vr.ownBlock = some g ∨ D.vq.ownBlock = some g ∨ D.vv.ownBlock = some g → lo ≤ g ∧ g < hi
end Go.Proofs.YtchebhafabhabaaGreatDoor

namespace Go.Proofs.YtchebhafabhabaaGreatDoor
open Go.RowKit
set_option linter.unusedVariables false

def RowS (w : World) (B : Nat) (v : Value) (n : Nat) (vs : List Value) : Prop := n = vs.length ∧ (∀ u ∈ vs, u.oneCell' = true) ∧ w.ownsRow B 36 1 v n vs
theorem RowS.later {w w' : World} {B n : Nat} {v : Value} {vs : List Value} (h : RowS w B v n vs) (hb : Below w.heap.size w w') : RowS w' B v n vs := by
 refine ⟨h.1, h.2.1, h.2.2.1, ?_⟩
 rcases h.2.2.2 with h2 | ⟨g, cap, cur, h3, h4, h5, h6⟩
 ·exact .inl h2
 ·exact .inr ⟨g, cap, cur, h3, h4, by rw [hb.block g (Array.getElem?_eq_some_iff.1 h5).1]; exact h5, h6⟩
theorem rows_form {w : World} {B n : Nat} {v : Value} {xs : List Value} (h : w.ownsRow B 36 1 v n xs) : ∃ a c, v = .slice a n c := by
 rcases h.2 with ⟨rfl, rfl⟩ | ⟨g, cap, cur, rfl, _⟩
 ·exact ⟨_, _, rfl⟩
 ·exact ⟨_, _, rfl⟩
theorem info_parts1 : (Tryz.prog.info? 36).map (fun i => (i.zero, i.size, i.bytes)) = some (some (.slice none 0 0), 1, 24) := by kernel_rfl
theorem append_row {w : World} {B n : Nat} {v u : Value} {vs : List Value} (ty : TypeId) (hown : RowS w B v n vs) (hu : u.oneCell' = true) (hbytes : n + 1 ≤ 1000000) (hB : B ≤ w.heap.size) :
  ∃ v' w', (Builtin.append_ #[35, 35] ty #[v, .slice (some ⟨w.heap.size, 0, none⟩) 1 1]).run Tryz.prog (w.alloc (.cells #[u] 36)) = .ok v' w' ∧ RowS w' B v' (n + 1) (vs ++ [u]) ∧ w.grownBy w' v.ownBlock ∧ (v'.ownBlock = v.ownBlock ∨ ∀ g, v'.ownBlock = some g → w.heap.size ≤ g) := by
 obtain ⟨i0, hi, hz0, hz1, hz2⟩ := info_parts info_parts1
 obtain ⟨W, hW⟩ : ∃ W, W = w.alloc (.cells #[u] 36) := ⟨_, rfl⟩
 have hsW : W.heap.size = w.heap.size + 1 := by rw [hW]; simp
 have hnews : ∀ j x, ([u] : List Value)[j]? = some x → W.cell? ((⟨w.heap.size, 0, none⟩ : Addr).add j) = some x := by
  intro j x hj
  have hh : W.heap[w.heap.size]? = some (.cells #[u] 36) := by rw [hW]; exact heap_new w _
  cases j with
  | zero =>
   simp at hj
   subst hj
   simp [World.cell?, Addr.add, hh]
  | succ j => simp at hj
 have hownW : W.ownsRow B 36 1 v n vs := by rw [hW]; exact hown.2.2.alloc _
 have h1 : ∀ x ∈ ([u] : List Value), x.oneCell' = true := by intro x hx; simp at hx; subst hx; exact hu
 obtain ⟨v', w', hr, h2, h3, _⟩ := run_append_own (P := Tryz.prog) W B 35 ty 36 i0 (.slice none 0 0) 1 24 und_parts hi hz0 hz1 hz2 rfl (by decide) v n vs hownW ⟨w.heap.size, 0, none⟩ 1 1 [u] (by simp) hnews h1 (by unfold maxLen; omega) (by omega) (by omega)
 have o2 : RowS w' B v' (n + 1) (vs ++ [u]) := ⟨by rw [hown.1]; simp, fun x hx => by rcases List.mem_append.1 hx with h | h; exact hown.2.1 x h; exact h1 x h, h2⟩
 have g2 : w.grownBy w' v.ownBlock := grown_trans (by rw [hW]; exact grown_alloc w _ _) h3 (.inl rfl)
 rw [hW] at hr
 refine ⟨v', w', hr, o2, g2, ?_⟩
 rw [← hW] at hr
 rcases hownW.2 with ⟨rfl, h0⟩ | ⟨g, cap, cur, rfl, hg1, hg2, hg3, hg4, hg5, hg6⟩
 ·subst h0
  have hr2 := run_append_nil (P := Tryz.prog) W 35 ty 36 i0 (.slice none 0 0) und_parts hi hz0 ⟨w.heap.size, 0, none⟩ 1 1 [u] (by rw [hz1]; simp) hnews (by decide) (by decide) (by rw [hz2]; decide)
  rw [hr] at hr2
  injection hr2 with e1 e2
  subst e1
  refine .inr fun g hg => ?_
  simp [Value.ownBlock] at hg
  omega
 ·by_cases hroom : n + 1 ≤ cap
  ·obtain ⟨w2, hr2, k2, _⟩ := run_append_own_spare (P := Tryz.prog) W B 35 ty 36 i0 1 und_parts hi hz1 g n cap vs hownW ⟨w.heap.size, 0, none⟩ 1 1 [u] (by simp) hnews h1 hroom
   rw [hr] at hr2
   injection hr2 with e1 e2
   subst e1
   exact .inl rfl
  ·have holds : ∀ j x, vs[j]? = some x → W.cell? ((⟨g, 0, none⟩ : Addr).add j) = some x := hownW.cells (g := g) rfl
   have hr2 := run_append_grow (P := Tryz.prog) W 35 ty 36 i0 (.slice none 0 0) und_parts hi hz0 ⟨g, 0, none⟩ n cap vs (by rw [hz1, ← hown.1]; omega) holds ⟨w.heap.size, 0, none⟩ 1 1 [u] (by rw [hz1]; simp) hnews (by omega) (by omega) (by rw [hz2]; exact growslice_fits (by omega) (by omega))
   rw [hr] at hr2
   injection hr2 with e1 e2
   subst e1
   refine .inr fun x hx => ?_
   simp [Value.ownBlock] at hx
   omega
theorem wpList_append_one {w : World} {ops : Array Oper} {rest : List Oper} {o : Oper} {a : Act} {Q : Exit → Act → World → Prop} (hgd : o.guard = none) (s x : Operand)
  (ho : o.op = .call { callee := .builtin .append, args := #[s, x], argTypes := #[35, 35] })
  (B : Nat) (a0 : Option Addr) (m0 c0 : Nat) (vs : List Value) (hs : a.eval s = .slice a0 m0 c0) (hown : RowS w B (.slice a0 m0 c0) m0 vs)
  (u : Value) (hu : u.oneCell' = true) (hx : a.eval x = .slice (some ⟨w.heap.size, 0, none⟩) 1 1)
  (hbytes : m0 + 1 ≤ 1000000) (hB : B ≤ w.heap.size)
  (h : ∀ a' c' w', RowS w' B (.slice a' (m0 + 1) c') (m0 + 1) (vs ++ [u]) → w.grownBy w' (Value.slice a0 m0 c0).ownBlock → ((Value.slice a' (m0 + 1) c').ownBlock = (Value.slice a0 m0 c0).ownBlock ∨ ∀ g, (Value.slice a' (m0 + 1) c').ownBlock = some g → w.heap.size ≤ g) → wpList Tryz.prog ops Q rest (a.put o.dst (.slice a' (m0 + 1) c')) w') : wpList Tryz.prog ops Q (o :: rest) a (w.alloc (.cells #[u] 36)) := by
 obtain ⟨v', w', hr, h1, h2, h3⟩ := append_row o.type hown hu hbytes hB
 obtain ⟨a', c', rfl⟩ := rows_form h1.2.2
 refine wpList_plain hgd fun K hK => ?_
 unfold Oper.wp execOp
 simp only [ho, resolve, invoke, builtin, Sem.run_bind, Sem.run_pure, Result.andThen_ok, List.map_toArray, List.map_cons, List.map_nil, hs, hx, hr]
 exact hK _ _ (h a' c' w' h1 h2 h3)
end Go.Proofs.YtchebhafabhabaaGreatDoor

namespace Go.Proofs.YtchebhafabhabaaGreatDoor
open Go.RowKit
set_option linter.unusedVariables false

def KBox (w : World) (g : Nat) (vL vW : Value) : Prop := w.heap[g]? = some (.cells #[vL, vW] 83 (0, 0))
theorem KBox.later {w w' : World} {g : Nat} {vL vW : Value} (h : KBox w g vL vW) (hb : Below w.heap.size w w') : KBox w' g vL vW := by
 unfold KBox at *
 rw [hb.block g (Array.getElem?_eq_some_iff.1 h).1]; exact h
theorem KBox.l {w : World} {g : Nat} {vL vW : Value} (h : KBox w g vL vW) : w.cell? ⟨g, 0, none⟩ = some vL := by unfold KBox at h; simp [World.cell?, h]
theorem KBox.w {w : World} {g : Nat} {vL vW : Value} (h : KBox w g vL vW) : w.cell? ⟨g, 1, none⟩ = some vW := by unfold KBox at h; simp [World.cell?, h]
theorem KBox.fz {w : World} {g : Nat} {vL vW : Value} (h : KBox w g vL vW) (i : Nat) : w.frozen? ⟨g, i, none⟩ = false := by unfold KBox at h; simp [World.frozen?, h]
theorem KBox.setL {w : World} {g : Nat} {vL vW : Value} (h : KBox w g vL vW) (x : Value) : KBox (w.setCell ⟨g, 0, none⟩ x) g x vW := by
 unfold KBox at *; simp [World.setCell, Array.getElem?_modify, h]
theorem KBox.setW {w : World} {g : Nat} {vL vW : Value} (h : KBox w g vL vW) (x : Value) : KBox (w.setCell ⟨g, 1, none⟩ x) g vL x := by
 unfold KBox at *; simp [World.setCell, Array.getElem?_modify, h]
theorem KBox.far {w w' : World} {g : Nat} {vL vW : Value} {o : Option Nat} (h : KBox w g vL vW) (k : w.grownBy w' o) (hne : ∀ x, o = some x → g ≠ x) : KBox w' g vL vW := by
 unfold KBox at *
 rw [k.block g (Array.getElem?_eq_some_iff.1 h).1 (fun e => hne g e.symm rfl)]
 exact h
theorem kbox_own {w : World} {B m g x : Nat} {v vL vW : Value} {xs : List Nat} (h : KBox w g vL vW) (o : Own w B v m xs) (hx : v.ownBlock = some x) : g ≠ x := by
 rintro rfl
 rcases o.2.2 with ⟨h1, _⟩ | ⟨g2, cap, cur, h3, _, h5, _⟩
 ·rw [h1] at hx; cases hx
 ·rw [h3] at hx
  simp only [Value.ownBlock, Option.some.injEq] at hx
  subst hx
  unfold KBox at h
  rw [h5] at h
  simp at h
theorem kbox_row {w : World} {B m g x : Nat} {v vL vW : Value} {vs : List Value} (h : KBox w g vL vW) (o : RowS w B v m vs) (hx : v.ownBlock = some x) : g ≠ x := by
 rintro rfl
 rcases o.2.2.2 with ⟨h1, _⟩ | ⟨g2, cap, cur, h3, _, h5, _⟩
 ·rw [h1] at hx; cases hx
 ·rw [h3] at hx
  simp only [Value.ownBlock, Option.some.injEq] at hx
  subst hx
  unfold KBox at h
  rw [h5] at h
  simp at h
theorem row_own {w : World} {B B' m n g : Nat} {u v : Value} {vs : List Value} {xs : List Nat} (h : RowS w B u m vs) (o : Own w B' v n xs) (hu : u.ownBlock = some g) : v.ownBlock ≠ some g := by
 intro hv
 rcases h.2.2.2 with ⟨h1, _⟩ | ⟨g2, cap, cur, h3, _, h5, _⟩
 ·rw [h1] at hu; cases hu
 ·rcases o.2.2 with ⟨k1, _⟩ | ⟨g4, cap4, cur4, k3, _, k5, _⟩
  ·rw [k1] at hv; cases hv
  ·rw [h3] at hu
   rw [k3] at hv
   simp only [Value.ownBlock, Option.some.injEq] at hu hv
   subst hu hv
   rw [h5] at k5
   simp at k5
theorem RowS.far {w w' : World} {B m : Nat} {v : Value} {o : Option Nat} {vs : List Value} (h : RowS w B v m vs) (k : w.grownBy w' o) (hne : ∀ g, o = some g → v.ownBlock ≠ some g) : RowS w' B v m vs := by
 refine ⟨h.1, h.2.1, h.2.2.1, ?_⟩
 rcases h.2.2.2 with h2 | ⟨g, cap, cur, h3, h4, h5, h6⟩
 ·exact .inl h2
 ·refine .inr ⟨g, cap, cur, h3, h4, ?_, h6⟩
  rw [k.block g (Array.getElem?_eq_some_iff.1 h5).1 ?_]
  ·exact h5
  ·intro e
   exact hne g e.symm (by rw [h3]; rfl)
theorem set_grown (w : World) (g i : Nat) (x : Value) : w.grownBy (w.setCell ⟨g, i, none⟩ x) (some g) := by
 have a := apart_set w g i x
 exact ⟨a.os, a.tape, a.output, a.size, fun j hj hne => a.block j hj (fun e => hne (by rw [e]))⟩

end Go.Proofs.YtchebhafabhabaaGreatDoor

namespace Go.Proofs.YtchebhafabhabaaGreatDoor
open Go.RowKit
set_option linter.unusedVariables false

set_option maxRecDepth 100000 in
theorem wp_call_copied {a : Act} {w : World} {K : Act → World → Prop} {Q : Exit → Act → World → Prop} {d : Option Nat} {ps : String} {af : Array Edge} {x : Nat} {v : Value} {R : Ending → World → Prop} (hc : Calls Tryz.prog 81 #[v] w R) (hx : a.tmps[x]?.getD undef = v) (h : ∀ r w', R r w' → ∃ u, r = .returned u ∧ K (a.put d u) w') :
  Oper.wp Tryz.prog { dst := d, op := Op.call { callee := Callee.value (Operand.func 81), args := #[Operand.tmp x], argTypes := #[36] }, type := 36, pos := ps, after := af, guard := none } a w K Q := by
 go_simp
 refine hc.mono ?_
 intro r w' hr
 obtain ⟨u, rfl, hk⟩ := h r w' hr
 exact hk
end Go.Proofs.YtchebhafabhabaaGreatDoor

namespace Go.Proofs.YtchebhafabhabaaGreatDoor
open Go.RowKit
set_option linter.unusedVariables false

structure TurnD where
 k : Int
 a : Int
 b : Int
def RdT (w : World) (v : Value) (ts : List TurnD) : Prop := ∃ a cap, v = .slice a ts.length cap ∧ ts.length ≤ cap ∧ cap ≤ maxLen ∧ ts.length ≤ 281474976710656 ∧ (ts = [] ∨ ∃ b off, a = some ⟨b, off, none⟩ ∧ ∀ i f, ts[i]? = some f → w.cell? ⟨b, off + i * 3, none⟩ = some (.int .i64 f.k) ∧ w.cell? ⟨b, off + i * 3 + 1, none⟩ = some (.int .i64 f.a) ∧ w.cell? ⟨b, off + i * 3 + 2, none⟩ = some (.int .i64 f.b))
structure Ag (w wr : World) (o : EntD) (qi qf : Nat) (vb : Value) (I Fd : EntD) (bs : List Nat) : Prop where
 ei : EBox wr qi I
 ef : EBox wr qf Fd
 eo : EBox wr (w.heap.size + 1) o
 li : LaidE wr w.heap.size I
 lf : LaidE wr w.heap.size Fd
 lb : Laid wr w.heap.size vb bs
 fi : EntD.Fine I
 hb : Bys bs ∧ bs.length ≤ 5000
 bel : Below w.heap.size w wr
end Go.Proofs.YtchebhafabhabaaGreatDoor

namespace Go.Proofs.YtchebhafabhabaaGreatDoor
open Go.RowKit
set_option linter.unusedVariables false
set_option maxRecDepth 100000 in
theorem move_any {a : Act} {w : World} {x ty : Nat} {v : Value} {d : Option Nat} {ps : String} {af : Array Edge} (hx : a.tmps[x]?.getD undef = v) :
  (execOp a.eval { dst := d, op := Op.move (Operand.tmp x), type := ty, pos := ps, after := af, guard := none }).run Tryz.prog w = .ok (.value v) w := by
 go_simp
def again3Act (s0 s1 s2 s3 s4 s6 s7 s10 s11 s12 s13 s14 s15 s16 s17 s18 s19 s20 s21 s22 s23 s24 s25 s26 s27 s28 s29 s30 s31 s32 s33 s34 s35 s36 s37 s38 s39 s40 s41 s42 s43 s44 s45 s46 s47 s48 s49 s50 s51 s52 s53 s54 s55 s56 s57 s58 s59 s60 s61 s62 s63 s64 s65 s66 s67 s68 s69 s70 s71 s72 s73 s74 s75 s76 s77 s78 s79 s80 s81 s82 s83 s84 s85 s86 s87 s88 s89 s90 s91 s92 s93 s94 s95 s96 s97 s98 s99 s100 s101 s102 s103 s104 s105 s106 s107 s108 s109 s110 s111 s112 s113 s114 s115 s116 s117 s118 s119 s120 s121 s122 s123 v124 v125 v126 v127 v128 v129 v130 : Value) : Act := ⟨#[s0, s1, s2, s3, s4, undef, s6, s7, undef, undef, s10, s11, s12, s13, s14, s15, s16, s17, s18, s19, s20, s21, s22, s23, s24, s25, s26, s27, s28, s29, s30, s31, s32, s33, s34, s35, s36, s37, s38, s39, s40, s41, s42, s43, s44, s45, s46, s47, s48, s49, s50, s51, s52, s53, s54, s55, s56, s57, s58, s59, s60, s61, s62, s63, s64, s65, s66, s67, s68, s69, s70, s71, s72, s73, s74, s75, s76, s77, s78, s79, s80, s81, s82, s83, s84, s85, s86, s87, s88, s89, s90, s91, s92, s93, s94, s95, s96, s97, s98, s99, s100, s101, s102, s103, s104, s105, s106, s107, s108, s109, s110, s111, s112, s113, s114, s115, s116, s117, s118, s119, s120, s121, s122, s123, v124, v125, v126, v127, v128, v129, v130, undef], []⟩

end Go.Proofs.YtchebhafabhabaaGreatDoor

namespace Go.Proofs.YtchebhafabhabaaGreatDoor
open Go.RowKit
set_option linter.unusedVariables false

set_option maxRecDepth 100000 in
theorem nil_ok {a : Act} {w : World} {x g : Nat} {d : Option Nat} {ps : String} {af : Array Edge} (hx : a.tmps[x]?.getD undef = .pointer (some ⟨g, 0, none⟩)) :
  (execOp a.eval { dst := d, op := Op.nilCheck (Operand.tmp x), type := 0, pos := ps, after := af, guard := none }).run Tryz.prog w = .ok (.value (.pointer (some ⟨g, 0, none⟩))) w := by
 go_simp
set_option maxRecDepth 100000 in
theorem field_was {a : Act} {w : World} {x g : Nat} {d : Option Nat} {ps : String} {af : Array Edge} (hx : a.tmps[x]?.getD undef = .pointer (some ⟨g, 0, none⟩)) :
  (execOp a.eval { dst := d, op := Op.fieldAddr 83 (Operand.tmp x) 1, type := 0, pos := ps, after := af, guard := none }).run Tryz.prog w = .ok (.value (.pointer (some ⟨g, 1, none⟩))) w := by
 go_simp
set_option maxRecDepth 100000 in
theorem wp_load_row {a : Act} {w : World} {K : Act → World → Prop} {Q : Exit → Act → World → Prop} {p g : Nat} {v : Value} {d : Option Nat} {ps : String} {af : Array Edge} (h : w.cell? ⟨g, 1, none⟩ = some v) (hp : a.tmps[p]?.getD undef = .pointer (some ⟨g, 1, none⟩)) (hk : K (a.put d v) w) :
  Oper.wp Tryz.prog { dst := d, op := Op.load 35 (Operand.tmp p), type := 35, pos := ps, after := af, guard := none } a w K Q := by
 go_simp
 exact hk
set_option maxRecDepth 100000 in
theorem wp_build_one {a : Act} {w : World} {K : Act → World → Prop} {Q : Exit → Act → World → Prop} {p : Nat} {va : Option Addr} {vm vc : Nat} {d : Option Nat} {ps : String} {af : Array Edge} (hp : a.tmps[p]?.getD undef = .slice va vm vc) (hk : K (a.put d (.slice (some ⟨w.heap.size, 0, none⟩) 1 1)) (w.alloc (.cells #[.slice va vm vc] 36))) :
  Oper.wp Tryz.prog { dst := d, op := Op.buildSlice 35 1 #[(0, Operand.tmp p)], type := 35, pos := ps, after := af, guard := none } a w K Q := by
 go_simp
 exact hk
set_option maxRecDepth 100000 in
theorem wp_append_row {a : Act} {w : World} {K : Act → World → Prop} {Q : Exit → Act → World → Prop} {p q B n cW vm vc : Nat} {aW va : Option Addr} {ws : List Value} {d : Option Nat} {ps : String} {af : Array Edge} (hp : a.tmps[p]?.getD undef = .slice aW n cW) (hq : a.tmps[q]?.getD undef = .slice (some ⟨w.heap.size, 0, none⟩) 1 1) (hr : RowS w B (.slice aW n cW) n ws) (hn : n + 1 ≤ 1000000) (hB : B ≤ w.heap.size)
  (hk : ∀ a' c' w', RowS w' B (.slice a' (n + 1) c') (n + 1) (ws ++ [.slice va vm vc]) → w.grownBy w' (Value.slice aW n cW).ownBlock → ((Value.slice a' (n + 1) c').ownBlock = (Value.slice aW n cW).ownBlock ∨ ∀ g, (Value.slice a' (n + 1) c').ownBlock = some g → w.heap.size ≤ g) → K (a.put d (.slice a' (n + 1) c')) w') :
  Oper.wp Tryz.prog { dst := d, op := Op.call { callee := Callee.builtin Builtin.append, args := #[Operand.tmp p, Operand.tmp q], argTypes := #[35, 35] }, type := 35, pos := ps, after := af, guard := none } a (w.alloc (.cells #[.slice va vm vc] 36)) K Q := by
 obtain ⟨v', w', hrn, h1, h2, h3⟩ := append_row (u := .slice va vm vc) 35 hr rfl hn hB
 obtain ⟨a', c', rfl⟩ := rows_form h1.2.2
 have e1 : a.eval (Operand.tmp p) = .slice aW n cW := by simpa [Act.eval] using hp
 have e2 : a.eval (Operand.tmp q) = .slice (some ⟨w.heap.size, 0, none⟩) 1 1 := by simpa [Act.eval] using hq
 unfold Oper.wp execOp
 simp only [resolve, invoke, builtin, Sem.run_bind, Sem.run_pure, Result.andThen_ok, List.map_toArray, List.map_cons, List.map_nil, e1, e2, hrn]
 exact hk a' c' w' h1 h2 h3
set_option maxRecDepth 100000 in
theorem wp_nil {a : Act} {w : World} {K : Act → World → Prop} {Q : Exit → Act → World → Prop} {x g : Nat} {d : Option Nat} {ps : String} {af : Array Edge} (hx : a.tmps[x]?.getD undef = .pointer (some ⟨g, 0, none⟩)) (hk : K (a.put d (.pointer (some ⟨g, 0, none⟩))) w) :
  Oper.wp Tryz.prog { dst := d, op := Op.nilCheck (Operand.tmp x), type := 0, pos := ps, after := af, guard := none } a w K Q := by
 go_simp
 exact hk
set_option maxRecDepth 100000 in
theorem wp_field {a : Act} {w : World} {K : Act → World → Prop} {Q : Exit → Act → World → Prop} {x g : Nat} {d : Option Nat} {ps : String} {af : Array Edge} (hx : a.tmps[x]?.getD undef = .pointer (some ⟨g, 0, none⟩)) (hk : K (a.put d (.pointer (some ⟨g, 1, none⟩))) w) :
  Oper.wp Tryz.prog { dst := d, op := Op.fieldAddr 83 (Operand.tmp x) 1, type := 0, pos := ps, after := af, guard := none } a w K Q := by
 go_simp
 exact hk
set_option maxRecDepth 100000 in
theorem wp_store_row {a : Act} {w : World} {K : Act → World → Prop} {Q : Exit → Act → World → Prop} {p q g n c : Nat} {a' : Option Addr} {y : Value} {ps : String} {af : Array Edge} (hc : w.cell? ⟨g, 1, none⟩ = some y) (hf : w.frozen? ⟨g, 1, none⟩ = false) (hp : a.tmps[p]?.getD undef = .pointer (some ⟨g, 1, none⟩)) (hq : a.tmps[q]?.getD undef = .slice a' n c) (hk : K a (w.setCell ⟨g, 1, none⟩ (.slice a' n c))) :
  Oper.wp Tryz.prog { dst := none, op := Op.store 35 (Operand.tmp p) (Operand.tmp q), type := 0, pos := ps, after := af, guard := none } a w K Q := by
 go_simp
 exact hk

theorem cell_alloc1 {w : World} {p : Addr} {v : Value} {o : Obj} (h : w.cell? p = some v) : (w.alloc o).cell? p = some v := by
 rw [((Below.refl w.heap.size w).alloc (Nat.le_refl _) o).cell (World.block_lt_of_cell? w _ h)]
 exact h

def keep2Ops : Array Oper := #[{ dst := some 14, op := Op.move (Operand.tmp 0), type := 81, pos := "again.go:20", after := #[], guard := none }, { dst := some 15, op := Op.move (Operand.tmp 0), type := 81, pos := "again.go:20", after := #[], guard := none }, { dst := some 16, op := Op.nilCheck (Operand.tmp 15), type := 0, pos := "again.go:20", after := #[{ on := 1, ground := Ground.data }], guard := none }, { dst := some 17, op := Op.fieldAddr 83 (Operand.tmp 16) 1, type := 0, pos := "again.go:20", after := #[{ on := 2, ground := Ground.data }], guard := none }, { dst := some 18, op := Op.load 35 (Operand.tmp 17), type := 35, pos := "again.go:20", after := #[{ on := 3, ground := Ground.data }], guard := none }, { dst := some 19, op := Op.move (Operand.tmp 1), type := 36, pos := "again.go:20", after := #[], guard := none }, { dst := some 20, op := Op.call { callee := Callee.value (Operand.func 81), args := #[Operand.tmp 19], argTypes := #[36] }, type := 36, pos := "again.go:20", after := #[{ on := 5, ground := Ground.data }], guard := none }, { dst := some 21, op := Op.buildSlice 35 1 #[(0, Operand.tmp 20)], type := 35, pos := "again.go:20", after := #[{ on := 6, ground := Ground.data }], guard := none }, { dst := some 22, op := Op.call { callee := Callee.builtin Builtin.append, args := #[Operand.tmp 18, Operand.tmp 21], argTypes := #[35, 35] }, type := 35, pos := "again.go:20", after := #[{ on := 4, ground := Ground.data }, { on := 7, ground := Ground.data }, { on := 6, ground := Ground.chain }], guard := none }, { dst := some 23, op := Op.nilCheck (Operand.tmp 14), type := 0, pos := "again.go:20", after := #[{ on := 0, ground := Ground.data }, { on := 0, ground := Ground.phase }, { on := 1, ground := Ground.phase }, { on := 2, ground := Ground.phase }, { on := 3, ground := Ground.phase }, { on := 4, ground := Ground.phase }, { on := 5, ground := Ground.phase }, { on := 6, ground := Ground.phase }, { on := 7, ground := Ground.phase }, { on := 8, ground := Ground.phase }], guard := none }, { dst := some 24, op := Op.fieldAddr 83 (Operand.tmp 23) 1, type := 0, pos := "again.go:20", after := #[{ on := 9, ground := Ground.data }, { on := 0, ground := Ground.phase }, { on := 1, ground := Ground.phase }, { on := 2, ground := Ground.phase }, { on := 3, ground := Ground.phase }, { on := 4, ground := Ground.phase }, { on := 5, ground := Ground.phase }, { on := 6, ground := Ground.phase }, { on := 7, ground := Ground.phase }, { on := 8, ground := Ground.phase }], guard := none }, { dst := none, op := Op.store 35 (Operand.tmp 24) (Operand.tmp 22), type := 0, pos := "again.go:20", after := #[{ on := 10, ground := Ground.data }, { on := 8, ground := Ground.data }, { on := 8, ground := Ground.chain }, { on := 0, ground := Ground.phase }, { on := 1, ground := Ground.phase }, { on := 2, ground := Ground.phase }, { on := 3, ground := Ground.phase }, { on := 4, ground := Ground.phase }, { on := 5, ground := Ground.phase }, { on := 6, ground := Ground.phase }, { on := 7, ground := Ground.phase }, { on := 8, ground := Ground.phase }], guard := none }]
def keep2Act (s0 s1 s4 s5 s6 s7 s8 s9 s10 s11 s12 s13 v14 v15 v16 v17 v18 v19 v20 v21 v22 v23 v24 : Value) : Act := ⟨#[s0, s1, undef, undef, s4, s5, s6, s7, s8, s9, s10, s11, s12, s13, v14, v15, v16, v17, v18, v19, v20, v21, v22, v23, v24], []⟩

set_option maxRecDepth 100000 in
set_option maxHeartbeats 8000000 in
theorem keep2_region {g n m c cW : Nat} {a aW : Option Addr} {X : World} {s4 s5 s6 s7 s8 s9 s10 s11 s12 s13 : Value} {R : Ending → World → Prop} (hw : X.cell? ⟨g, 1, none⟩ = some (.slice aW n cW)) (hcall : Calls Tryz.prog 81 #[.slice a m c] X.drew R) (hret : ∀ r w2, R r w2 → ∃ va vm vc, r = .returned (.slice va vm vc)) (Q : Exit → Act → World → Prop)
  (hR : Hid (∀ (va : Option Addr) (vm vc : Nat) (w2 : World), R (.returned (.slice va vm vc)) w2 → w2.cell? ⟨g, 1, none⟩ = some (.slice aW n cW) ∧ ∃ B ws, RowS w2 B (.slice aW n cW) n ws ∧ B ≤ w2.heap.size ∧ n + 1 ≤ 1000000 ∧ ∀ (aW' : Option Addr) (cW' : Nat) (w3 : World), RowS w3 B (.slice aW' (n + 1) cW') (n + 1) (ws ++ [(.slice va vm vc)]) → w2.grownBy w3 (Value.slice aW n cW).ownBlock → ((Value.slice aW' (n + 1) cW').ownBlock = (Value.slice aW n cW).ownBlock ∨ ∀ x, (Value.slice aW' (n + 1) cW').ownBlock = some x → w2.heap.size ≤ x) → (∃ y, w3.cell? ⟨g, 1, none⟩ = some y) ∧ w3.frozen? ⟨g, 1, none⟩ = false ∧ Q .normal (keep2Act (.pointer (some ⟨g, 0, none⟩)) (.slice a m c) s4 s5 s6 s7 s8 s9 s10 s11 s12 s13 (.pointer (some ⟨g, 0, none⟩)) (.pointer (some ⟨g, 0, none⟩)) (.pointer (some ⟨g, 0, none⟩)) (.pointer (some ⟨g, 1, none⟩)) (.slice aW n cW) (.slice a m c) (.slice va vm vc) (.slice (some ⟨w2.heap.size, 0, none⟩) 1 1) (.slice aW' (n + 1) cW') (.pointer (some ⟨g, 0, none⟩)) (.pointer (some ⟨g, 1, none⟩))) (w3.setCell ⟨g, 1, none⟩ (.slice aW' (n + 1) cW')))) :
  Code.wp Tryz.prog (Code.region 1 keep2Ops true) Q (keep2Act (.pointer (some ⟨g, 0, none⟩)) (.slice a m c) s4 s5 s6 s7 s8 s9 s10 s11 s12 s13 undef undef undef undef undef undef undef undef undef undef undef) X := by
 have HW : Hid (X.drew.cell? ⟨g, 1, none⟩ = some (.slice aW n cW)) := hw
 have HCL := Lib.hid hcall
 have HRT := Lib.hid hret
 clear hw hcall hret
 refine wp_region_noPanic ?_
 have st12 : ∀ (va : Option Addr) (vm vc : Nat) (w2 : World), R (.returned (.slice va vm vc)) w2 → wpAnyH Tryz.prog .any keep2Ops (NoPanic Q) (fun _ => True) 4 #[true, true, true, true, true, true, true, true, false, false, false, false] (keep2Act (.pointer (some ⟨g, 0, none⟩)) (.slice a m c) s4 s5 s6 s7 s8 s9 s10 s11 s12 s13 (.pointer (some ⟨g, 0, none⟩)) (.pointer (some ⟨g, 0, none⟩)) (.pointer (some ⟨g, 0, none⟩)) (.pointer (some ⟨g, 1, none⟩)) (.slice aW n cW) (.slice a m c) (.slice va vm vc) (.slice (some ⟨w2.heap.size, 0, none⟩) 1 1) undef undef undef) (w2.alloc (.cells #[.slice va vm vc] 36)) := by
  intro va vm vc w2 hr
  obtain ⟨hc2, B, ws, rw2, hB, hn, hfin⟩ := hR.out va vm vc w2 hr
  refine wpAnyH_ready (rs := [8]) (by kernel_rfl) (by simp) ?_
  refine AllReadyH.cons (o := { dst := some 22, op := Op.call { callee := Callee.builtin Builtin.append, args := #[Operand.tmp 18, Operand.tmp 21], argTypes := #[35, 35] }, type := 35, pos := "again.go:20", after := #[{ on := 4, ground := Ground.data }, { on := 7, ground := Ground.data }, { on := 6, ground := Ground.chain }], guard := none }) rfl (fun K hK => ?_) AllReadyH.nil
  rw [if_pos (by rfl)]
  refine wp_append_row rfl rfl rw2 hn hB ?_
  intro aW' cW' w3 r3 g3 b3
  obtain ⟨⟨y, hy⟩, hf, hq⟩ := hfin aW' cW' w3 r3 g3 b3
  have q9 : wpAnyH Tryz.prog .any keep2Ops (NoPanic Q) (fun _ => True) 3 #[true, true, true, true, true, true, true, true, true, false, false, false] (keep2Act (.pointer (some ⟨g, 0, none⟩)) (.slice a m c) s4 s5 s6 s7 s8 s9 s10 s11 s12 s13 (.pointer (some ⟨g, 0, none⟩)) (.pointer (some ⟨g, 0, none⟩)) (.pointer (some ⟨g, 0, none⟩)) (.pointer (some ⟨g, 1, none⟩)) (.slice aW n cW) (.slice a m c) (.slice va vm vc) (.slice (some ⟨w2.heap.size, 0, none⟩) 1 1) (.slice aW' (n + 1) cW') undef undef) w3 := by
   refine wpAnyH_ready (rs := [9]) (by kernel_rfl) (by simp) ?_
   refine AllReadyH.cons (o := { dst := some 23, op := Op.nilCheck (Operand.tmp 14), type := 0, pos := "again.go:20", after := #[{ on := 0, ground := Ground.data }, { on := 0, ground := Ground.phase }, { on := 1, ground := Ground.phase }, { on := 2, ground := Ground.phase }, { on := 3, ground := Ground.phase }, { on := 4, ground := Ground.phase }, { on := 5, ground := Ground.phase }, { on := 6, ground := Ground.phase }, { on := 7, ground := Ground.phase }, { on := 8, ground := Ground.phase }], guard := none }) rfl (fun K9 hK9 => ?_) AllReadyH.nil
   rw [if_pos (by rfl)]
   refine wp_nil rfl ?_
   have q10 : wpAnyH Tryz.prog .any keep2Ops (NoPanic Q) (fun _ => True) 2 #[true, true, true, true, true, true, true, true, true, true, false, false] (keep2Act (.pointer (some ⟨g, 0, none⟩)) (.slice a m c) s4 s5 s6 s7 s8 s9 s10 s11 s12 s13 (.pointer (some ⟨g, 0, none⟩)) (.pointer (some ⟨g, 0, none⟩)) (.pointer (some ⟨g, 0, none⟩)) (.pointer (some ⟨g, 1, none⟩)) (.slice aW n cW) (.slice a m c) (.slice va vm vc) (.slice (some ⟨w2.heap.size, 0, none⟩) 1 1) (.slice aW' (n + 1) cW') (.pointer (some ⟨g, 0, none⟩)) undef) w3 := by
    refine wpAnyH_ready (rs := [10]) (by kernel_rfl) (by simp) ?_
    refine AllReadyH.cons (o := { dst := some 24, op := Op.fieldAddr 83 (Operand.tmp 23) 1, type := 0, pos := "again.go:20", after := #[{ on := 9, ground := Ground.data }, { on := 0, ground := Ground.phase }, { on := 1, ground := Ground.phase }, { on := 2, ground := Ground.phase }, { on := 3, ground := Ground.phase }, { on := 4, ground := Ground.phase }, { on := 5, ground := Ground.phase }, { on := 6, ground := Ground.phase }, { on := 7, ground := Ground.phase }, { on := 8, ground := Ground.phase }], guard := none }) rfl (fun K10 hK10 => ?_) AllReadyH.nil
    rw [if_pos (by rfl)]
    refine wp_field rfl ?_
    have q11 : wpAnyH Tryz.prog .any keep2Ops (NoPanic Q) (fun _ => True) 1 #[true, true, true, true, true, true, true, true, true, true, true, false] (keep2Act (.pointer (some ⟨g, 0, none⟩)) (.slice a m c) s4 s5 s6 s7 s8 s9 s10 s11 s12 s13 (.pointer (some ⟨g, 0, none⟩)) (.pointer (some ⟨g, 0, none⟩)) (.pointer (some ⟨g, 0, none⟩)) (.pointer (some ⟨g, 1, none⟩)) (.slice aW n cW) (.slice a m c) (.slice va vm vc) (.slice (some ⟨w2.heap.size, 0, none⟩) 1 1) (.slice aW' (n + 1) cW') (.pointer (some ⟨g, 0, none⟩)) (.pointer (some ⟨g, 1, none⟩))) w3 := by
     refine wpAnyH_ready (rs := [11]) (by kernel_rfl) (by simp) ?_
     refine AllReadyH.cons (o := { dst := none, op := Op.store 35 (Operand.tmp 24) (Operand.tmp 22), type := 0, pos := "again.go:20", after := #[{ on := 10, ground := Ground.data }, { on := 8, ground := Ground.data }, { on := 8, ground := Ground.chain }, { on := 0, ground := Ground.phase }, { on := 1, ground := Ground.phase }, { on := 2, ground := Ground.phase }, { on := 3, ground := Ground.phase }, { on := 4, ground := Ground.phase }, { on := 5, ground := Ground.phase }, { on := 6, ground := Ground.phase }, { on := 7, ground := Ground.phase }, { on := 8, ground := Ground.phase }], guard := none }) rfl (fun K11 hK11 => ?_) AllReadyH.nil
     rw [if_pos (by rfl)]
     refine wp_store_row hy hf rfl rfl ?_
     refine hK11.out _ _ trivial (fun _ => ?_)
     refine wpAnyH_done (by kernel_rfl) ?_ _
     exact NoPanic.normal hq
    exact hK10.out _ _ trivial (fun _ => q11)
   exact hK9.out _ _ trivial (fun _ => q10)
  exact hK.out _ _ trivial (fun _ => q9)
 have st02 : ∀ (va : Option Addr) (vm vc : Nat) (w2 : World), R (.returned (.slice va vm vc)) w2 → wpAnyH Tryz.prog .any keep2Ops (NoPanic Q) (fun _ => True) 5 #[true, true, true, true, false, true, true, true, false, false, false, false] (keep2Act (.pointer (some ⟨g, 0, none⟩)) (.slice a m c) s4 s5 s6 s7 s8 s9 s10 s11 s12 s13 (.pointer (some ⟨g, 0, none⟩)) (.pointer (some ⟨g, 0, none⟩)) (.pointer (some ⟨g, 0, none⟩)) (.pointer (some ⟨g, 1, none⟩)) undef (.slice a m c) (.slice va vm vc) (.slice (some ⟨w2.heap.size, 0, none⟩) 1 1) undef undef undef) (w2.alloc (.cells #[.slice va vm vc] 36)) := by
  intro va vm vc w2 hr
  refine wpAnyH_ready (rs := [4]) (by kernel_rfl) (by simp) ?_
  refine AllReadyH.cons (o := { dst := some 18, op := Op.load 35 (Operand.tmp 17), type := 35, pos := "again.go:20", after := #[{ on := 3, ground := Ground.data }], guard := none }) rfl (fun K hK => ?_) AllReadyH.nil
  rw [if_pos (by rfl)]
  refine wp_load_row (cell_alloc1 (hR.out va vm vc w2 hr).1) rfl ?_
  exact hK.out _ _ trivial (fun _ => st12 va vm vc w2 hr)
 have st11 : ∀ (va : Option Addr) (vm vc : Nat) (w2 : World), R (.returned (.slice va vm vc)) w2 → wpAnyH Tryz.prog .any keep2Ops (NoPanic Q) (fun _ => True) 5 #[true, true, true, true, true, true, true, false, false, false, false, false] (keep2Act (.pointer (some ⟨g, 0, none⟩)) (.slice a m c) s4 s5 s6 s7 s8 s9 s10 s11 s12 s13 (.pointer (some ⟨g, 0, none⟩)) (.pointer (some ⟨g, 0, none⟩)) (.pointer (some ⟨g, 0, none⟩)) (.pointer (some ⟨g, 1, none⟩)) (.slice aW n cW) (.slice a m c) (.slice va vm vc) undef undef undef undef) w2 := by
  intro va vm vc w2 hr
  refine wpAnyH_ready (rs := [7]) (by kernel_rfl) (by simp) ?_
  refine AllReadyH.cons (o := { dst := some 21, op := Op.buildSlice 35 1 #[(0, Operand.tmp 20)], type := 35, pos := "again.go:20", after := #[{ on := 6, ground := Ground.data }], guard := none }) rfl (fun K hK => ?_) AllReadyH.nil
  rw [if_pos (by rfl)]
  refine wp_build_one rfl ?_
  exact hK.out _ _ trivial (fun _ => st12 va vm vc w2 hr)
 have st01 : ∀ (va : Option Addr) (vm vc : Nat) (w2 : World), R (.returned (.slice va vm vc)) w2 → wpAnyH Tryz.prog .any keep2Ops (NoPanic Q) (fun _ => True) 6 #[true, true, true, true, false, true, true, false, false, false, false, false] (keep2Act (.pointer (some ⟨g, 0, none⟩)) (.slice a m c) s4 s5 s6 s7 s8 s9 s10 s11 s12 s13 (.pointer (some ⟨g, 0, none⟩)) (.pointer (some ⟨g, 0, none⟩)) (.pointer (some ⟨g, 0, none⟩)) (.pointer (some ⟨g, 1, none⟩)) undef (.slice a m c) (.slice va vm vc) undef undef undef undef) w2 := by
  intro va vm vc w2 hr
  refine wpAnyH_ready (rs := [4, 7]) (by kernel_rfl) (by simp) ?_
  refine AllReadyH.cons (o := { dst := some 18, op := Op.load 35 (Operand.tmp 17), type := 35, pos := "again.go:20", after := #[{ on := 3, ground := Ground.data }], guard := none }) rfl (fun K hK => ?_) ?_
  ·rw [if_pos (by rfl)]
   refine wp_load_row (hR.out va vm vc w2 hr).1 rfl ?_
   exact hK.out _ _ trivial (fun _ => st11 va vm vc w2 hr)
  refine AllReadyH.cons (o := { dst := some 21, op := Op.buildSlice 35 1 #[(0, Operand.tmp 20)], type := 35, pos := "again.go:20", after := #[{ on := 6, ground := Ground.data }], guard := none }) rfl (fun K hK => ?_) AllReadyH.nil
  rw [if_pos (by rfl)]
  refine wp_build_one rfl ?_
  exact hK.out _ _ trivial (fun _ => st02 va vm vc w2 hr)
 have st10 : wpAnyH Tryz.prog .any keep2Ops (NoPanic Q) (fun _ => True) 6 #[true, true, true, true, true, true, false, false, false, false, false, false] (keep2Act (.pointer (some ⟨g, 0, none⟩)) (.slice a m c) s4 s5 s6 s7 s8 s9 s10 s11 s12 s13 (.pointer (some ⟨g, 0, none⟩)) (.pointer (some ⟨g, 0, none⟩)) (.pointer (some ⟨g, 0, none⟩)) (.pointer (some ⟨g, 1, none⟩)) (.slice aW n cW) (.slice a m c) undef undef undef undef undef) X.drew := by
  refine wpAnyH_ready (rs := [6]) (by kernel_rfl) (by simp) ?_
  refine AllReadyH.cons (o := { dst := some 20, op := Op.call { callee := Callee.value (Operand.func 81), args := #[Operand.tmp 19], argTypes := #[36] }, type := 36, pos := "again.go:20", after := #[{ on := 5, ground := Ground.data }], guard := none }) rfl (fun K hK => ?_) AllReadyH.nil
  rw [if_pos (by rfl)]
  refine wp_call_copied HCL.out rfl ?_
  intro r w2 hr
  obtain ⟨va, vm, vc, rfl⟩ := HRT.out r w2 hr
  exact ⟨_, rfl, hK.out _ _ trivial (fun _ => st11 va vm vc w2 hr)⟩
 have st00 : wpAnyH Tryz.prog .any keep2Ops (NoPanic Q) (fun _ => True) 7 #[true, true, true, true, false, true, false, false, false, false, false, false] (keep2Act (.pointer (some ⟨g, 0, none⟩)) (.slice a m c) s4 s5 s6 s7 s8 s9 s10 s11 s12 s13 (.pointer (some ⟨g, 0, none⟩)) (.pointer (some ⟨g, 0, none⟩)) (.pointer (some ⟨g, 0, none⟩)) (.pointer (some ⟨g, 1, none⟩)) undef (.slice a m c) undef undef undef undef undef) X.drew := by
  refine wpAnyH_ready (rs := [4, 6]) (by kernel_rfl) (by simp) ?_
  refine AllReadyH.cons (o := { dst := some 18, op := Op.load 35 (Operand.tmp 17), type := 35, pos := "again.go:20", after := #[{ on := 3, ground := Ground.data }], guard := none }) rfl (fun K hK => ?_) ?_
  ·rw [if_pos (by rfl)]
   refine wp_load_row HW.out rfl ?_
   exact hK.out _ _ trivial (fun _ => st10)
  refine AllReadyH.cons (o := { dst := some 20, op := Op.call { callee := Callee.value (Operand.func 81), args := #[Operand.tmp 19], argTypes := #[36] }, type := 36, pos := "again.go:20", after := #[{ on := 5, ground := Ground.data }], guard := none }) rfl (fun K hK => ?_) AllReadyH.nil
  rw [if_pos (by rfl)]
  refine wp_call_copied HCL.out rfl ?_
  intro r w2 hr
  obtain ⟨va, vm, vc, rfl⟩ := HRT.out r w2 hr
  exact ⟨_, rfl, hK.out _ _ trivial (fun _ => st01 va vm vc w2 hr)⟩
 refine wp_region_held_drew (S := (fun _ => True)) (by kernel_rfl) trivial (fun hS => ?_)
 refine wpAnyH_take (i := 0) (oi := { dst := some 14, op := Op.move (Operand.tmp 0), type := 81, pos := "again.go:20", after := #[], guard := none }) (v := (.pointer (some ⟨g, 0, none⟩))) rfl (by kernel_rfl) (by kernel_rfl) (by kernel_rfl) (fun _ _ _ h => h) (Or.inl ⟨by rfl, fun w hw => move_any rfl⟩) hS ?_
 refine wpAnyH_take (i := 1) (oi := { dst := some 15, op := Op.move (Operand.tmp 0), type := 81, pos := "again.go:20", after := #[], guard := none }) (v := (.pointer (some ⟨g, 0, none⟩))) rfl (by kernel_rfl) (by kernel_rfl) (by kernel_rfl) (fun _ _ _ h => h) (Or.inl ⟨by rfl, fun w hw => move_any rfl⟩) hS ?_
 refine wpAnyH_take (i := 2) (oi := { dst := some 16, op := Op.nilCheck (Operand.tmp 15), type := 0, pos := "again.go:20", after := #[{ on := 1, ground := Ground.data }], guard := none }) (v := (.pointer (some ⟨g, 0, none⟩))) rfl (by kernel_rfl) (by kernel_rfl) (by kernel_rfl) (fun _ _ _ h => h) (Or.inl ⟨by rfl, fun w hw => nil_ok rfl⟩) hS ?_
 refine wpAnyH_take (i := 3) (oi := { dst := some 17, op := Op.fieldAddr 83 (Operand.tmp 16) 1, type := 0, pos := "again.go:20", after := #[{ on := 2, ground := Ground.data }], guard := none }) (v := (.pointer (some ⟨g, 1, none⟩))) rfl (by kernel_rfl) (by kernel_rfl) (by kernel_rfl) (fun _ _ _ h => h) (Or.inl ⟨by rfl, fun w hw => field_was rfl⟩) hS ?_
 refine wpAnyH_take (i := 5) (oi := { dst := some 19, op := Op.move (Operand.tmp 1), type := 36, pos := "again.go:20", after := #[], guard := none }) (v := (.slice a m c)) rfl (by kernel_rfl) (by kernel_rfl) (by kernel_rfl) (fun _ _ _ h => h) (Or.inl ⟨by rfl, fun w hw => move_any rfl⟩) hS ?_
 exact st00

end Go.Proofs.YtchebhafabhabaaGreatDoor
