import Derived.Test.YtpabbnddeklpdaaGreatK10
namespace Go.Proofs.YtpabbnddeklpdaaGreat
open Go.RowKit
set_option linter.unusedVariables false

set_option maxRecDepth 100000 in
set_option maxHeartbeats 8000000 in
theorem refCompare_any {a b : EntD} {w : World} (ha : EntD.Ok w a) (hb : EntD.Ok w b) :
  Calls Tryz.prog 34 #[.agg a.cells, .agg b.cells] w fun r w' => r = .returned (.int .i64 (compareS a b)) ∧ Below w.heap.size w w' := by
 have A1 := (Below.refl w.heap.size w).alloc (Nat.le_refl _) (.cells a.cells 38)
 have A2 := A1.alloc A1.size (.cells b.cells 38)
 have bxa0 := (EBox.new w a).later ((Below.refl (w.alloc (.cells a.cells 38)).heap.size (w.alloc (.cells a.cells 38))).alloc (Nat.le_refl _) (.cells b.cells 38))
 have bxb0 := EBox.new (w.alloc (.cells a.cells 38)) b
 rw [World.size_alloc] at bxb0
 have HX : Hid (EBox ((w.alloc (.cells a.cells 38)).alloc (.cells b.cells 38)) w.heap.size a ∧ EBox ((w.alloc (.cells a.cells 38)).alloc (.cells b.cells 38)) (w.heap.size + 1) b ∧ Below w.heap.size w ((w.alloc (.cells a.cells 38)).alloc (.cells b.cells 38))) := ⟨bxa0, bxb0, A2⟩
 have HA : Hid (EntD.Ok w a) := ha
 have HB : Hid (EntD.Ok w b) := hb
 have HCS : Hid (compareS a b = firstNZ (cmpsS a b)) := rfl
 clear A1 A2 bxa0 bxb0 ha hb
 simp only [EntD.cells] at HX ⊢
 obtain ⟨W, hW⟩ : ∃ W, W = ((w.alloc (.cells #[a.vr, .int .i64 a.fam, a.vq, .int .i64 a.ts, .int .i64 a.seq, .int .i64 a.kind, a.vv] 38)).alloc (.cells #[b.vr, .int .i64 b.fam, b.vq, .int .i64 b.ts, .int .i64 b.seq, .int .i64 b.kind, b.vv] 38)) := ⟨_, rfl⟩
 rw [← hW] at HX
 have KS : Hid (∀ wx, Below W.heap.size W wx → (wx.cell? ⟨w.heap.size, 0, none⟩ = some a.vr ∧ wx.cell? ⟨w.heap.size, 1, none⟩ = some (.int .i64 a.fam) ∧ wx.cell? ⟨w.heap.size, 2, none⟩ = some a.vq ∧ wx.cell? ⟨w.heap.size, 3, none⟩ = some (.int .i64 a.ts) ∧ wx.cell? ⟨w.heap.size, 4, none⟩ = some (.int .i64 a.seq) ∧ wx.cell? ⟨w.heap.size, 5, none⟩ = some (.int .i64 a.kind)) ∧ (wx.cell? ⟨w.heap.size + 1, 0, none⟩ = some b.vr ∧ wx.cell? ⟨w.heap.size + 1, 1, none⟩ = some (.int .i64 b.fam) ∧ wx.cell? ⟨w.heap.size + 1, 2, none⟩ = some b.vq ∧ wx.cell? ⟨w.heap.size + 1, 3, none⟩ = some (.int .i64 b.ts) ∧ wx.cell? ⟨w.heap.size + 1, 4, none⟩ = some (.int .i64 b.seq) ∧ wx.cell? ⟨w.heap.size + 1, 5, none⟩ = some (.int .i64 b.kind))) := fun wx h => by
  have e1 := HX.out.1.later h
  have e2 := HX.out.2.1.later h
  exact ⟨⟨e1.vr, e1.fam, e1.vq, e1.ts, e1.seq, e1.kind⟩, ⟨e2.vr, e2.fam, e2.vq, e2.ts, e2.seq, e2.kind⟩⟩
 have D0 : Below W.heap.size W W.drew := (Below.refl _ _).drew
 have RA : Hid (∀ wx, Below W.heap.size W wx → EntD.Ok wx a ∧ EntD.Ok wx b) := fun wx h => ⟨(HA.out.later HX.out.2.2).later h, (HB.out.later HX.out.2.2).later h⟩
 go_enter Tryz.func34, Tryz.ntmps34
 go_wp2_with fail
 rw [← hW]
 clear hW
 go_region_held3 (fun wx => (wx.cell? ⟨w.heap.size, 0, none⟩ = some a.vr ∧ wx.cell? ⟨w.heap.size, 1, none⟩ = some (.int .i64 a.fam) ∧ wx.cell? ⟨w.heap.size, 2, none⟩ = some a.vq ∧ wx.cell? ⟨w.heap.size, 3, none⟩ = some (.int .i64 a.ts) ∧ wx.cell? ⟨w.heap.size, 4, none⟩ = some (.int .i64 a.seq) ∧ wx.cell? ⟨w.heap.size, 5, none⟩ = some (.int .i64 a.kind)) ∧ (wx.cell? ⟨w.heap.size + 1, 0, none⟩ = some b.vr ∧ wx.cell? ⟨w.heap.size + 1, 1, none⟩ = some (.int .i64 b.fam) ∧ wx.cell? ⟨w.heap.size + 1, 2, none⟩ = some b.vq ∧ wx.cell? ⟨w.heap.size + 1, 3, none⟩ = some (.int .i64 b.ts) ∧ wx.cell? ⟨w.heap.size + 1, 4, none⟩ = some (.int .i64 b.seq) ∧ wx.cell? ⟨w.heap.size + 1, 5, none⟩ = some (.int .i64 b.kind)))
  (first | exact KS.out _ D0 | exact KS.out _ DD1 | exact KS.out _ DD2 | exact KS.out _ (DD2.alloc DD2.size _))
  (first
   | (go_at_call 49; refine (refNumber_any _ _ _).mono ?_; rintro e wn ⟨rfl, rfl⟩)
   | (go_at_call 50; have _t := T5.out; refine (refFirst_ahead (a := a) (b := b) 4 (by simp) (by simp) _).mono ?_; rintro e wn ⟨rfl, rfl⟩)
   | (go_at_call 50; refine (refFirst_ahead (a := a) (b := b) 5 (by simp) (by simp) _).mono ?_; rintro e wn ⟨rfl, rfl⟩; have T5 : Hid True := trivial)
   | (go_at_call 48; refine (refBytesOrd_any (RA.out _ DD1).1.2.1 (RA.out _ DD1).2.2.1).mono ?_; rintro e4 w4 ⟨rfl, hb4⟩; have DD2 := DD1.trans (hb4.mono DD1.size))
   | (go_at_call 48; refine (refBytesOrd_any (RA.out _ D0).1.1 (RA.out _ D0).2.1).mono ?_; rintro e3 w3 ⟨rfl, hb3⟩; have DD1 := D0.trans (hb3.mono D0.size)))
 have DW := HX.out.2.2.trans (DD2.mono HX.out.2.2.size)
 have DA := DW.alloc DW.size (.cells #[.int .i64 (ordC a.row b.row), .int .i64 (cmpI a.fam b.fam), .int .i64 (aheadS a b 5), .int .i64 (ordC a.qual b.qual), .int .i64 (aheadS a b 4), .int .i64 (cmpI b.ts a.ts), .int .i64 (cmpI b.seq a.seq), .int .i64 (cmpI a.kind b.kind)] 3)
 obtain ⟨U, hU⟩ : ∃ U, U = wn.alloc (.cells #[.int .i64 (ordC a.row b.row), .int .i64 (cmpI a.fam b.fam), .int .i64 (aheadS a b 5), .int .i64 (ordC a.qual b.qual), .int .i64 (aheadS a b 4), .int .i64 (cmpI b.ts a.ts), .int .i64 (cmpI b.seq a.seq), .int .i64 (cmpI a.kind b.kind)] 3) := ⟨_, rfl⟩
 have HCL : Hid (∀ t, t < 8 → U.cell? ⟨wn.heap.size, t, none⟩ = some (.int .i64 ((cmpsS a b).getD t 0))) := fun t ht => by
  have hh : U.heap[wn.heap.size]? = some (.cells #[.int .i64 (ordC a.row b.row), .int .i64 (cmpI a.fam b.fam), .int .i64 (aheadS a b 5), .int .i64 (ordC a.qual b.qual), .int .i64 (aheadS a b 4), .int .i64 (cmpI b.ts a.ts), .int .i64 (cmpI b.seq a.seq), .int .i64 (cmpI a.kind b.kind)] 3) := by rw [hU]; exact heap_new wn _
  have hc : ∀ j, U.cell? ⟨wn.heap.size, j, none⟩ = (#[.int .i64 (ordC a.row b.row), .int .i64 (cmpI a.fam b.fam), .int .i64 (aheadS a b 5), .int .i64 (ordC a.qual b.qual), .int .i64 (aheadS a b 4), .int .i64 (cmpI b.ts a.ts), .int .i64 (cmpI b.seq a.seq), .int .i64 (cmpI a.kind b.kind)] : Array Value)[j]? := fun j => by simp [World.cell?, hh]
  rw [hc]
  match t, ht with
  | 0, _ => rfl
  | 1, _ => rfl
  | 2, _ => rfl
  | 3, _ => rfl
  | 4, _ => rfl
  | 5, _ => rfl
  | 6, _ => rfl
  | 7, _ => rfl
 rw [← hU] at DA ⊢
 have HDA := Lib.hid DA
 have HLL : Hid ((cmpsS a b).length = 8) := rfl
 obtain ⟨l, hl⟩ : ∃ l, l = cmpsS a b := ⟨_, rfl⟩
 rw [← hl] at HCL HLL HCS
 obtain ⟨G, hG⟩ : ∃ G, G = wn.heap.size := ⟨_, rfl⟩
 rw [← hG] at HCL ⊢
 clear DA DW hU DD1 DD2 KS RA D0 HX HA HB hl hG
 rename_i hXX
 clear hXX
 go_wp2
 go_loopw [6] (fun i wr => ∃ t : Nat, t ≤ 8 ∧ i = .int .i64 (t : Int) ∧ Hid (∀ j, j < t → l.getD j 0 = 0) ∧ wr = U) (fun i _ => 8 - (intOf i).toNat)
 case atStart => exact ⟨0, by omega, rfl, fun j hj => by omega, rfl⟩
 case round =>
  obtain ⟨t, ht, rfl, hz, rfl⟩ := hrel
  by_cases hlt : t < 8
  ·have hlt2 : (t : Int) < 8 := by omega
   have ht0 : (0 : Int) ≤ (t : Int) := by omega
   have ct := HCL.out t hlt
   obtain ⟨v, hv⟩ : ∃ v, v = l.getD t 0 := ⟨_, rfl⟩
   rw [← hv] at ct
   have HV := Lib.hid hv
   clear hv
   by_cases h0 : v = 0
   ·subst h0
    go_wp2
    go_roundw
    case rel => exact ⟨t + 1, by omega, by go_num, fun j hj => by
     by_cases hjt : j = t
     ·subst hjt; exact HV.out.symm
     ·exact hz.out j (by omega), trivial⟩
    case measure => simp [intOf]; omega
   ·have h1 : (v != 0) = true := by simpa using h0
    have h2 : (v == 0) = false := by simpa using h0
    have HR : Hid (compareS a b = v) := by unfold Hid; rw [HCS.out, firstNZ_at l t hz.out (by rw [← HV.out]; exact h0)]; exact HV.out.symm
    go_wp2
    go_ret
    rw [HR.out]
    exact ⟨rfl, HDA.out⟩
  ·have hge : (8 : Int) ≤ (t : Int) := by omega
   obtain rfl : t = 8 := by omega
   have HR : Hid (compareS a b = 0) := by unfold Hid; rw [HCS.out]; exact firstNZ_none l (fun j hj => hz.out j (by rw [HLL.out] at hj; exact hj))
   go_wp2
   go_ret
   rw [HR.out]
   exact ⟨rfl, HDA.out⟩

end Go.Proofs.YtpabbnddeklpdaaGreat

namespace Go.Proofs.YtpabbnddeklpdaaGreat
open Go.RowKit Go.Shelf
set_option linter.unusedVariables false

theorem tbytes_any {w : World} {t : Nat} {p : Option Addr} {n k : Int} {f : Bool} (h : TBox w t p n k f) : Calls Tryz.prog 13 #[.pointer (some ⟨t, 0, none⟩)] w fun e w' => e = .returned (.int .i64 k) ∧ w' = w := by
 have hc := h.cells
 go_enter Tryz.func13, Tryz.ntmps13
 obtain ⟨c0, c1, c2, c3, c4⟩ := hc
 go_wp2
 go_ret
 exact ⟨rfl, rfl⟩

structure A1 (w : World) (t : Nat) (X : World) : Prop where
 a : TBox X t none 0 0 false
 b : TBox X (t + 1) none 0 0 false
 lo : w.heap.size ≤ t
 below : Below w.heap.size w X
theorem A1.lt {w X : World} {t : Nat} (h : A1 w t X) : t + 2 ≤ X.heap.size := h.b.lt
theorem A1.grown {w X Y : World} {t : Nat} {row : Option Nat} (h : A1 w t X) (g : X.grownBy Y row) (hr : ∀ r, row = some r → t + 2 ≤ r) : A1 w t Y := by
 have k : ∀ i, i < t + 2 → Y.heap[i]? = X.heap[i]? := fun i hi => g.block i (Nat.lt_of_lt_of_le hi h.lt) (fun e => by have := hr i e.symm; omega)
 exact ⟨(k t (by omega)).trans h.a, (k (t + 1) (by omega)).trans h.b, h.lo, ⟨g.os.trans h.below.os, g.tape.trans h.below.tape, g.output.trans h.below.output, Nat.le_trans h.below.size g.size, fun i hi => (k i (by have := h.lo; omega)).trans (h.below.block i hi)⟩⟩
structure A2 (w : World) (t : Nat) (v : Value) (es : List EntD) (X : World) : Prop where
 tabs : A1 w t X
 row : X.ownsRow (t + 2) 38 7 v es.length (evals es)
 apt : Apt es
 good : ∀ e ∈ es, EntD.Ok w e ∧ checkS e = 0
structure A3 (w : World) (t : Nat) (v : Value) (es La Lb : List EntD) (X : World) : Prop where
 a : Tb (fun i => t + 1 < i) X t La ((pk La : Nat) : Int) false
 b : Tb (fun i => t + 1 < i) X (t + 1) Lb ((pk Lb : Nat) : Int) false
 row : X.ownsRow (t + 2) 38 7 v es.length (evals es)
 lo : w.heap.size ≤ t
 sz : t + 2 ≤ X.heap.size
 below : Below w.heap.size w X
theorem pk_ins (A B : List EntD) {x e : EntD} (h : EntD.Same x e) : pk (A ++ x :: B) = pk (A ++ B) + (packL e).length := by
 rw [pk_app, pk_app, pk, packL_same h]
 omega
theorem row_slice {B s n : Nat} {e : TypeId} {v : Value} {xs : List Value} {w : World} (hs : 0 < s) (h : w.ownsRow B e s v n xs) : ∃ a c, v = .slice a n c := by
 rcases h.2 with ⟨rfl, h0⟩ | ⟨g, cap, cur, rfl, _⟩
 ·exact ⟨none, 0, by rw [h0]⟩
 ·exact ⟨_, _, rfl⟩
structure A4 (w : World) (t : Nat) (xv yv : Value) (xs ys : List EntD) (k : Int) (X : World) : Prop where
 rx : ∃ B, X.ownsRow B 38 7 xv xs.length (evals xs)
 ry : ∃ B, X.ownsRow B 38 7 yv ys.length (evals ys)
 ox : ∀ x ∈ xs, EntD.Ok X x
 oy : ∀ y ∈ ys, EntD.Ok X y
 ta : ∃ p n, TBox X t p n k false
 below : Below w.heap.size w X
end Go.Proofs.YtpabbnddeklpdaaGreat
