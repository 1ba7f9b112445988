import Derived.Test.YtcangaoamhaagaaJ09
import Derived.Test.YtcangaoamhaagaaRows
import Derived.Test.YtcangaoamhaagaaJ00
import Derived.ProofKit
import Derived.OpenShut
import Derived.Deep.DeepHandedRow
import Derived.Lib.LaidTab
import Derived.Deep.Slices
namespace Go.Proofs.Ytcangaoamhaagaa
open Go.RowKit
set_option linter.unusedVariables false


set_option maxRecDepth 100000 in
set_option maxHeartbeats 1000000 in
theorem asked2 {aF aG : Option Addr} {nF cF nG cG : Nat} {F G : List Nat} {N : Int} {ks : Value} {w : World} (hF : Rd w (.slice aF nF cF) F) (hG : Rd w (.slice aG nG cG) G) (lF : nF ≤ 140737488351232) (lG : nG ≤ 140737488351232) :
    Calls Try.prog 46 #[.agg #[.int .i64 2, .int .i64 N, ks, .slice aF nF cF, .slice aG nG cG]] w fun e w' => e = .returned (.bool true) ∧ Below w.heap.size w w' := by
  obtain ⟨W0, hW0⟩ : ∃ W0, W0 = w.alloc (.cells #[.int .i64 2, .int .i64 N, ks, .slice aF nF cF, .slice aG nG cG] 42) := ⟨_, rfl⟩
  have b0 : Below w.heap.size w W0 := by rw [hW0]; exact (Below.refl _ _).alloc (Nat.le_refl _) _
  have hsz : w.heap.size < W0.heap.size := by rw [hW0]; simp
  have HK : Hid (∀ wx, Below W0.heap.size W0 wx → wx.cell? ⟨w.heap.size, 0, none⟩ = some (.int .i64 2) ∧ wx.cell? ⟨w.heap.size, 3, none⟩ = some (.slice aF nF cF) ∧ wx.cell? ⟨w.heap.size, 4, none⟩ = some (.slice aG nG cG)) := by
    have h : ∀ wx, Below W0.heap.size W0 wx → wx.cell? ⟨w.heap.size, 0, none⟩ = some (.int .i64 2) ∧ wx.cell? ⟨w.heap.size, 3, none⟩ = some (.slice aF nF cF) ∧ wx.cell? ⟨w.heap.size, 4, none⟩ = some (.slice aG nG cG) := fun wx hx => by
      refine ⟨(hx.cell (p := ⟨w.heap.size, 0, none⟩) hsz).trans ?_, (hx.cell (p := ⟨w.heap.size, 3, none⟩) hsz).trans ?_, (hx.cell (p := ⟨w.heap.size, 4, none⟩) hsz).trans ?_⟩
      all_goals (rw [hW0, Joins.cell_of_block (World.alloc_heap_new w _)]; rfl)
    exact h
  have RF : Hid (∀ wx, Below W0.heap.size W0 wx → Rd wx (.slice aF nF cF) F) := by
    have h : ∀ wx, Below W0.heap.size W0 wx → Rd wx (.slice aF nF cF) F := fun wx hx => (hF.later b0).later hx
    exact h
  have RG : Hid (∀ wx, Below W0.heap.size W0 wx → Rd wx (.slice aG nG cG) G) := by
    have h : ∀ wx, Below W0.heap.size W0 wx → Rd wx (.slice aG nG cG) G := fun wx hx => (hG.later b0).later hx
    exact h
  clear hF hG hsz
  go_enter Try.func46, Try.ntmps46
  go_wp2_with (first | (go_at_call_of 23 (Value.slice aF nF cF); rw [← hW0]; clear hW0; refine Calls.mono (wide_at (RF.out _ (Below.refl _ _)) lF) ?_; rintro e1 w1 ⟨g1, c1, rfl, r1, b1⟩; obtain ⟨q10, q13, q14⟩ := HK.out _ b1) | (have BB := b1; go_at_call_of 23 (Value.slice aG nG cG); refine Calls.mono (wide_at (RG.out _ b1) lG) ?_; rintro e2 w2 ⟨g2, c2, rfl, r2, b2⟩; obtain ⟨q20, q23, q24⟩ := HK.out _ (b1.trans (b2.mono b1.size))))
  have B2 := b1.trans (b2.mono b1.size)
  have HR1 : Hid (∀ wx, Below w2.heap.size w2 wx → Rd wx (.slice (some ⟨g1, 0, none⟩) (nF + 5) c1) (F ++ marksL)) := by
    have h : ∀ wx, Below w2.heap.size w2 wx → Rd wx (.slice (some ⟨g1, 0, none⟩) (nF + 5) c1) (F ++ marksL) := fun wx hx => (r1.later b2).later hx
    exact h
  have HR2 : Hid (∀ wx, Below w2.heap.size w2 wx → Rd wx (.slice (some ⟨g2, 0, none⟩) (nG + 5) c2) (G ++ marksL)) := by
    have h : ∀ wx, Below w2.heap.size w2 wx → Rd wx (.slice (some ⟨g2, 0, none⟩) (nG + 5) c2) (G ++ marksL) := fun wx hx => r2.later hx
    exact h
  obtain ⟨hn1, hle1, hcm1, -⟩ := rd_lens r1
  obtain ⟨hn2, hle2, hcm2, -⟩ := rd_lens r2
  have HF2 : Hid (∀ wx, Below w2.heap.size w2 wx → Rd wx (.slice aF nF cF) F) := by
    have h : ∀ wx, Below w2.heap.size w2 wx → Rd wx (.slice aF nF cF) F := fun wx hx => (RF.out _ B2).later hx
    exact h
  have HG2 : Hid (∀ wx, Below w2.heap.size w2 wx → Rd wx (.slice aG nG cG) G) := by
    have h : ∀ wx, Below w2.heap.size w2 wx → Rd wx (.slice aG nG cG) G := fun wx hx => (RG.out _ B2).later hx
    exact h
  have HK2 : Hid (∀ wx, Below w2.heap.size w2 wx → wx.cell? ⟨w.heap.size, 3, none⟩ = some (.slice aF nF cF) ∧ wx.cell? ⟨w.heap.size, 4, none⟩ = some (.slice aG nG cG)) := by
    have h : ∀ wx, Below w2.heap.size w2 wx → wx.cell? ⟨w.heap.size, 3, none⟩ = some (.slice aF nF cF) ∧ wx.cell? ⟨w.heap.size, 4, none⟩ = some (.slice aG nG cG) := fun wx hx => (HK.out _ (B2.trans (hx.mono B2.size))).2
    exact h
  have BW : Hid (∀ wx, Below w2.heap.size w2 wx → Below w.heap.size w wx) := by
    have h : ∀ wx, Below w2.heap.size w2 wx → Below w.heap.size w wx := fun wx hx => b0.trans ((B2.mono b0.size).trans (hx.mono (Nat.le_trans b0.size B2.size)))
    exact h
  have hlF := (rd_lens (RF.out _ B2)).1
  have hlG := (rd_lens (RG.out _ B2)).1
  have HU : Hid (∀ wx, Below w2.heap.size w2 wx → Rd wx (.slice (some ⟨g1, 0, none⟩) nF c1) F) := by
    have h : ∀ wx, Below w2.heap.size w2 wx → Rd wx (.slice (some ⟨g1, 0, none⟩) nF c1) F := fun wx hx => by
      have := (HR1.out wx hx).upto nF (by omega)
      rwa [show (F ++ marksL).take nF = F by rw [hlF]; simp] at this
    exact h
  have HV : Hid (∀ wx, Below w2.heap.size w2 wx → Rd wx (.slice (some ⟨g2, 0, none⟩) nG c2) G) := by
    have h : ∀ wx, Below w2.heap.size w2 wx → Rd wx (.slice (some ⟨g2, 0, none⟩) nG c2) G := fun wx hx => by
      have := (HR2.out wx hx).upto nG (by omega)
      rwa [show (G ++ marksL).take nG = G by rw [hlG]; simp] at this
    exact h
  have HCk : Hid (∀ wx, Below w2.heap.size w2 wx → Calls Try.prog 16 #[.slice (some ⟨g1, 0, none⟩) nF c1, .slice (some ⟨g2, 0, none⟩) nG c2] wx fun e w' => e = .returned (.tuple #[.bool (hasB F G), .int .i64 ((chkE F : Nat) : Int)]) ∧ Below w2.heap.size w2 w') := by
    have h : ∀ wx, Below w2.heap.size w2 wx → Calls Try.prog 16 #[.slice (some ⟨g1, 0, none⟩) nF c1, .slice (some ⟨g2, 0, none⟩) nG c2] wx fun e w' => e = .returned (.tuple #[.bool (hasB F G), .int .i64 ((chkE F : Nat) : Int)]) ∧ Below w2.heap.size w2 w' := fun wx hx => (has_any (HU.out wx hx) (HV.out wx hx)).mono fun e w' h => ⟨h.1, hx.trans (h.2.mono hx.size)⟩
    exact h
  have HRk : Hid (∀ wx, Below w2.heap.size w2 wx → Calls Try.prog 25 #[.slice aF nF cF, .slice aG nG cG] wx fun e w' => e = .returned (.tuple #[.bool (hasB F G), .int .i64 ((chkE F : Nat) : Int)]) ∧ Below w2.heap.size w2 w') := by
    have h : ∀ wx, Below w2.heap.size w2 wx → Calls Try.prog 25 #[.slice aF nF cF, .slice aG nG cG] wx fun e w' => e = .returned (.tuple #[.bool (hasB F G), .int .i64 ((chkE F : Nat) : Int)]) ∧ Below w2.heap.size w2 w' := fun wx hx => (refHas_any (HF2.out wx hx) (HG2.out wx hx)).mono fun e w' h => ⟨h.1, hx.trans (h.2.mono hx.size)⟩
    exact h
  have bd : Below w2.heap.size w2 w2.drew := (Below.refl _ _).drew
  have p0 := HK2.out _ bd
  have i1 : (0 : Int) ≤ (nF : Int) := by omega
  have i2 : (nF : Int) ≤ (c1 : Int) := by omega
  have i3 : (0 : Int) ≤ (nG : Int) := by omega
  have i4 : (nG : Int) ≤ (c2 : Int) := by omega
  obtain ⟨E, hE⟩ : ∃ E, E = chkE F := ⟨_, rfl⟩
  obtain ⟨Z, hZ⟩ : ∃ Z, Z = hasB F G := ⟨_, rfl⟩
  rw [← hE, ← hZ] at HCk HRk
  clear hn1 hn2 hlF hlG hE RF RG HK b0 b1 b2 B2 r1 r2 q10 q13 q14 q20 q23 q24 hZ
  go_region_held3 (fun wx => wx.cell? ⟨w.heap.size, 3, none⟩ = some (.slice aF nF cF) ∧ wx.cell? ⟨w.heap.size, 4, none⟩ = some (.slice aG nG cG)) (first | exact p0 | exact p3) (first | (go_at_call 16; refine Calls.mono (HCk.out _ bd) ?_; rintro e3 w3 ⟨rfl, b3⟩; have p3 := HK2.out _ b3))
  have t3 := (HK2.out _ b3).1
  have t4 := (HK2.out _ b3).2
  go_wp2_with (go_at_call 25; fail)
  refine Calls.mono (HRk.out _ b3) ?_
  rintro e5 w5 ⟨rfl, b5⟩
  go_wp2_with (go_at_call 14; fail)
  refine Calls.mono (num_any _ _) ?_
  rintro e9 w9 ⟨rfl, rfl⟩
  have s3 := (HK2.out _ b5).1
  have s4 := (HK2.out _ b5).2
  go_wp2_with (go_at_call_of 29 (Value.slice (some ⟨g1, 0, none⟩) (nF + 5) c1); fail)
  refine Calls.mono (kept_any (HR1.out _ b5) (HF2.out _ b5)) ?_
  rintro e6 w6 ⟨rfl, b6⟩
  have B6 := (b5).trans (b6.mono (b5).size)
  have s46 := (HK2.out _ B6).2
  go_wp2_with (go_at_call_of 29 (Value.slice (some ⟨g2, 0, none⟩) (nG + 5) c2); fail)
  refine Calls.mono (kept_any (HR2.out _ B6) (HG2.out _ B6)) ?_
  rintro e7 w7 ⟨rfl, b7⟩
  go_wp2
  go_ret
  exact ⟨rfl, BW.out _ (B6.trans (b7.mono B6.size))⟩
end Go.Proofs.Ytcangaoamhaagaa

namespace Go.Proofs.Ytcangaoamhaagaa
open Go.RowKit
set_option linter.unusedVariables false

theorem uniL_bys {A B : List Nat} (ha : Bys A) (hb : Bys B) : Bys (uniL A B) := by
  unfold uniL
  split
  · exact unionL_bys ha hb
  · intro x hx; simp at hx
theorem uniL_len (A B : List Nat) : (uniL A B).length ≤ A.length + 6 := by
  unfold uniL
  split
  · simp [unionL]; omega
  · simp

set_option maxRecDepth 100000 in
set_option maxHeartbeats 1000000 in
theorem asked4 {aF aG : Option Addr} {nF cF nG cG : Nat} {F G : List Nat} {N : Int} {ks : Value} {w : World} (hF : Rd w (.slice aF nF cF) F) (hG : Rd w (.slice aG nG cG) G) (lF : nF ≤ 140737488351232) (lG : nG ≤ 140737488351232) :
    Calls Try.prog 46 #[.agg #[.int .i64 4, .int .i64 N, ks, .slice aF nF cF, .slice aG nG cG]] w fun e w' => e = .returned (.bool true) ∧ Below w.heap.size w w' := by
  obtain ⟨W0, hW0⟩ : ∃ W0, W0 = w.alloc (.cells #[.int .i64 4, .int .i64 N, ks, .slice aF nF cF, .slice aG nG cG] 42) := ⟨_, rfl⟩
  have b0 : Below w.heap.size w W0 := by rw [hW0]; exact (Below.refl _ _).alloc (Nat.le_refl _) _
  have hsz : w.heap.size < W0.heap.size := by rw [hW0]; simp
  have HK : Hid (∀ wx, Below W0.heap.size W0 wx → wx.cell? ⟨w.heap.size, 0, none⟩ = some (.int .i64 4) ∧ wx.cell? ⟨w.heap.size, 3, none⟩ = some (.slice aF nF cF) ∧ wx.cell? ⟨w.heap.size, 4, none⟩ = some (.slice aG nG cG)) := by
    have h : ∀ wx, Below W0.heap.size W0 wx → wx.cell? ⟨w.heap.size, 0, none⟩ = some (.int .i64 4) ∧ wx.cell? ⟨w.heap.size, 3, none⟩ = some (.slice aF nF cF) ∧ wx.cell? ⟨w.heap.size, 4, none⟩ = some (.slice aG nG cG) := fun wx hx => by
      refine ⟨(hx.cell (p := ⟨w.heap.size, 0, none⟩) hsz).trans ?_, (hx.cell (p := ⟨w.heap.size, 3, none⟩) hsz).trans ?_, (hx.cell (p := ⟨w.heap.size, 4, none⟩) hsz).trans ?_⟩
      all_goals (rw [hW0, Joins.cell_of_block (World.alloc_heap_new w _)]; rfl)
    exact h
  have RF : Hid (∀ wx, Below W0.heap.size W0 wx → Rd wx (.slice aF nF cF) F) := by
    have h : ∀ wx, Below W0.heap.size W0 wx → Rd wx (.slice aF nF cF) F := fun wx hx => (hF.later b0).later hx
    exact h
  have RG : Hid (∀ wx, Below W0.heap.size W0 wx → Rd wx (.slice aG nG cG) G) := by
    have h : ∀ wx, Below W0.heap.size W0 wx → Rd wx (.slice aG nG cG) G := fun wx hx => (hG.later b0).later hx
    exact h
  clear hF hG hsz
  go_enter Try.func46, Try.ntmps46
  go_wp2_with (first | (go_at_call_of 23 (Value.slice aF nF cF); rw [← hW0]; clear hW0; refine Calls.mono (wide_at (RF.out _ (Below.refl _ _)) lF) ?_; rintro e1 w1 ⟨g1, c1, rfl, r1, b1⟩; obtain ⟨q10, q13, q14⟩ := HK.out _ b1) | (have BB := b1; go_at_call_of 23 (Value.slice aG nG cG); refine Calls.mono (wide_at (RG.out _ b1) lG) ?_; rintro e2 w2 ⟨g2, c2, rfl, r2, b2⟩; obtain ⟨q20, q23, q24⟩ := HK.out _ (b1.trans (b2.mono b1.size))))
  have B2 := b1.trans (b2.mono b1.size)
  have HR1 : Hid (∀ wx, Below w2.heap.size w2 wx → Rd wx (.slice (some ⟨g1, 0, none⟩) (nF + 5) c1) (F ++ marksL)) := by
    have h : ∀ wx, Below w2.heap.size w2 wx → Rd wx (.slice (some ⟨g1, 0, none⟩) (nF + 5) c1) (F ++ marksL) := fun wx hx => (r1.later b2).later hx
    exact h
  have HR2 : Hid (∀ wx, Below w2.heap.size w2 wx → Rd wx (.slice (some ⟨g2, 0, none⟩) (nG + 5) c2) (G ++ marksL)) := by
    have h : ∀ wx, Below w2.heap.size w2 wx → Rd wx (.slice (some ⟨g2, 0, none⟩) (nG + 5) c2) (G ++ marksL) := fun wx hx => r2.later hx
    exact h
  obtain ⟨hn1, hle1, hcm1, -⟩ := rd_lens r1
  obtain ⟨hn2, hle2, hcm2, -⟩ := rd_lens r2
  have HF2 : Hid (∀ wx, Below w2.heap.size w2 wx → Rd wx (.slice aF nF cF) F) := by
    have h : ∀ wx, Below w2.heap.size w2 wx → Rd wx (.slice aF nF cF) F := fun wx hx => (RF.out _ B2).later hx
    exact h
  have HG2 : Hid (∀ wx, Below w2.heap.size w2 wx → Rd wx (.slice aG nG cG) G) := by
    have h : ∀ wx, Below w2.heap.size w2 wx → Rd wx (.slice aG nG cG) G := fun wx hx => (RG.out _ B2).later hx
    exact h
  have HK2 : Hid (∀ wx, Below w2.heap.size w2 wx → wx.cell? ⟨w.heap.size, 3, none⟩ = some (.slice aF nF cF) ∧ wx.cell? ⟨w.heap.size, 4, none⟩ = some (.slice aG nG cG)) := by
    have h : ∀ wx, Below w2.heap.size w2 wx → wx.cell? ⟨w.heap.size, 3, none⟩ = some (.slice aF nF cF) ∧ wx.cell? ⟨w.heap.size, 4, none⟩ = some (.slice aG nG cG) := fun wx hx => (HK.out _ (B2.trans (hx.mono B2.size))).2
    exact h
  have BW : Hid (∀ wx, Below w2.heap.size w2 wx → Below w.heap.size w wx) := by
    have h : ∀ wx, Below w2.heap.size w2 wx → Below w.heap.size w wx := fun wx hx => b0.trans ((B2.mono b0.size).trans (hx.mono (Nat.le_trans b0.size B2.size)))
    exact h
  have hlF := (rd_lens (RF.out _ B2)).1
  have hlG := (rd_lens (RG.out _ B2)).1
  have HU : Hid (∀ wx, Below w2.heap.size w2 wx → Rd wx (.slice (some ⟨g1, 0, none⟩) nF c1) F) := by
    have h : ∀ wx, Below w2.heap.size w2 wx → Rd wx (.slice (some ⟨g1, 0, none⟩) nF c1) F := fun wx hx => by
      have := (HR1.out wx hx).upto nF (by omega)
      rwa [show (F ++ marksL).take nF = F by rw [hlF]; simp] at this
    exact h
  have HV : Hid (∀ wx, Below w2.heap.size w2 wx → Rd wx (.slice (some ⟨g2, 0, none⟩) nG c2) G) := by
    have h : ∀ wx, Below w2.heap.size w2 wx → Rd wx (.slice (some ⟨g2, 0, none⟩) nG c2) G := fun wx hx => by
      have := (HR2.out wx hx).upto nG (by omega)
      rwa [show (G ++ marksL).take nG = G by rw [hlG]; simp] at this
    exact h
  have ubys : Bys (uniL F G) := uniL_bys (RF.out _ B2).1 (RG.out _ B2).1
  have ulen : (uniL F G).length ≤ 281474976710656 := Nat.le_trans (uniL_len F G) (by omega)
  have HCk : Hid (∀ wx, Below w2.heap.size w2 wx → Calls Try.prog 15 #[.slice (some ⟨g1, 0, none⟩) nF c1, .slice (some ⟨g2, 0, none⟩) nG c2] wx fun e w' => ∃ a m c, e = .returned (.tuple #[.slice a m c, .int .i64 ((uniE F G : Nat) : Int)]) ∧ Rd w' (.slice a m c) (uniL F G) ∧ Below w2.heap.size w2 w' ∧ Below wx.heap.size wx w') := by
    have h : ∀ wx, Below w2.heap.size w2 wx → Calls Try.prog 15 #[.slice (some ⟨g1, 0, none⟩) nF c1, .slice (some ⟨g2, 0, none⟩) nG c2] wx fun e w' => ∃ a m c, e = .returned (.tuple #[.slice a m c, .int .i64 ((uniE F G : Nat) : Int)]) ∧ Rd w' (.slice a m c) (uniL F G) ∧ Below w2.heap.size w2 w' ∧ Below wx.heap.size wx w' := fun wx hx => (union_any (HU.out wx hx) (HV.out wx hx)).mono fun e w' ⟨a, m, c, h, own, hb⟩ => ⟨a, m, c, h, own.rd ubys (by have := own.1; omega), hx.trans (hb.mono hx.size), hb⟩
    exact h
  have HRk : Hid (∀ wx, Below w2.heap.size w2 wx → Calls Try.prog 28 #[.slice aF nF cF, .slice aG nG cG] wx fun e w' => ∃ a m c, e = .returned (.tuple #[.slice a m c, .int .i64 ((uniE F G : Nat) : Int)]) ∧ Rd w' (.slice a m c) (uniL F G) ∧ Below w2.heap.size w2 w' ∧ Below wx.heap.size wx w') := by
    have h : ∀ wx, Below w2.heap.size w2 wx → Calls Try.prog 28 #[.slice aF nF cF, .slice aG nG cG] wx fun e w' => ∃ a m c, e = .returned (.tuple #[.slice a m c, .int .i64 ((uniE F G : Nat) : Int)]) ∧ Rd w' (.slice a m c) (uniL F G) ∧ Below w2.heap.size w2 w' ∧ Below wx.heap.size wx w' := fun wx hx => (refUnion_any (HF2.out wx hx) (HG2.out wx hx)).mono fun e w' ⟨a, m, c, h, own, hb⟩ => ⟨a, m, c, h, own.rd ubys (by have := own.1; omega), hx.trans (hb.mono hx.size), hb⟩
    exact h
  have bd : Below w2.heap.size w2 w2.drew := (Below.refl _ _).drew
  have p0 := HK2.out _ bd
  have i1 : (0 : Int) ≤ (nF : Int) := by omega
  have i2 : (nF : Int) ≤ (c1 : Int) := by omega
  have i3 : (0 : Int) ≤ (nG : Int) := by omega
  have i4 : (nG : Int) ≤ (c2 : Int) := by omega
  obtain ⟨E, hE⟩ : ∃ E, E = uniE F G := ⟨_, rfl⟩
  obtain ⟨Z, hZ⟩ : ∃ Z, Z = uniL F G := ⟨_, rfl⟩
  rw [← hE, ← hZ] at HCk HRk
  clear hn1 hn2 hlF hlG hE RF RG HK b0 b1 b2 B2 r1 r2 q10 q13 q14 q20 q23 q24 hZ ubys ulen
  go_region_held3 (fun wx => wx.cell? ⟨w.heap.size, 3, none⟩ = some (.slice aF nF cF) ∧ wx.cell? ⟨w.heap.size, 4, none⟩ = some (.slice aG nG cG)) (first | exact p0 | exact p3) (first | (go_at_call 15; refine Calls.mono (HCk.out _ bd) ?_; rintro e3 w3 ⟨a3, m3, c3, rfl, r3, b3, b3'⟩; have p3 := HK2.out _ b3))
  have t3 := (HK2.out _ b3).1
  have t4 := (HK2.out _ b3).2
  go_wp2_with (go_at_call 28; fail)
  refine Calls.mono (HRk.out _ b3) ?_
  rintro e5 w5 ⟨a5, m5, c5, rfl, r5, b5, b5'⟩
  go_wp2_with (go_at_call 14; fail)
  refine Calls.mono (num_any _ _) ?_
  rintro e9 w9 ⟨rfl, rfl⟩
  go_wp2_with (go_at_call 18; fail)
  refine Calls.mono (alike_any (r3.later b5') r5) ?_
  rintro e8 w8 ⟨rfl, rfl⟩
  have s3 := (HK2.out _ b5).1
  have s4 := (HK2.out _ b5).2
  go_wp2_with (go_at_call_of 29 (Value.slice (some ⟨g1, 0, none⟩) (nF + 5) c1); fail)
  refine Calls.mono (kept_any (HR1.out _ b5) (HF2.out _ b5)) ?_
  rintro e6 w6 ⟨rfl, b6⟩
  have B6 := (b5).trans (b6.mono (b5).size)
  have s46 := (HK2.out _ B6).2
  go_wp2_with (go_at_call_of 29 (Value.slice (some ⟨g2, 0, none⟩) (nG + 5) c2); fail)
  refine Calls.mono (kept_any (HR2.out _ B6) (HG2.out _ B6)) ?_
  rintro e7 w7 ⟨rfl, b7⟩
  go_wp2
  go_ret
  exact ⟨rfl, BW.out _ (B6.trans (b7.mono B6.size))⟩
end Go.Proofs.Ytcangaoamhaagaa

namespace Go.Proofs.Ytcangaoamhaagaa
open Go.RowKit
set_option linter.unusedVariables false

/-- One call that is asked for. -/
structure AskD where
  k : Int
  n : Int
  vk : Value
  vf : Value
  vg : Value
  ks : List (List Nat)
  F : List Nat
  G : List Nat
def AskD.cells (o : AskD) : List Value := [.int .i64 o.k, .int .i64 o.n, o.vk, o.vf, o.vg]
def AskD.Ok (w : World) (o : AskD) : Prop := RdP w o.vk o.ks ∧ Rd w o.vf o.F ∧ Rd w o.vg o.G ∧ o.F.length ≤ 140737488351232 ∧ o.G.length ≤ 140737488351232 ∧ -9223372036854775808 ≤ o.n ∧ o.n ≤ 9223372036854775807
/-- A list reads as calls. -/
def RdA (w : World) (v : Value) (os : List AskD) : Prop :=
  os.length ≤ 281474976710656 ∧ ∃ a cap, v = .slice a os.length cap ∧ (os = [] ∨ ∃ b off, a = some ⟨b, off, none⟩ ∧ ∀ i o, os[i]? = some o → (∀ j x, o.cells[j]? = some x → w.cell? ⟨b, off + i * 5 + j, none⟩ = some x) ∧ AskD.Ok w o)

theorem ask_asked {w : World} {o : AskD} (h : AskD.Ok w o) (h1 : 2 ≤ o.k) (h2 : o.k ≤ 5) (w2 : World) (hb : Below w.heap.size w w2) :
    Calls Try.prog 46 #[.agg #[.int .i64 o.k, .int .i64 o.n, o.vk, o.vf, o.vg]] w2 fun e w' => e = .returned (.bool true) ∧ Below w2.heap.size w2 w' := by
  obtain ⟨k, n, vk, vf, vg, ks, F, G⟩ := o
  obtain ⟨_, hf, hg, lf, lg, _, _⟩ := h
  simp only at h1 h2 hf hg lf lg ⊢
  obtain ⟨aF, nF, cF, rfl⟩ := rd_slice hf
  obtain ⟨aG, nG, cG, rfl⟩ := rd_slice hg
  have e1 := (rd_lens hf).1
  have e2 := (rd_lens hg).1
  have hf' := hf.later hb
  have hg' := hg.later hb
  have hk : k = 2 ∨ k = 3 ∨ k = 4 ∨ k = 5 := by omega
  rcases hk with rfl | rfl | rfl | rfl
  · exact asked2 hf' hg' (by omega) (by omega)
  · exact asked3 hf' hg' (by omega) (by omega)
  · exact asked4 hf' hg' (by omega) (by omega)
  · exact asked5 hf' hg' (by omega) (by omega)

set_option maxRecDepth 100000 in
set_option maxHeartbeats 4000000 in
theorem plays_any {v : Value} {os : List AskD} {w : World} (lo hi : Int) (ho : RdA w v os)
    (hplays : ∀ o, o ∈ os → lo ≤ o.k → o.k ≤ hi → ∀ w2, Below w.heap.size w w2 → Calls Try.prog 46 #[.agg #[.int .i64 o.k, .int .i64 o.n, o.vk, o.vf, o.vg]] w2 fun e w' => e = .returned (.bool true) ∧ Below w2.heap.size w2 w') :
    Calls Try.prog 31 #[v, .int .i64 lo, .int .i64 hi] w fun e w' => e = .returned (.bool true) ∧ Below w.heap.size w w' := by
  obtain ⟨hn0, a, cap, rfl, hc⟩ := ho
  obtain ⟨n, hn⟩ : ∃ n, n = os.length := ⟨_, rfl⟩
  rw [← hn] at hn0 ⊢
  have HN : Hid (n = os.length) := hn
  have HP : Hid (∀ o, o ∈ os → lo ≤ o.k → o.k ≤ hi → ∀ w2, Below w.heap.size w w2 → Calls Try.prog 46 #[.agg #[.int .i64 o.k, .int .i64 o.n, o.vk, o.vf, o.vg]] w2 fun e w' => e = .returned (.bool true) ∧ Below w2.heap.size w2 w') := hplays
  have HC : Hid (os = [] ∨ ∃ b off, a = some ⟨b, off, none⟩ ∧ ∀ i o, os[i]? = some o → (∀ j x, o.cells[j]? = some x → w.cell? ⟨b, off + i * 5 + j, none⟩ = some x) ∧ AskD.Ok w o) := hc
  clear hn hplays hc
  go_enter Try.func31, Try.ntmps31
  go_wp2_with (go_at_call 12; fail)
  refine (started_any _).mono ?_
  rintro e0 w0 ⟨rfl, hb0⟩
  go_wp2
  go_loopw [7, 8] (fun x i wr => ∃ t : Nat, t ≤ n ∧ i = .int .i64 ((t : Nat) : Int) ∧ x = .bool true ∧ Below w.heap.size w wr) (fun _ i _ => n - (intOf i).toNat)
  case atStart => exact ⟨0, Nat.zero_le _, rfl, rfl, hb0⟩
  case round =>
    obtain ⟨t, htn, rfl, rfl, hb1⟩ := hrel
    by_cases hlt : t < n
    · have hlt2 : (t : Int) < (n : Int) := by omega
      rcases HC.out with h0 | ⟨b, off, rfl, hcell⟩
      · have := HN.out; rw [h0] at this; simp at this; omega
      obtain ⟨o, hoi⟩ : ∃ o, os[t]? = some o := ⟨os[t]'(by rw [← HN.out]; exact hlt), List.getElem?_eq_getElem _⟩
      have hmem := List.mem_of_getElem? hoi
      obtain ⟨hcs, _⟩ := hcell t o hoi
      have HCS : Hid (∀ j x, o.cells[j]? = some x → wr.cell? ⟨b, off + t * 5 + j, none⟩ = some x) := fun j x h => by
        have := hcs j x h
        rw [hb1.cell (p := ⟨b, off + t * 5 + j, none⟩) (World.block_lt_of_cell? w _ this)]; exact this
      clear hcs hcell hoi
      have c0 := HCS.out 0 _ rfl
      have c1 := HCS.out 1 _ rfl
      have c2 := HCS.out 2 _ rfl
      have c3 := HCS.out 3 _ rfl
      have c4 := HCS.out 4 _ rfl
      simp only [Nat.add_zero] at c0
      obtain ⟨kk, nn, vk, vf, vg, ks, F, G⟩ := o
      simp only at c0 c1 c2 c3 c4
      by_cases h1 : lo ≤ kk
      · by_cases h2 : kk ≤ hi
        · have HPL := HP.out _ hmem h1 h2 wr hb1
          have HPL2 : Hid (Calls Try.prog 46 #[.agg #[.int .i64 kk, .int .i64 nn, vk, vf, vg]] wr fun e w' => e = .returned (.bool true) ∧ Below wr.heap.size wr w') := HPL
          clear HPL hmem
          go_wp2_with (go_at_call 46; fail)
          refine HPL2.out.mono ?_
          rintro e w2 ⟨rfl, hb2⟩
          go_wp2
          go_roundw
          case rel => exact ⟨t + 1, by omega, by go_num, rfl, hb1.trans (hb2.mono hb1.size)⟩
          case measure => simp [intOf]; omega
        · go_wp2
          go_roundw
          case rel => exact ⟨t + 1, by omega, by go_num, rfl, hb1⟩
          case measure => simp [intOf]; omega
      · go_wp2
        go_roundw
        case rel => exact ⟨t + 1, by omega, by go_num, rfl, hb1⟩
        case measure => simp [intOf]; omega
    · have hge : (n : Int) ≤ (t : Int) := by omega
      go_wp2_with (go_at_call 12; fail)
      refine (started_any _).mono ?_
      rintro e9 w9 ⟨rfl, hb9⟩
      go_wp2
      go_ret
      exact ⟨rfl, hb1.trans (hb9.mono hb1.size)⟩

set_option maxRecDepth 100000 in
set_option maxHeartbeats 1000000 in
theorem answers_walk {v : Value} {os : List AskD} {w : World} (ho : RdA w v os) :
    Calls Try.prog 10 #[v] w fun e w' => e = .returned (.bool true) ∧ Below w.heap.size w w' := by
  have HP : Hid (Calls Try.prog 31 #[v, .int .i64 2, .int .i64 5] w fun e w' => e = .returned (.bool true) ∧ Below w.heap.size w w') := by
    refine plays_any 2 5 ho fun o hm h1 h2 w2 hb => ?_
    obtain ⟨_, a, cap, _, hc⟩ := ho
    rcases hc with h0 | ⟨b, off, _, hcell⟩
    · rw [h0] at hm; cases hm
    · obtain ⟨i, hi⟩ := List.mem_iff_getElem?.1 hm
      exact ask_asked (hcell i o hi).2 h1 h2 w2 hb
  obtain ⟨_, a, cap, rfl, _⟩ := ho
  go_enter Try.func10, Try.ntmps10
  go_wp2_with (go_at_call 31; fail)
  refine HP.out.mono ?_
  rintro e w1 ⟨rfl, b1⟩
  go_wp2
  go_ret
  exact ⟨rfl, b1⟩
end Go.Proofs.Ytcangaoamhaagaa

namespace Go.Proofs.Ytcangaoamhaagaa
open Go.ChangeShapes Go.WideShapes Go.ChangeAt Go.RowKit
set_option linter.unusedVariables false

theorem own_knob : ownKnob Try.prog.godebug = none := by kernel_rfl
theorem laid_out : laidOutB Try.prog = true := by kernel_rfl
theorem und_int : Try.prog.underlying 3 = some (.int .i64) := by kernel_rfl
theorem und_u64 : Try.prog.underlying 85 = some (.int .u64) := by kernel_rfl
theorem und_bool : Try.prog.underlying 4 = some .bool := by kernel_rfl
theorem cells_byte : Try.prog.cellsOf 5 = 1 := by kernel_rfl
theorem cells_bytes : Try.prog.cellsOf 24 = 1 := by kernel_rfl

theorem bulk_pos {H : Type} (d : DataW H) : 1 ≤ Rows.uptoBulk d := by
  cases d with
  | lit l => cases l <;> simp [Rows.uptoBulk]
  | nil => simp [Rows.uptoBulk]
  | ptr d => simp [Rows.uptoBulk]
  | slice elems spare => simp [Rows.uptoBulk]
  | agg parts => simp [Rows.uptoBulk]
  | iface t d => simp [Rows.uptoBulk]
  | map entries => simp [Rows.uptoBulk]
  | held h => simp [Rows.uptoBulk]
theorem bulk_len {H : Type} (l : List (DataW H)) : l.length ≤ Rows.uptoBulkAll l := by
  induction l with
  | nil => simp [Rows.uptoBulkAll]
  | cons x r ih => have := bulk_pos x; simp only [Rows.uptoBulkAll, List.length_cons]; omega

/-- A slice of bytes that came in. -/
theorem open_bytes {H : Type} {enc : TypeId × Value → H} {W : World} {v : Value} {d : DataW H} {p : List MemPlace} {base : Nat} {held : Bool} (h : DataW.Trod enc Try.prog W base (fun _ => true) held 24 v d p) (hs : ∃ a n c, v = .slice a n c) :
    ∃ bs : List Nat, (bs.length ≤ 281474976710656 → Rd W v bs) ∧ bs.length + 1 ≤ Rows.uptoBulk d ∧ (bs = [] ∨ ∃ elems spare, d = .slice elems spare ∧ elems.length = bs.length) := by
  obtain ⟨a, n, c, rfl⟩ := hs
  obtain ⟨fuel, hf⟩ := h
  rcases open_ints und_bytes und_byte cells_byte hf with ⟨hcs, hx⟩ | ⟨x, l, c', zs, hcs, _, hl, hm, hz, hx, hcell, hwz⟩
  · simp [Value.cells] at hcs
    obtain ⟨rfl, rfl, rfl⟩ := hcs
    refine ⟨[], fun _ => Rd.nil W, ?_, .inl rfl⟩
    have := bulk_pos d
    simpa using this
  · simp [Value.cells] at hcs
    obtain ⟨rfl, rfl, rfl⟩ := hcs
    simp only [if_true] at hz
    simp only [Prod.mk.injEq] at hx
    obtain ⟨rfl, _⟩ := hx
    have hby : ∀ i, i < zs.length → 0 ≤ zs.getD i 0 ∧ zs.getD i 0 < 256 := by
      intro i hi
      have hmem : zs.getD i 0 ∈ zs := by simp [List.getD, List.getElem?_eq_getElem hi]
      have := bounds_u8 (hwz _ hmem)
      omega
    refine ⟨(zs.take n).map Int.toNat, fun hlen => ⟨?_, some x, c, ?_, ?_, hm, hlen, ?_, ?_⟩, ?_, .inr ⟨_, _, rfl, by simp [lits]⟩⟩
    · intro y hy
      simp only [List.mem_map] at hy
      obtain ⟨z, hz1, rfl⟩ := hy
      have := bounds_u8 (hwz z (List.mem_of_mem_take hz1))
      omega
    · simp; omega
    · simp; omega
    · by_cases hc0 : c = 0
      · exact .inl hc0
      · right
        obtain ⟨b, off, spot⟩ := x
        have hc := hcell 0 (by omega)
        have hspot : spot = none := by simpa [Addr.add] using World.cell?_spot hc
        subst hspot
        exact ⟨b, off, rfl⟩
    · by_cases hn0 : n = 0
      · left; simp [hn0]
      · right
        obtain ⟨b, off, spot⟩ := x
        have hc := hcell 0 (by omega)
        have hspot : spot = none := by simpa [Addr.add] using World.cell?_spot hc
        subst hspot
        refine ⟨b, off, rfl, fun i hi => ?_⟩
        have hin : i < n := by simp at hi; omega
        have hc := hcell i (by omega)
        have e : (⟨b, off, none⟩ : Addr).add i = ⟨b, off + i, none⟩ := by unfold Addr.add; split <;> simp_all
        rw [e] at hc
        rw [hc]
        have hb := hby i (by omega)
        have e2 : ((zs.take n).map Int.toNat).getD i 0 = (zs.getD i 0).toNat := by
          simp [List.getElem?_take_of_lt hin, List.getElem?_eq_getElem (show i < zs.length by omega)]
        rw [e2, Int.toNat_of_nonneg hb.1]
    · have h1 := bulk_len (H := H) (lits .u8 (zs.take n))
      simp only [Rows.uptoBulk]
      simp [lits] at h1 ⊢
      omega

/-- What the reach gives of a slice of bytes. -/
theorem reach_bytes {H : Type} {ts : List TypeId} {ds gs : List (DataW H)} (h : (DataW.weightsEach Try.prog ts (ds ++ gs)).all (fun x => decide (x ≤ reachBytes)) = true) (j : Nat) (ht : ts[j]? = some 24) {d : DataW H} (hd : ds[j]? = some d) {bs : List Nat} (hx : bs = [] ∨ ∃ elems spare, d = .slice elems spare ∧ elems.length = bs.length) : bs.length ≤ 140737488351232 := by
  rcases hx with rfl | ⟨elems, spare, rfl, hl⟩
  · simp
  · have hd2 : (ds ++ gs)[j]? = some (.slice elems spare) := by
      rw [List.getElem?_append_left (List.getElem?_eq_some_iff.1 hd).1]
      exact hd
    have := sized_slice h ht hd2 und_bytes
    rw [show Try.prog.bytesOf 5 = 1 by kernel_rfl] at this
    unfold reachBytes at this
    omega

end Go.Proofs.Ytcangaoamhaagaa

namespace Go.Proofs.Ytcangaoamhaagaa
open Go.ChangeShapes Go.WideShapes Go.ChangeAt Go.RowKit
set_option linter.unusedVariables false

/-- The weights of one argument. -/
theorem weight_atP {H : Type} : ∀ {ts : List TypeId} {ds : List (DataW H)} (h : (DataW.weightsEach Try.prog ts ds).all (fun x => decide (x ≤ reachBytes)) = true) (j : Nat) {t : TypeId} {d : DataW H} (ht : ts[j]? = some t) (hd : ds[j]? = some d), (d.weights Try.prog t).all (fun x => decide (x ≤ reachBytes)) = true
  | [], _, _, j, _, _, ht, _ => by simp at ht
  | _ :: _, [], _, j, _, _, _, hd => by simp at hd
  | t :: ts, d :: ds, h, 0, _, _, ht, hd => by
    simp only [List.getElem?_cons_zero, Option.some.injEq] at ht hd
    subst ht hd
    simp only [DataW.weightsEach, List.all_append, Bool.and_eq_true] at h
    exact h.1
  | t :: ts, d :: ds, h, j + 1, _, _, ht, hd => by
    simp only [DataW.weightsEach, List.all_append, Bool.and_eq_true] at h
    exact weight_atP h.2 j (by simpa using ht) (by simpa using hd)
theorem weight_all {H : Type} {e : TypeId} : ∀ {ds : List (DataW H)} (h : (DataW.weightsAll Try.prog e ds).all (fun x => decide (x ≤ reachBytes)) = true) {d : DataW H} (hd : d ∈ ds), (d.weights Try.prog e).all (fun x => decide (x ≤ reachBytes)) = true
  | [], _, _, hd => by cases hd
  | x :: ds, h, d, hd => by
    simp only [DataW.weightsAll, List.all_append, Bool.and_eq_true] at h
    rcases List.mem_cons.1 hd with rfl | hd
    · exact h.1
    · exact weight_all h.2 hd

/-- A nil slice that came in has no room. -/
theorem parts_cap {H : Type} {enc : TypeId × Value → H} {W : World} {v : Value} {d : DataW H} {p : List MemPlace} {base : Nat} {held : Bool} (h : DataW.Trod enc Try.prog W base (fun _ => true) held 22 v d p) : ∀ n c, v = .slice none n c → c = 0 := by
  rintro n c rfl
  obtain ⟨fuel, hf⟩ := h
  rcases Deep.open_slice1 und_parts cells_bytes hf with ⟨hcs, _⟩ | ⟨x, l, c', m, k, V, D, Pl, hcs, _⟩
  · simp [Value.cells] at hcs
    exact hcs.2
  · simp [Value.cells] at hcs
/-- A slice that came in is no longer than its room. -/
theorem parts_cap2 {H : Type} {enc : TypeId × Value → H} {W : World} {v : Value} {d : DataW H} {p : List MemPlace} {base : Nat} {held : Bool} (h : DataW.Trod enc Try.prog W base (fun _ => true) held 22 v d p) : ∀ a n c, v = .slice a n c → n ≤ c ∧ c ≤ maxLen := by
  rintro a n c rfl
  obtain ⟨fuel, hf⟩ := h
  rcases Deep.open_slice1 und_parts cells_bytes hf with ⟨hcs, _⟩ | ⟨x, l, c', m, k, V, D, Pl, hcs, _, hl, hm, _⟩
  · simp [Value.cells] at hcs
    obtain ⟨rfl, rfl, rfl⟩ := hcs
    exact ⟨Nat.le_refl _, Nat.zero_le _⟩
  · simp [Value.cells] at hcs
    obtain ⟨rfl, rfl, rfl⟩ := hcs
    exact ⟨hl, hm⟩
/-- A slice of slices of bytes that came in, however long. -/
theorem open_partsF {H : Type} {enc : TypeId × Value → H} {W : World} {v : Value} {d : DataW H} {p : List MemPlace} {base : Nat} {held : Bool} (h : DataW.Trod enc Try.prog W base (fun _ => true) held 22 v d p) (hs : ∃ a n c, v = .slice a n c)
    (hk : (d.weights Try.prog 22).all (fun x => decide (x ≤ reachBytes)) = true) : ∃ ps : List (List Nat), RdP W v ps := by
  obtain ⟨a, n, c, rfl⟩ := hs
  obtain ⟨fuel, hf⟩ := h
  rcases Deep.open_slice1 und_parts cells_bytes hf with ⟨hcs, hx⟩ | ⟨x, l, c', m, k, V, D, Pl, hcs, _, hl, hm, hmm, hx, hel⟩
  · simp [Value.cells] at hcs
    obtain ⟨rfl, rfl, rfl⟩ := hcs
    exact ⟨[], by simp, none, 0, rfl, .inl rfl⟩
  · simp [Value.cells] at hcs
    obtain ⟨rfl, rfl, rfl⟩ := hcs
    simp only [if_true] at hmm
    simp only [Prod.mk.injEq] at hx
    obtain ⟨hx1, _⟩ := hx
    have hn : n ≤ 281474976710656 := by
      have hs2 : (DataW.weightsEach Try.prog [22] ([d] ++ [])).all (fun x => decide (x ≤ reachBytes)) = true := by simpa [DataW.weightsEach] using hk
      rw [hx1] at hs2
      have := sized_slice hs2 (j := 0) (t := 22) rfl rfl und_parts
      rw [show Try.prog.bytesOf 24 = 24 by kernel_rfl] at this
      simp at this
      unfold reachBytes at this
      omega
    have hw : ∀ j, j < n → ((D j).weights Try.prog 24).all (fun x => decide (x ≤ reachBytes)) = true := by
      intro j hj
      rw [hx1] at hk
      simp only [DataW.weights, und_parts, List.all_cons, List.all_append, Bool.and_eq_true] at hk
      exact weight_all hk.2.1 (by simp only [List.mem_map, List.mem_range]; exact ⟨j, hj, rfl⟩)
    have sum_le : ∀ j, j ≤ n → ∃ ps : List (List Nat), ps.length = j ∧ (∀ i, i < j → Rd W (V i) (ps.getD i [])) := by
      intro j
      induction j with
      | zero => intro _; exact ⟨[], rfl, fun i hi => by omega⟩
      | succ j ih =>
        intro hj
        obtain ⟨ps, hpl, hrd⟩ := ih (by omega)
        obtain ⟨hcell, htr⟩ := hel j (by omega)
        have hsl : ∃ a n c, V j = .slice a n c := by
          rcases DataW.trod_slice und_bytes htr with ⟨h0, _⟩ | ⟨a, len, cap, _, _, _, _, h0, _⟩
          · simp at h0; exact ⟨_, _, _, h0⟩
          · simp at h0; exact ⟨_, _, _, h0⟩
        have htr2 : DataW.Trod enc Try.prog W base (fun _ => true) held 24 (V j) (D j) (Pl j) := by
          obtain ⟨a, n, c, hv⟩ := hsl
          refine ⟨k, ?_⟩
          rw [hv] at htr ⊢
          simpa [Value.cells] using htr
        obtain ⟨bs, hbs, hbl, hfm⟩ := open_bytes htr2 hsl
        have hlen : bs.length ≤ 281474976710656 := by
          have hs2 : (DataW.weightsEach Try.prog [24] ([D j] ++ [])).all (fun x => decide (x ≤ reachBytes)) = true := by simpa [DataW.weightsEach] using hw j (by omega)
          have := reach_bytes hs2 0 rfl rfl hfm
          omega
        refine ⟨ps ++ [bs], by simp [hpl], ?_⟩
        intro i hi
        by_cases hij : i < j
        · have := hrd i hij
          have e : (ps ++ [bs]).getD i [] = ps.getD i [] := by simp [List.getD, List.getElem?_append_left (show i < ps.length by omega)]
          rw [e]
          exact this
        · have hij2 : i = j := by omega
          subst hij2
          have e : (ps ++ [bs]).getD i [] = bs := by simp [List.getD, hpl]
          rw [e]
          exact hbs hlen
    obtain ⟨ps, hpl, hrd⟩ := sum_le n (Nat.le_refl _)
    refine ⟨ps, by omega, some x, c, by rw [hpl], ?_⟩
    by_cases hn0 : n = 0
    · left; exact List.eq_nil_of_length_eq_zero (by omega)
    · right
      obtain ⟨b, off, spot⟩ := x
      have hc := (hel 0 (by omega)).1
      have hspot : spot = none := by simpa [Addr.add] using World.cell?_spot hc
      subst hspot
      refine ⟨b, off, rfl, fun i hi => ⟨V i, ?_, hrd i (by omega)⟩⟩
      have hc := (hel i (by omega)).1
      have e : (⟨b, off, none⟩ : Addr).add i = ⟨b, off + i, none⟩ := by unfold Addr.add; split <;> simp_all
      rw [e] at hc
      exact hc

end Go.Proofs.Ytcangaoamhaagaa
