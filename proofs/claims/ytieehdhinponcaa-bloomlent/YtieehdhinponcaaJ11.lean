import Derived.Test.YtieehdhinponcaaJ10
import Derived.Test.YtieehdhinponcaaJ00
namespace Go.Proofs.Ytieehdhinponcaa
open Go.RowKit
set_option linter.unusedVariables false


set_option maxRecDepth 100000 in
set_option maxHeartbeats 1000000 in
theorem asked2 {aF aG : Option Addr} {nF cF nG cG : Nat} {F G : List Nat} {N : Int} {ks : Value} {w : World} (hF : Rd w (.slice aF nF cF) F) (hG : Rd w (.slice aG nG cG) G) (lF : nF ≤ 140737488351232) (lG : nG ≤ 140737488351232) :
    Calls Try.prog 46 #[.agg #[.int .i64 2, .int .i64 N, ks, .slice aF nF cF, .slice aG nG cG]] w fun e w' => e = .returned (.bool true) ∧ Below w.heap.size w w' := by
  obtain ⟨W0, hW0⟩ : ∃ W0, W0 = w.alloc (.cells #[.int .i64 2, .int .i64 N, ks, .slice aF nF cF, .slice aG nG cG] 42) := ⟨_, rfl⟩
  have b0 : Below w.heap.size w W0 := by rw [hW0]; exact (Below.refl _ _).alloc (Nat.le_refl _) _
  have hsz : w.heap.size < W0.heap.size := by rw [hW0]; simp
  have HK : Hid (∀ wx, Below W0.heap.size W0 wx → wx.cell? ⟨w.heap.size, 0, none⟩ = some (.int .i64 2) ∧ wx.cell? ⟨w.heap.size, 3, none⟩ = some (.slice aF nF cF) ∧ wx.cell? ⟨w.heap.size, 4, none⟩ = some (.slice aG nG cG)) := by
    have h : ∀ wx, Below W0.heap.size W0 wx → wx.cell? ⟨w.heap.size, 0, none⟩ = some (.int .i64 2) ∧ wx.cell? ⟨w.heap.size, 3, none⟩ = some (.slice aF nF cF) ∧ wx.cell? ⟨w.heap.size, 4, none⟩ = some (.slice aG nG cG) := fun wx hx => by
      refine ⟨(hx.cell (p := ⟨w.heap.size, 0, none⟩) hsz).trans ?_, (hx.cell (p := ⟨w.heap.size, 3, none⟩) hsz).trans ?_, (hx.cell (p := ⟨w.heap.size, 4, none⟩) hsz).trans ?_⟩
      all_goals (rw [hW0, Joins.cell_of_block (World.alloc_heap_new w _)]; rfl)
    exact h
  have RF : Hid (∀ wx, Below W0.heap.size W0 wx → Rd wx (.slice aF nF cF) F) := by
    have h : ∀ wx, Below W0.heap.size W0 wx → Rd wx (.slice aF nF cF) F := fun wx hx => (hF.later b0).later hx
    exact h
  have RG : Hid (∀ wx, Below W0.heap.size W0 wx → Rd wx (.slice aG nG cG) G) := by
    have h : ∀ wx, Below W0.heap.size W0 wx → Rd wx (.slice aG nG cG) G := fun wx hx => (hG.later b0).later hx
    exact h
  clear hF hG hsz
  go_enter Try.func46, Try.ntmps46
  go_wp2_with (first | (go_at_call_of 23 (Value.slice aF nF cF); rw [← hW0]; clear hW0; refine Calls.mono (wide_at (RF.out _ (Below.refl _ _)) lF) ?_; rintro e1 w1 ⟨g1, c1, rfl, r1, b1⟩; obtain ⟨q10, q13, q14⟩ := HK.out _ b1) | (have BB := b1; go_at_call_of 23 (Value.slice aG nG cG); refine Calls.mono (wide_at (RG.out _ b1) lG) ?_; rintro e2 w2 ⟨g2, c2, rfl, r2, b2⟩; obtain ⟨q20, q23, q24⟩ := HK.out _ (b1.trans (b2.mono b1.size))))
  have B2 := b1.trans (b2.mono b1.size)
  have HR1 : Hid (∀ wx, Below w2.heap.size w2 wx → Rd wx (.slice (some ⟨g1, 0, none⟩) (nF + 5) c1) (F ++ marksL)) := by
    have h : ∀ wx, Below w2.heap.size w2 wx → Rd wx (.slice (some ⟨g1, 0, none⟩) (nF + 5) c1) (F ++ marksL) := fun wx hx => (r1.later b2).later hx
    exact h
  have HR2 : Hid (∀ wx, Below w2.heap.size w2 wx → Rd wx (.slice (some ⟨g2, 0, none⟩) (nG + 5) c2) (G ++ marksL)) := by
    have h : ∀ wx, Below w2.heap.size w2 wx → Rd wx (.slice (some ⟨g2, 0, none⟩) (nG + 5) c2) (G ++ marksL) := fun wx hx => r2.later hx
    exact h
  obtain ⟨hn1, hle1, hcm1, -⟩ := rd_lens r1
  obtain ⟨hn2, hle2, hcm2, -⟩ := rd_lens r2
  have HF2 : Hid (∀ wx, Below w2.heap.size w2 wx → Rd wx (.slice aF nF cF) F) := by
    have h : ∀ wx, Below w2.heap.size w2 wx → Rd wx (.slice aF nF cF) F := fun wx hx => (RF.out _ B2).later hx
    exact h
  have HG2 : Hid (∀ wx, Below w2.heap.size w2 wx → Rd wx (.slice aG nG cG) G) := by
    have h : ∀ wx, Below w2.heap.size w2 wx → Rd wx (.slice aG nG cG) G := fun wx hx => (RG.out _ B2).later hx
    exact h
  have HK2 : Hid (∀ wx, Below w2.heap.size w2 wx → wx.cell? ⟨w.heap.size, 3, none⟩ = some (.slice aF nF cF) ∧ wx.cell? ⟨w.heap.size, 4, none⟩ = some (.slice aG nG cG)) := by
    have h : ∀ wx, Below w2.heap.size w2 wx → wx.cell? ⟨w.heap.size, 3, none⟩ = some (.slice aF nF cF) ∧ wx.cell? ⟨w.heap.size, 4, none⟩ = some (.slice aG nG cG) := fun wx hx => (HK.out _ (B2.trans (hx.mono B2.size))).2
    exact h
  have BW : Hid (∀ wx, Below w2.heap.size w2 wx → Below w.heap.size w wx) := by
    have h : ∀ wx, Below w2.heap.size w2 wx → Below w.heap.size w wx := fun wx hx => b0.trans ((B2.mono b0.size).trans (hx.mono (Nat.le_trans b0.size B2.size)))
    exact h
  have hlF := (rd_lens (RF.out _ B2)).1
  have hlG := (rd_lens (RG.out _ B2)).1
  have HU : Hid (∀ wx, Below w2.heap.size w2 wx → Rd wx (.slice (some ⟨g1, 0, none⟩) nF c1) F) := by
    have h : ∀ wx, Below w2.heap.size w2 wx → Rd wx (.slice (some ⟨g1, 0, none⟩) nF c1) F := fun wx hx => by
      have := (HR1.out wx hx).upto nF (by omega)
      rwa [show (F ++ marksL).take nF = F by rw [hlF]; simp] at this
    exact h
  have HV : Hid (∀ wx, Below w2.heap.size w2 wx → Rd wx (.slice (some ⟨g2, 0, none⟩) nG c2) G) := by
    have h : ∀ wx, Below w2.heap.size w2 wx → Rd wx (.slice (some ⟨g2, 0, none⟩) nG c2) G := fun wx hx => by
      have := (HR2.out wx hx).upto nG (by omega)
      rwa [show (G ++ marksL).take nG = G by rw [hlG]; simp] at this
    exact h
  have HCk : Hid (∀ wx, Below w2.heap.size w2 wx → Calls Try.prog 16 #[.slice (some ⟨g1, 0, none⟩) nF c1, .slice (some ⟨g2, 0, none⟩) nG c2] wx fun e w' => e = .returned (.tuple #[.bool (hasB F G), .int .i64 ((chkE F : Nat) : Int)]) ∧ Below w2.heap.size w2 w') := by
    have h : ∀ wx, Below w2.heap.size w2 wx → Calls Try.prog 16 #[.slice (some ⟨g1, 0, none⟩) nF c1, .slice (some ⟨g2, 0, none⟩) nG c2] wx fun e w' => e = .returned (.tuple #[.bool (hasB F G), .int .i64 ((chkE F : Nat) : Int)]) ∧ Below w2.heap.size w2 w' := fun wx hx => (has_any (HU.out wx hx) (HV.out wx hx)).mono fun e w' h => ⟨h.1, hx.trans (h.2.mono hx.size)⟩
    exact h
  have HRk : Hid (∀ wx, Below w2.heap.size w2 wx → Calls Try.prog 25 #[.slice aF nF cF, .slice aG nG cG] wx fun e w' => e = .returned (.tuple #[.bool (hasB F G), .int .i64 ((chkE F : Nat) : Int)]) ∧ Below w2.heap.size w2 w') := by
    have h : ∀ wx, Below w2.heap.size w2 wx → Calls Try.prog 25 #[.slice aF nF cF, .slice aG nG cG] wx fun e w' => e = .returned (.tuple #[.bool (hasB F G), .int .i64 ((chkE F : Nat) : Int)]) ∧ Below w2.heap.size w2 w' := fun wx hx => (refHas_any (HF2.out wx hx) (HG2.out wx hx)).mono fun e w' h => ⟨h.1, hx.trans (h.2.mono hx.size)⟩
    exact h
  have bd : Below w2.heap.size w2 w2.drew := (Below.refl _ _).drew
  have p0 := HK2.out _ bd
  have i1 : (0 : Int) ≤ (nF : Int) := by omega
  have i2 : (nF : Int) ≤ (c1 : Int) := by omega
  have i3 : (0 : Int) ≤ (nG : Int) := by omega
  have i4 : (nG : Int) ≤ (c2 : Int) := by omega
  obtain ⟨E, hE⟩ : ∃ E, E = chkE F := ⟨_, rfl⟩
  obtain ⟨Z, hZ⟩ : ∃ Z, Z = hasB F G := ⟨_, rfl⟩
  rw [← hE, ← hZ] at HCk HRk
  clear hn1 hn2 hlF hlG hE RF RG HK b0 b1 b2 B2 r1 r2 q10 q13 q14 q20 q23 q24 hZ
  go_region_held3 (fun wx => wx.cell? ⟨w.heap.size, 3, none⟩ = some (.slice aF nF cF) ∧ wx.cell? ⟨w.heap.size, 4, none⟩ = some (.slice aG nG cG)) (first | exact p0 | exact p3) (first | (go_at_call 16; refine Calls.mono (HCk.out _ bd) ?_; rintro e3 w3 ⟨rfl, b3⟩; have p3 := HK2.out _ b3))
  have t3 := (HK2.out _ b3).1
  have t4 := (HK2.out _ b3).2
  go_wp2_with (go_at_call 25; fail)
  refine Calls.mono (HRk.out _ b3) ?_
  rintro e5 w5 ⟨rfl, b5⟩
  go_wp2_with (go_at_call 14; fail)
  refine Calls.mono (num_any _ _) ?_
  rintro e9 w9 ⟨rfl, rfl⟩
  have s3 := (HK2.out _ b5).1
  have s4 := (HK2.out _ b5).2
  go_wp2_with (go_at_call_of 29 (Value.slice (some ⟨g1, 0, none⟩) (nF + 5) c1); fail)
  refine Calls.mono (kept_any (HR1.out _ b5) (HF2.out _ b5)) ?_
  rintro e6 w6 ⟨rfl, b6⟩
  have B6 := (b5).trans (b6.mono (b5).size)
  have s46 := (HK2.out _ B6).2
  go_wp2_with (go_at_call_of 29 (Value.slice (some ⟨g2, 0, none⟩) (nG + 5) c2); fail)
  refine Calls.mono (kept_any (HR2.out _ B6) (HG2.out _ B6)) ?_
  rintro e7 w7 ⟨rfl, b7⟩
  go_wp2
  go_ret
  exact ⟨rfl, BW.out _ (B6.trans (b7.mono B6.size))⟩
end Go.Proofs.Ytieehdhinponcaa

namespace Go.Proofs.Ytieehdhinponcaa
open Go.RowKit
set_option linter.unusedVariables false

theorem uniL_bys {A B : List Nat} (ha : Bys A) (hb : Bys B) : Bys (uniL A B) := by
  unfold uniL
  split
  · exact unionL_bys ha hb
  · intro x hx; simp at hx
theorem uniL_len (A B : List Nat) : (uniL A B).length ≤ A.length + 6 := by
  unfold uniL
  split
  · simp [unionL]; omega
  · simp

set_option maxRecDepth 100000 in
set_option maxHeartbeats 1000000 in
theorem asked4 {aF aG : Option Addr} {nF cF nG cG : Nat} {F G : List Nat} {N : Int} {ks : Value} {w : World} (hF : Rd w (.slice aF nF cF) F) (hG : Rd w (.slice aG nG cG) G) (lF : nF ≤ 140737488351232) (lG : nG ≤ 140737488351232) :
    Calls Try.prog 46 #[.agg #[.int .i64 4, .int .i64 N, ks, .slice aF nF cF, .slice aG nG cG]] w fun e w' => e = .returned (.bool true) ∧ Below w.heap.size w w' := by
  obtain ⟨W0, hW0⟩ : ∃ W0, W0 = w.alloc (.cells #[.int .i64 4, .int .i64 N, ks, .slice aF nF cF, .slice aG nG cG] 42) := ⟨_, rfl⟩
  have b0 : Below w.heap.size w W0 := by rw [hW0]; exact (Below.refl _ _).alloc (Nat.le_refl _) _
  have hsz : w.heap.size < W0.heap.size := by rw [hW0]; simp
  have HK : Hid (∀ wx, Below W0.heap.size W0 wx → wx.cell? ⟨w.heap.size, 0, none⟩ = some (.int .i64 4) ∧ wx.cell? ⟨w.heap.size, 3, none⟩ = some (.slice aF nF cF) ∧ wx.cell? ⟨w.heap.size, 4, none⟩ = some (.slice aG nG cG)) := by
    have h : ∀ wx, Below W0.heap.size W0 wx → wx.cell? ⟨w.heap.size, 0, none⟩ = some (.int .i64 4) ∧ wx.cell? ⟨w.heap.size, 3, none⟩ = some (.slice aF nF cF) ∧ wx.cell? ⟨w.heap.size, 4, none⟩ = some (.slice aG nG cG) := fun wx hx => by
      refine ⟨(hx.cell (p := ⟨w.heap.size, 0, none⟩) hsz).trans ?_, (hx.cell (p := ⟨w.heap.size, 3, none⟩) hsz).trans ?_, (hx.cell (p := ⟨w.heap.size, 4, none⟩) hsz).trans ?_⟩
      all_goals (rw [hW0, Joins.cell_of_block (World.alloc_heap_new w _)]; rfl)
    exact h
  have RF : Hid (∀ wx, Below W0.heap.size W0 wx → Rd wx (.slice aF nF cF) F) := by
    have h : ∀ wx, Below W0.heap.size W0 wx → Rd wx (.slice aF nF cF) F := fun wx hx => (hF.later b0).later hx
    exact h
  have RG : Hid (∀ wx, Below W0.heap.size W0 wx → Rd wx (.slice aG nG cG) G) := by
    have h : ∀ wx, Below W0.heap.size W0 wx → Rd wx (.slice aG nG cG) G := fun wx hx => (hG.later b0).later hx
    exact h
  clear hF hG hsz
  go_enter Try.func46, Try.ntmps46
  go_wp2_with (first | (go_at_call_of 23 (Value.slice aF nF cF); rw [← hW0]; clear hW0; refine Calls.mono (wide_at (RF.out _ (Below.refl _ _)) lF) ?_; rintro e1 w1 ⟨g1, c1, rfl, r1, b1⟩; obtain ⟨q10, q13, q14⟩ := HK.out _ b1) | (have BB := b1; go_at_call_of 23 (Value.slice aG nG cG); refine Calls.mono (wide_at (RG.out _ b1) lG) ?_; rintro e2 w2 ⟨g2, c2, rfl, r2, b2⟩; obtain ⟨q20, q23, q24⟩ := HK.out _ (b1.trans (b2.mono b1.size))))
  have B2 := b1.trans (b2.mono b1.size)
  have HR1 : Hid (∀ wx, Below w2.heap.size w2 wx → Rd wx (.slice (some ⟨g1, 0, none⟩) (nF + 5) c1) (F ++ marksL)) := by
    have h : ∀ wx, Below w2.heap.size w2 wx → Rd wx (.slice (some ⟨g1, 0, none⟩) (nF + 5) c1) (F ++ marksL) := fun wx hx => (r1.later b2).later hx
    exact h
  have HR2 : Hid (∀ wx, Below w2.heap.size w2 wx → Rd wx (.slice (some ⟨g2, 0, none⟩) (nG + 5) c2) (G ++ marksL)) := by
    have h : ∀ wx, Below w2.heap.size w2 wx → Rd wx (.slice (some ⟨g2, 0, none⟩) (nG + 5) c2) (G ++ marksL) := fun wx hx => r2.later hx
    exact h
  obtain ⟨hn1, hle1, hcm1, -⟩ := rd_lens r1
  obtain ⟨hn2, hle2, hcm2, -⟩ := rd_lens r2
  have HF2 : Hid (∀ wx, Below w2.heap.size w2 wx → Rd wx (.slice aF nF cF) F) := by
    have h : ∀ wx, Below w2.heap.size w2 wx → Rd wx (.slice aF nF cF) F := fun wx hx => (RF.out _ B2).later hx
    exact h
  have HG2 : Hid (∀ wx, Below w2.heap.size w2 wx → Rd wx (.slice aG nG cG) G) := by
    have h : ∀ wx, Below w2.heap.size w2 wx → Rd wx (.slice aG nG cG) G := fun wx hx => (RG.out _ B2).later hx
    exact h
  have HK2 : Hid (∀ wx, Below w2.heap.size w2 wx → wx.cell? ⟨w.heap.size, 3, none⟩ = some (.slice aF nF cF) ∧ wx.cell? ⟨w.heap.size, 4, none⟩ = some (.slice aG nG cG)) := by
    have h : ∀ wx, Below w2.heap.size w2 wx → wx.cell? ⟨w.heap.size, 3, none⟩ = some (.slice aF nF cF) ∧ wx.cell? ⟨w.heap.size, 4, none⟩ = some (.slice aG nG cG) := fun wx hx => (HK.out _ (B2.trans (hx.mono B2.size))).2
    exact h
  have BW : Hid (∀ wx, Below w2.heap.size w2 wx → Below w.heap.size w wx) := by
    have h : ∀ wx, Below w2.heap.size w2 wx → Below w.heap.size w wx := fun wx hx => b0.trans ((B2.mono b0.size).trans (hx.mono (Nat.le_trans b0.size B2.size)))
    exact h
  have hlF := (rd_lens (RF.out _ B2)).1
  have hlG := (rd_lens (RG.out _ B2)).1
  have HU : Hid (∀ wx, Below w2.heap.size w2 wx → Rd wx (.slice (some ⟨g1, 0, none⟩) nF c1) F) := by
    have h : ∀ wx, Below w2.heap.size w2 wx → Rd wx (.slice (some ⟨g1, 0, none⟩) nF c1) F := fun wx hx => by
      have := (HR1.out wx hx).upto nF (by omega)
      rwa [show (F ++ marksL).take nF = F by rw [hlF]; simp] at this
    exact h
  have HV : Hid (∀ wx, Below w2.heap.size w2 wx → Rd wx (.slice (some ⟨g2, 0, none⟩) nG c2) G) := by
    have h : ∀ wx, Below w2.heap.size w2 wx → Rd wx (.slice (some ⟨g2, 0, none⟩) nG c2) G := fun wx hx => by
      have := (HR2.out wx hx).upto nG (by omega)
      rwa [show (G ++ marksL).take nG = G by rw [hlG]; simp] at this
    exact h
  have ubys : Bys (uniL F G) := uniL_bys (RF.out _ B2).1 (RG.out _ B2).1
  have ulen : (uniL F G).length ≤ 281474976710656 := Nat.le_trans (uniL_len F G) (by omega)
  have HCk : Hid (∀ wx, Below w2.heap.size w2 wx → Calls Try.prog 15 #[.slice (some ⟨g1, 0, none⟩) nF c1, .slice (some ⟨g2, 0, none⟩) nG c2] wx fun e w' => ∃ a m c, e = .returned (.tuple #[.slice a m c, .int .i64 ((uniE F G : Nat) : Int)]) ∧ Rd w' (.slice a m c) (uniL F G) ∧ Below w2.heap.size w2 w' ∧ Below wx.heap.size wx w') := by
    have h : ∀ wx, Below w2.heap.size w2 wx → Calls Try.prog 15 #[.slice (some ⟨g1, 0, none⟩) nF c1, .slice (some ⟨g2, 0, none⟩) nG c2] wx fun e w' => ∃ a m c, e = .returned (.tuple #[.slice a m c, .int .i64 ((uniE F G : Nat) : Int)]) ∧ Rd w' (.slice a m c) (uniL F G) ∧ Below w2.heap.size w2 w' ∧ Below wx.heap.size wx w' := fun wx hx => (union_any (HU.out wx hx) (HV.out wx hx)).mono fun e w' ⟨a, m, c, h, own, hb⟩ => ⟨a, m, c, h, own.rd ubys (by have := own.1; omega), hx.trans (hb.mono hx.size), hb⟩
    exact h
  have HRk : Hid (∀ wx, Below w2.heap.size w2 wx → Calls Try.prog 28 #[.slice aF nF cF, .slice aG nG cG] wx fun e w' => ∃ a m c, e = .returned (.tuple #[.slice a m c, .int .i64 ((uniE F G : Nat) : Int)]) ∧ Rd w' (.slice a m c) (uniL F G) ∧ Below w2.heap.size w2 w' ∧ Below wx.heap.size wx w') := by
    have h : ∀ wx, Below w2.heap.size w2 wx → Calls Try.prog 28 #[.slice aF nF cF, .slice aG nG cG] wx fun e w' => ∃ a m c, e = .returned (.tuple #[.slice a m c, .int .i64 ((uniE F G : Nat) : Int)]) ∧ Rd w' (.slice a m c) (uniL F G) ∧ Below w2.heap.size w2 w' ∧ Below wx.heap.size wx w' := fun wx hx => (refUnion_any (HF2.out wx hx) (HG2.out wx hx)).mono fun e w' ⟨a, m, c, h, own, hb⟩ => ⟨a, m, c, h, own.rd ubys (by have := own.1; omega), hx.trans (hb.mono hx.size), hb⟩
    exact h
  have bd : Below w2.heap.size w2 w2.drew := (Below.refl _ _).drew
  have p0 := HK2.out _ bd
  have i1 : (0 : Int) ≤ (nF : Int) := by omega
  have i2 : (nF : Int) ≤ (c1 : Int) := by omega
  have i3 : (0 : Int) ≤ (nG : Int) := by omega
  have i4 : (nG : Int) ≤ (c2 : Int) := by omega
  obtain ⟨E, hE⟩ : ∃ E, E = uniE F G := ⟨_, rfl⟩
  obtain ⟨Z, hZ⟩ : ∃ Z, Z = uniL F G := ⟨_, rfl⟩
  rw [← hE, ← hZ] at HCk HRk
  clear hn1 hn2 hlF hlG hE RF RG HK b0 b1 b2 B2 r1 r2 q10 q13 q14 q20 q23 q24 hZ ubys ulen
  go_region_held3 (fun wx => wx.cell? ⟨w.heap.size, 3, none⟩ = some (.slice aF nF cF) ∧ wx.cell? ⟨w.heap.size, 4, none⟩ = some (.slice aG nG cG)) (first | exact p0 | exact p3) (first | (go_at_call 15; refine Calls.mono (HCk.out _ bd) ?_; rintro e3 w3 ⟨a3, m3, c3, rfl, r3, b3, b3'⟩; have p3 := HK2.out _ b3))
  have t3 := (HK2.out _ b3).1
  have t4 := (HK2.out _ b3).2
  go_wp2_with (go_at_call 28; fail)
  refine Calls.mono (HRk.out _ b3) ?_
  rintro e5 w5 ⟨a5, m5, c5, rfl, r5, b5, b5'⟩
  go_wp2_with (go_at_call 14; fail)
  refine Calls.mono (num_any _ _) ?_
  rintro e9 w9 ⟨rfl, rfl⟩
  go_wp2_with (go_at_call 18; fail)
  refine Calls.mono (alike_any (r3.later b5') r5) ?_
  rintro e8 w8 ⟨rfl, rfl⟩
  have s3 := (HK2.out _ b5).1
  have s4 := (HK2.out _ b5).2
  go_wp2_with (go_at_call_of 29 (Value.slice (some ⟨g1, 0, none⟩) (nF + 5) c1); fail)
  refine Calls.mono (kept_any (HR1.out _ b5) (HF2.out _ b5)) ?_
  rintro e6 w6 ⟨rfl, b6⟩
  have B6 := (b5).trans (b6.mono (b5).size)
  have s46 := (HK2.out _ B6).2
  go_wp2_with (go_at_call_of 29 (Value.slice (some ⟨g2, 0, none⟩) (nG + 5) c2); fail)
  refine Calls.mono (kept_any (HR2.out _ B6) (HG2.out _ B6)) ?_
  rintro e7 w7 ⟨rfl, b7⟩
  go_wp2
  go_ret
  exact ⟨rfl, BW.out _ (B6.trans (b7.mono B6.size))⟩
end Go.Proofs.Ytieehdhinponcaa

namespace Go.Proofs.Ytieehdhinponcaa
open Go.RowKit
set_option linter.unusedVariables false

/-- One call that is asked for. -/
structure AskD where
  k : Int
  n : Int
  vk : Value
  vf : Value
  vg : Value
  ks : List (List Nat)
  F : List Nat
  G : List Nat
def AskD.cells (o : AskD) : List Value := [.int .i64 o.k, .int .i64 o.n, o.vk, o.vf, o.vg]
def AskD.Ok (w : World) (o : AskD) : Prop := RdP w o.vk o.ks ∧ Rd w o.vf o.F ∧ Rd w o.vg o.G ∧ o.F.length ≤ 140737488351232 ∧ o.G.length ≤ 140737488351232 ∧ -9223372036854775808 ≤ o.n ∧ o.n ≤ 9223372036854775807 ∧ (∀ i, (o.ks.getD i []).length ≤ 140737488351232) ∧ o.ks.length ≤ 5864062014634
/-- A list reads as calls. -/
def RdA (w : World) (v : Value) (os : List AskD) : Prop :=
  os.length ≤ 281474976710656 ∧ ∃ a cap, v = .slice a os.length cap ∧ (os = [] ∨ ∃ b off, a = some ⟨b, off, none⟩ ∧ ∀ i o, os[i]? = some o → (∀ j x, o.cells[j]? = some x → w.cell? ⟨b, off + i * 5 + j, none⟩ = some x) ∧ AskD.Ok w o)

theorem ask_asked {w : World} {o : AskD} (h : AskD.Ok w o) (h1 : 2 ≤ o.k) (h2 : o.k ≤ 5) (w2 : World) (hb : Below w.heap.size w w2) :
    Calls Try.prog 46 #[.agg #[.int .i64 o.k, .int .i64 o.n, o.vk, o.vf, o.vg]] w2 fun e w' => e = .returned (.bool true) ∧ Below w2.heap.size w2 w' := by
  obtain ⟨k, n, vk, vf, vg, ks, F, G⟩ := o
  obtain ⟨_, hf, hg, lf, lg, _, _, _, _⟩ := h
  simp only at h1 h2 hf hg lf lg ⊢
  obtain ⟨aF, nF, cF, rfl⟩ := rd_slice hf
  obtain ⟨aG, nG, cG, rfl⟩ := rd_slice hg
  have e1 := (rd_lens hf).1
  have e2 := (rd_lens hg).1
  have hf' := hf.later hb
  have hg' := hg.later hb
  have hk : k = 2 ∨ k = 3 ∨ k = 4 ∨ k = 5 := by omega
  rcases hk with rfl | rfl | rfl | rfl
  · exact asked2 hf' hg' (by omega) (by omega)
  · exact asked3 hf' hg' (by omega) (by omega)
  · exact asked4 hf' hg' (by omega) (by omega)
  · exact asked5 hf' hg' (by omega) (by omega)

set_option maxRecDepth 100000 in
set_option maxHeartbeats 4000000 in
theorem plays_any {v : Value} {os : List AskD} {w : World} (lo hi : Int) (ho : RdA w v os)
    (hplays : ∀ o, o ∈ os → lo ≤ o.k → o.k ≤ hi → ∀ w2, Below w.heap.size w w2 → Calls Try.prog 46 #[.agg #[.int .i64 o.k, .int .i64 o.n, o.vk, o.vf, o.vg]] w2 fun e w' => e = .returned (.bool true) ∧ Below w2.heap.size w2 w') :
    Calls Try.prog 31 #[v, .int .i64 lo, .int .i64 hi] w fun e w' => e = .returned (.bool true) ∧ Below w.heap.size w w' := by
  obtain ⟨hn0, a, cap, rfl, hc⟩ := ho
  obtain ⟨n, hn⟩ : ∃ n, n = os.length := ⟨_, rfl⟩
  rw [← hn] at hn0 ⊢
  have HN : Hid (n = os.length) := hn
  have HP : Hid (∀ o, o ∈ os → lo ≤ o.k → o.k ≤ hi → ∀ w2, Below w.heap.size w w2 → Calls Try.prog 46 #[.agg #[.int .i64 o.k, .int .i64 o.n, o.vk, o.vf, o.vg]] w2 fun e w' => e = .returned (.bool true) ∧ Below w2.heap.size w2 w') := hplays
  have HC : Hid (os = [] ∨ ∃ b off, a = some ⟨b, off, none⟩ ∧ ∀ i o, os[i]? = some o → (∀ j x, o.cells[j]? = some x → w.cell? ⟨b, off + i * 5 + j, none⟩ = some x) ∧ AskD.Ok w o) := hc
  clear hn hplays hc
  go_enter Try.func31, Try.ntmps31
  go_wp2_with (go_at_call 12; fail)
  refine (started_any _).mono ?_
  rintro e0 w0 ⟨rfl, hb0⟩
  go_wp2
  go_loopw [7, 8] (fun x i wr => ∃ t : Nat, t ≤ n ∧ i = .int .i64 ((t : Nat) : Int) ∧ x = .bool true ∧ Below w.heap.size w wr) (fun _ i _ => n - (intOf i).toNat)
  case atStart => exact ⟨0, Nat.zero_le _, rfl, rfl, hb0⟩
  case round =>
    obtain ⟨t, htn, rfl, rfl, hb1⟩ := hrel
    by_cases hlt : t < n
    · have hlt2 : (t : Int) < (n : Int) := by omega
      rcases HC.out with h0 | ⟨b, off, rfl, hcell⟩
      · have := HN.out; rw [h0] at this; simp at this; omega
      obtain ⟨o, hoi⟩ : ∃ o, os[t]? = some o := ⟨os[t]'(by rw [← HN.out]; exact hlt), List.getElem?_eq_getElem _⟩
      have hmem := List.mem_of_getElem? hoi
      obtain ⟨hcs, _⟩ := hcell t o hoi
      have HCS : Hid (∀ j x, o.cells[j]? = some x → wr.cell? ⟨b, off + t * 5 + j, none⟩ = some x) := fun j x h => by
        have := hcs j x h
        rw [hb1.cell (p := ⟨b, off + t * 5 + j, none⟩) (World.block_lt_of_cell? w _ this)]; exact this
      clear hcs hcell hoi
      have c0 := HCS.out 0 _ rfl
      have c1 := HCS.out 1 _ rfl
      have c2 := HCS.out 2 _ rfl
      have c3 := HCS.out 3 _ rfl
      have c4 := HCS.out 4 _ rfl
      simp only [Nat.add_zero] at c0
      obtain ⟨kk, nn, vk, vf, vg, ks, F, G⟩ := o
      simp only at c0 c1 c2 c3 c4
      by_cases h1 : lo ≤ kk
      · by_cases h2 : kk ≤ hi
        · have HPL := HP.out _ hmem h1 h2 wr hb1
          have HPL2 : Hid (Calls Try.prog 46 #[.agg #[.int .i64 kk, .int .i64 nn, vk, vf, vg]] wr fun e w' => e = .returned (.bool true) ∧ Below wr.heap.size wr w') := HPL
          clear HPL hmem
          go_wp2_with (go_at_call 46; fail)
          refine HPL2.out.mono ?_
          rintro e w2 ⟨rfl, hb2⟩
          go_wp2
          go_roundw
          case rel => exact ⟨t + 1, by omega, by go_num, rfl, hb1.trans (hb2.mono hb1.size)⟩
          case measure => simp [intOf]; omega
        · go_wp2
          go_roundw
          case rel => exact ⟨t + 1, by omega, by go_num, rfl, hb1⟩
          case measure => simp [intOf]; omega
      · go_wp2
        go_roundw
        case rel => exact ⟨t + 1, by omega, by go_num, rfl, hb1⟩
        case measure => simp [intOf]; omega
    · have hge : (n : Int) ≤ (t : Int) := by omega
      go_wp2_with (go_at_call 12; fail)
      refine (started_any _).mono ?_
      rintro e9 w9 ⟨rfl, hb9⟩
      go_wp2
      go_ret
      exact ⟨rfl, hb1.trans (hb9.mono hb1.size)⟩

set_option maxRecDepth 100000 in
set_option maxHeartbeats 1000000 in
theorem answers_walk {v : Value} {os : List AskD} {w : World} (ho : RdA w v os) :
    Calls Try.prog 10 #[v] w fun e w' => e = .returned (.bool true) ∧ Below w.heap.size w w' := by
  have HP : Hid (Calls Try.prog 31 #[v, .int .i64 2, .int .i64 5] w fun e w' => e = .returned (.bool true) ∧ Below w.heap.size w w') := by
    refine plays_any 2 5 ho fun o hm h1 h2 w2 hb => ?_
    obtain ⟨_, a, cap, _, hc⟩ := ho
    rcases hc with h0 | ⟨b, off, _, hcell⟩
    · rw [h0] at hm; cases hm
    · obtain ⟨i, hi⟩ := List.mem_iff_getElem?.1 hm
      exact ask_asked (hcell i o hi).2 h1 h2 w2 hb
  obtain ⟨_, a, cap, rfl, _⟩ := ho
  go_enter Try.func10, Try.ntmps10
  go_wp2_with (go_at_call 31; fail)
  refine HP.out.mono ?_
  rintro e w1 ⟨rfl, b1⟩
  go_wp2
  go_ret
  exact ⟨rfl, b1⟩
end Go.Proofs.Ytieehdhinponcaa

namespace Go.Proofs.Ytieehdhinponcaa
open Go.ChangeShapes Go.WideShapes Go.ChangeAt Go.RowKit
set_option linter.unusedVariables false

set_option maxRecDepth 100000 in
theorem und_ask : Try.prog.underlying 42 = some (.struct #[{ name := "Kind", type := 3, offset := 0, embedded := false, tag := "", pkgPath := "", byteOffset := 0 }, { name := "N", type := 3, offset := 1, embedded := false, tag := "", pkgPath := "", byteOffset := 8 }, { name := "Keys", type := 22, offset := 2, embedded := false, tag := "", pkgPath := "", byteOffset := 16 }, { name := "F", type := 24, offset := 3, embedded := false, tag := "", pkgPath := "", byteOffset := 40 }, { name := "G", type := 24, offset := 4, embedded := false, tag := "", pkgPath := "", byteOffset := 64 }]) := by kernel_rfl
theorem und_asks : Try.prog.underlying 52 = some (.slice 42) := by kernel_rfl
theorem cells_ask : Try.prog.cellsOf 42 = 5 := by kernel_rfl
theorem cells_int : Try.prog.cellsOf 3 = 1 := by kernel_rfl
theorem cells_parts : Try.prog.cellsOf 22 = 1 := by kernel_rfl

theorem slice_one {H : Type} {enc : TypeId × Value → H} {W : World} {base fuel : Nat} {held : Bool} {t e : TypeId} {c : Value} {x : DataW H × List MemPlace} (hu : Try.prog.underlying t = some (.slice e)) (h : DataW.trod enc Try.prog W base (fun _ => true) held fuel t [c] = some x) : (∃ a n k, c = .slice a n k) ∧ DataW.Trod enc Try.prog W base (fun _ => true) held t c x.1 x.2 := by
  have hsl : ∃ a n k, c = .slice a n k := by
    rcases DataW.trod_slice hu h with ⟨h0, _⟩ | ⟨a, len, cap, _, _, _, _, h0, _⟩
    · simp at h0; exact ⟨_, _, _, h0⟩
    · simp at h0; exact ⟨_, _, _, h0⟩
  refine ⟨hsl, fuel, ?_⟩
  obtain ⟨a, n, k, rfl⟩ := hsl
  simpa [Value.cells] using h

set_option maxRecDepth 100000 in
theorem open_ask {H : Type} {enc : TypeId × Value → H} {W : World} {base fuel : Nat} {held : Bool} {cs : List Value} {x : DataW H × List MemPlace} (h : DataW.trod enc Try.prog W base (fun _ => true) held fuel 42 cs = some x) (hk : (x.1.weights Try.prog 42).all (fun x => decide (x ≤ reachBytes)) = true) :
    ∃ o : AskD, cs = o.cells ∧ AskD.Ok W o := by
  obtain ⟨xs, n, rfl, rfl, hcl, hxl, hf⟩ := DataW.trod_struct und_ask h
  rw [cells_ask] at hcl
  obtain ⟨c0, c1, c2, c3, c4, rfl⟩ : ∃ c0 c1 c2 c3 c4, cs = [c0, c1, c2, c3, c4] := by
    match cs, hcl with
    | [c0, c1, c2, c3, c4], _ => exact ⟨_, _, _, _, _, rfl⟩
  obtain ⟨x0, x1, x2, x3, x4, rfl⟩ : ∃ x0 x1 x2 x3 x4, xs = [x0, x1, x2, x3, x4] := by
    match xs, hxl with
    | [c0, c1, c2, c3, c4], _ => exact ⟨_, _, _, _, _, rfl⟩
  have f0 := hf 0 _ rfl
  have f1 := hf 1 _ rfl
  have f2 := hf 2 _ rfl
  have f3 := hf 3 _ rfl
  have f4 := hf 4 _ rfl
  simp [cells_int, cells_bytes, cells_parts] at f0 f1 f2 f3 f4
  obtain ⟨n0, e0, _, w0⟩ := DataW.trod_int und_int f0
  obtain ⟨n1, e1, _, w1⟩ := DataW.trod_int und_int f1
  simp at e0 e1
  subst e0 e1
  have hs2 : (DataW.weightsEach Try.prog [3, 3, 22, 24, 24] ([x0.1, x1.1, x2.1, x3.1, x4.1] ++ [])).all (fun x => decide (x ≤ reachBytes)) = true := by
    simp only [DataW.weights, und_ask] at hk
    simpa using hk
  obtain ⟨s2, t2⟩ := slice_one und_parts f2
  obtain ⟨s3, t3⟩ := slice_one und_bytes f3
  obtain ⟨s4, t4⟩ := slice_one und_bytes f4
  obtain ⟨bf, hbf, hbfl, fmf⟩ := open_bytes t3 s3
  obtain ⟨bg, hbg, hbgl, fmg⟩ := open_bytes t4 s4
  obtain ⟨ps, hps, hpl, hpn⟩ := open_partsG t2 s2 (weight_atP hs2 2 rfl rfl)
  have lf := reach_bytes hs2 3 rfl rfl fmf
  have lg := reach_bytes hs2 4 rfl rfl fmg
  have b1 := bounds_i64 w1
  exact ⟨⟨n0, n1, c2, c3, c4, ps, bf, bg⟩, rfl, hps, hbf (by omega), hbg (by omega), lf, lg, by simp only; omega, by simp only; omega, hpl, hpn⟩

set_option maxRecDepth 100000 in
/-- A script that came in. -/
theorem open_asks {H : Type} {enc : TypeId × Value → H} {W : World} {v : Value} {d : DataW H} {p : List MemPlace} {base : Nat} {held : Bool} (h : DataW.Trod enc Try.prog W base (fun _ => true) held 52 v d p) (hs : ∃ a n c, v = .slice a n c) (hk : (d.weights Try.prog 52).all (fun x => decide (x ≤ reachBytes)) = true) :
    ∃ os : List AskD, RdA W v os := by
  obtain ⟨a, n, c, rfl⟩ := hs
  obtain ⟨fuel, hf⟩ := h
  rcases Deep.open_slice und_asks hf with ⟨hcs, hx⟩ | ⟨x, l, c', m, k, D, Pl, hcs, _, hl, hm, hmm, hx, hel⟩
  · simp [Value.cells] at hcs
    obtain ⟨rfl, rfl, rfl⟩ := hcs
    exact ⟨[], by simp, none, 0, rfl, .inl rfl⟩
  · simp [Value.cells] at hcs
    obtain ⟨rfl, rfl, rfl⟩ := hcs
    simp only [if_true] at hmm
    simp only [Prod.mk.injEq] at hx
    obtain ⟨hx1, _⟩ := hx
    have hn : n ≤ 281474976710656 := by
      have hs2 : (DataW.weightsEach Try.prog [52] ([d] ++ [])).all (fun x => decide (x ≤ reachBytes)) = true := by simpa [DataW.weightsEach] using hk
      rw [hx1] at hs2
      have := sized_slice hs2 (j := 0) (t := 52) rfl rfl und_asks
      rw [show Try.prog.bytesOf 42 = 88 by kernel_rfl] at this
      simp at this
      unfold reachBytes at this
      omega
    have hwt : ∀ j, j < n → ((D j).weights Try.prog 42).all (fun x => decide (x ≤ reachBytes)) = true := by
      intro j hj
      rw [hx1] at hk
      simp only [DataW.weights, und_asks, List.all_cons, List.all_append, Bool.and_eq_true] at hk
      exact weight_all hk.2.1 (by simp only [List.mem_map, List.mem_range]; exact ⟨j, hj, rfl⟩)
    rw [cells_ask] at hel
    have hop : ∀ i, i < n → ∃ o : AskD, (∀ j y, o.cells[j]? = some y → W.cell? ((x.add (i * 5)).add j) = some y) ∧ AskD.Ok W o := by
      intro i hi
      obtain ⟨cs', hc1, hc2⟩ := hel i (by omega)
      obtain ⟨o, rfl, hok⟩ := open_ask hc2 (hwt i hi)
      refine ⟨o, fun j y hj => ?_, hok⟩
      obtain ⟨_, hlen, hget⟩ := World.cells?_some hc1
      have hj5 : j < 5 := by
        have := (List.getElem?_eq_some_iff.1 hj).1
        simpa [AskD.cells] using this
      rw [hget j hj5]
      exact hj
    have build : ∀ q, q ≤ n → ∃ os : List AskD, os.length = q ∧ ∀ i o, os[i]? = some o → (∀ j y, o.cells[j]? = some y → W.cell? ((x.add (i * 5)).add j) = some y) ∧ AskD.Ok W o := by
      intro q
      induction q with
      | zero => intro _; exact ⟨[], rfl, fun i o h => by simp at h⟩
      | succ q ih =>
        intro hq
        obtain ⟨os, hol, hos⟩ := ih (by omega)
        obtain ⟨o, ho⟩ := hop q (by omega)
        refine ⟨os ++ [o], by simp [hol], fun i o' h => ?_⟩
        by_cases hi : i < os.length
        · rw [List.getElem?_append_left hi] at h
          exact hos i o' h
        · rw [List.getElem?_append_right (by omega)] at h
          have hi2 : i = q := by
            by_cases h9 : i - os.length = 0
            · omega
            · rw [List.getElem?_eq_none (by simp; omega)] at h; cases h
          subst hi2
          rw [hol, Nat.sub_self] at h
          simp at h
          subst h
          exact ho
    obtain ⟨os, hol, hos⟩ := build n (Nat.le_refl _)
    refine ⟨os, by omega, some x, c, by rw [hol], ?_⟩
    by_cases hn0 : n = 0
    · left; exact List.eq_nil_of_length_eq_zero (by omega)
    · right
      obtain ⟨b, off, spot⟩ := x
      have hc := (hop 0 (by omega))
      obtain ⟨o, hc, _⟩ := hc
      have hc0 := hc 0 _ rfl
      have hspot : spot = none := by simpa [Addr.add] using World.cell?_spot hc0
      subst hspot
      refine ⟨b, off, rfl, fun i o hi => ⟨fun j y hj => ?_, (hos i o hi).2⟩⟩
      have := (hos i o hi).1 j y hj
      have e : ∀ q r : Nat, ((⟨b, q, none⟩ : Addr).add r) = ⟨b, q + r, none⟩ := fun q r => by unfold Addr.add; split <;> simp_all
      rw [e, e] at this
      exact this

end Go.Proofs.Ytieehdhinponcaa

namespace Go.Proofs.Ytieehdhinponcaa
open Go.RowKit
set_option linter.unusedVariables false

set_option maxRecDepth 100000 in
set_option maxHeartbeats 1000000 in
theorem refShape_any (b n : Nat) (hb1 : 1 ≤ b) (hb : b ≤ 20) (hn : n ≤ 1048576) (w : World) :
    Calls Try.prog 41 #[.int .i64 (b : Int), .int .i64 (n : Int)] w fun e w' => e = .returned (.tuple #[.int .i64 ((pOf b : Nat) : Int), .int .i64 ((mOf b n : Nat) : Int)]) ∧ w' = w := by
  obtain ⟨t, ht⟩ : ∃ t, t = n * b := ⟨_, rfl⟩
  have htl : t ≤ 20971520 := by rw [ht]; exact Nat.mul_le_mul hn hb
  have hti : (n : Int) * (b : Int) = (t : Int) := by rw [ht]; simp
  obtain ⟨p, hp⟩ : ∃ p, p = pOf b := ⟨_, rfl⟩
  obtain ⟨m, hm⟩ : ∃ m, m = mOf b n := ⟨_, rfl⟩
  rw [← hp, ← hm]
  unfold pOf at hp
  unfold mOf at hm
  rw [← ht] at hm
  have HP : Hid (p = max (7 * b / 10) 1) := hp
  have HM : Hid (m = max ((t + 7) / 8 * 8) 64) := hm
  clear hp hm ht
  by_cases h1 : 7 * b / 10 < 1
  · have i1 : 7 * (b : Int) / 10 < 1 := by omega
    by_cases h2 : (t + 7) / 8 * 8 < 64
    · have i2 : ((t : Int) + 7) / 8 * 8 < 64 := by omega
      go_enter Try.func41, Try.ntmps41
      go_wp2
      refine bodyPost_ret (v := .tuple #[.int .i64 1, .int .i64 64]) ?_ rfl ⟨by rw [HP.out, HM.out, show max (7 * b / 10) 1 = 1 by omega, show max ((t + 7) / 8 * 8) 64 = 64 by omega]; rfl, rfl⟩
      simp [results, Try.results41, go_sem]
    · have i2 : ¬ ((t : Int) + 7) / 8 * 8 < 64 := by omega
      go_enter Try.func41, Try.ntmps41
      go_wp2
      refine bodyPost_ret (v := .tuple #[.int .i64 1, .int .i64 (((t : Int) + 7) / 8 * 8)]) ?_ rfl ⟨by rw [HP.out, HM.out, show max (7 * b / 10) 1 = 1 by omega, show max ((t + 7) / 8 * 8) 64 = (t + 7) / 8 * 8 by omega]; simp, rfl⟩
      simp [results, Try.results41, go_sem]
  · have i1 : ¬ 7 * (b : Int) / 10 < 1 := by omega
    by_cases h2 : (t + 7) / 8 * 8 < 64
    · have i2 : ((t : Int) + 7) / 8 * 8 < 64 := by omega
      go_enter Try.func41, Try.ntmps41
      go_wp2
      refine bodyPost_ret (v := .tuple #[.int .i64 (7 * (b : Int) / 10), .int .i64 64]) ?_ rfl ⟨by rw [HP.out, HM.out, show max (7 * b / 10) 1 = 7 * b / 10 by omega, show max ((t + 7) / 8 * 8) 64 = 64 by omega]; simp, rfl⟩
      simp [results, Try.results41, go_sem]
    · have i2 : ¬ ((t : Int) + 7) / 8 * 8 < 64 := by omega
      go_enter Try.func41, Try.ntmps41
      go_wp2
      refine bodyPost_ret (v := .tuple #[.int .i64 (7 * (b : Int) / 10), .int .i64 (((t : Int) + 7) / 8 * 8)]) ?_ rfl ⟨by rw [HP.out, HM.out, show max (7 * b / 10) 1 = 7 * b / 10 by omega, show max ((t + 7) / 8 * 8) 64 = (t + 7) / 8 * 8 by omega]; simp, rfl⟩
      simp [results, Try.results41, go_sem]
end Go.Proofs.Ytieehdhinponcaa
