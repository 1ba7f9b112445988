import Derived.Test.YtieehdhinponcaaJ09
namespace Go.Proofs.Ytieehdhinponcaa
open Go.RowKit
set_option linter.unusedVariables false


set_option maxRecDepth 100000 in
set_option maxHeartbeats 1000000 in
theorem asked2 {aF aG : Option Addr} {nF cF nG cG : Nat} {F G : List Nat} {N : Int} {ks : Value} {w : World} (hF : Rd w (.slice aF nF cF) F) (hG : Rd w (.slice aG nG cG) G) (lF : nF ≤ 140737488351232) (lG : nG ≤ 140737488351232) :
    Calls Try.prog 46 #[.agg #[.int .i64 2, .int .i64 N, ks, .slice aF nF cF, .slice aG nG cG]] w fun e w' => e = .returned (.bool true) ∧ Below w.heap.size w w' := by
  obtain ⟨W0, hW0⟩ : ∃ W0, W0 = w.alloc (.cells #[.int .i64 2, .int .i64 N, ks, .slice aF nF cF, .slice aG nG cG] 42) := ⟨_, rfl⟩
  have b0 : Below w.heap.size w W0 := by rw [hW0]; exact (Below.refl _ _).alloc (Nat.le_refl _) _
  have hsz : w.heap.size < W0.heap.size := by rw [hW0]; simp
  have HK : Hid (∀ wx, Below W0.heap.size W0 wx → wx.cell? ⟨w.heap.size, 0, none⟩ = some (.int .i64 2) ∧ wx.cell? ⟨w.heap.size, 3, none⟩ = some (.slice aF nF cF) ∧ wx.cell? ⟨w.heap.size, 4, none⟩ = some (.slice aG nG cG)) := by
    have h : ∀ wx, Below W0.heap.size W0 wx → wx.cell? ⟨w.heap.size, 0, none⟩ = some (.int .i64 2) ∧ wx.cell? ⟨w.heap.size, 3, none⟩ = some (.slice aF nF cF) ∧ wx.cell? ⟨w.heap.size, 4, none⟩ = some (.slice aG nG cG) := fun wx hx => by
      refine ⟨(hx.cell (p := ⟨w.heap.size, 0, none⟩) hsz).trans ?_, (hx.cell (p := ⟨w.heap.size, 3, none⟩) hsz).trans ?_, (hx.cell (p := ⟨w.heap.size, 4, none⟩) hsz).trans ?_⟩
      all_goals (rw [hW0, Joins.cell_of_block (World.alloc_heap_new w _)]; rfl)
    exact h
  have RF : Hid (∀ wx, Below W0.heap.size W0 wx → Rd wx (.slice aF nF cF) F) := by
    have h : ∀ wx, Below W0.heap.size W0 wx → Rd wx (.slice aF nF cF) F := fun wx hx => (hF.later b0).later hx
    exact h
  have RG : Hid (∀ wx, Below W0.heap.size W0 wx → Rd wx (.slice aG nG cG) G) := by
    have h : ∀ wx, Below W0.heap.size W0 wx → Rd wx (.slice aG nG cG) G := fun wx hx => (hG.later b0).later hx
    exact h
  clear hF hG hsz
  go_enter Try.func46, Try.ntmps46
  go_wp2_with (first | (go_at_call_of 23 (Value.slice aF nF cF); rw [← hW0]; clear hW0; refine Calls.mono (wide_at (RF.out _ (Below.refl _ _)) lF) ?_; rintro e1 w1 ⟨g1, c1, rfl, r1, b1⟩; obtain ⟨q10, q13, q14⟩ := HK.out _ b1) | (have BB := b1; go_at_call_of 23 (Value.slice aG nG cG); refine Calls.mono (wide_at (RG.out _ b1) lG) ?_; rintro e2 w2 ⟨g2, c2, rfl, r2, b2⟩; obtain ⟨q20, q23, q24⟩ := HK.out _ (b1.trans (b2.mono b1.size))))
  have B2 := b1.trans (b2.mono b1.size)
  have HR1 : Hid (∀ wx, Below w2.heap.size w2 wx → Rd wx (.slice (some ⟨g1, 0, none⟩) (nF + 5) c1) (F ++ marksL)) := by
    have h : ∀ wx, Below w2.heap.size w2 wx → Rd wx (.slice (some ⟨g1, 0, none⟩) (nF + 5) c1) (F ++ marksL) := fun wx hx => (r1.later b2).later hx
    exact h
  have HR2 : Hid (∀ wx, Below w2.heap.size w2 wx → Rd wx (.slice (some ⟨g2, 0, none⟩) (nG + 5) c2) (G ++ marksL)) := by
    have h : ∀ wx, Below w2.heap.size w2 wx → Rd wx (.slice (some ⟨g2, 0, none⟩) (nG + 5) c2) (G ++ marksL) := fun wx hx => r2.later hx
    exact h
  obtain ⟨hn1, hle1, hcm1, -⟩ := rd_lens r1
  obtain ⟨hn2, hle2, hcm2, -⟩ := rd_lens r2
  have HF2 : Hid (∀ wx, Below w2.heap.size w2 wx → Rd wx (.slice aF nF cF) F) := by
    have h : ∀ wx, Below w2.heap.size w2 wx → Rd wx (.slice aF nF cF) F := fun wx hx => (RF.out _ B2).later hx
    exact h
  have HG2 : Hid (∀ wx, Below w2.heap.size w2 wx → Rd wx (.slice aG nG cG) G) := by
    have h : ∀ wx, Below w2.heap.size w2 wx → Rd wx (.slice aG nG cG) G := fun wx hx => (RG.out _ B2).later hx
    exact h
  have HK2 : Hid (∀ wx, Below w2.heap.size w2 wx → wx.cell? ⟨w.heap.size, 3, none⟩ = some (.slice aF nF cF) ∧ wx.cell? ⟨w.heap.size, 4, none⟩ = some (.slice aG nG cG)) := by
    have h : ∀ wx, Below w2.heap.size w2 wx → wx.cell? ⟨w.heap.size, 3, none⟩ = some (.slice aF nF cF) ∧ wx.cell? ⟨w.heap.size, 4, none⟩ = some (.slice aG nG cG) := fun wx hx => (HK.out _ (B2.trans (hx.mono B2.size))).2
    exact h
  have BW : Hid (∀ wx, Below w2.heap.size w2 wx → Below w.heap.size w wx) := by
    have h : ∀ wx, Below w2.heap.size w2 wx → Below w.heap.size w wx := fun wx hx => b0.trans ((B2.mono b0.size).trans (hx.mono (Nat.le_trans b0.size B2.size)))
    exact h
  have hlF := (rd_lens (RF.out _ B2)).1
  have hlG := (rd_lens (RG.out _ B2)).1
  have HU : Hid (∀ wx, Below w2.heap.size w2 wx → Rd wx (.slice (some ⟨g1, 0, none⟩) nF c1) F) := by
    have h : ∀ wx, Below w2.heap.size w2 wx → Rd wx (.slice (some ⟨g1, 0, none⟩) nF c1) F := fun wx hx => by
      have := (HR1.out wx hx).upto nF (by omega)
      rwa [show (F ++ marksL).take nF = F by rw [hlF]; simp] at this
    exact h
  have HV : Hid (∀ wx, Below w2.heap.size w2 wx → Rd wx (.slice (some ⟨g2, 0, none⟩) nG c2) G) := by
    have h : ∀ wx, Below w2.heap.size w2 wx → Rd wx (.slice (some ⟨g2, 0, none⟩) nG c2) G := fun wx hx => by
      have := (HR2.out wx hx).upto nG (by omega)
      rwa [show (G ++ marksL).take nG = G by rw [hlG]; simp] at this
    exact h
  have HCk : Hid (∀ wx, Below w2.heap.size w2 wx → Calls Try.prog 16 #[.slice (some ⟨g1, 0, none⟩) nF c1, .slice (some ⟨g2, 0, none⟩) nG c2] wx fun e w' => e = .returned (.tuple #[.bool (hasB F G), .int .i64 ((chkE F : Nat) : Int)]) ∧ Below w2.heap.size w2 w') := by
    have h : ∀ wx, Below w2.heap.size w2 wx → Calls Try.prog 16 #[.slice (some ⟨g1, 0, none⟩) nF c1, .slice (some ⟨g2, 0, none⟩) nG c2] wx fun e w' => e = .returned (.tuple #[.bool (hasB F G), .int .i64 ((chkE F : Nat) : Int)]) ∧ Below w2.heap.size w2 w' := fun wx hx => (has_any (HU.out wx hx) (HV.out wx hx)).mono fun e w' h => ⟨h.1, hx.trans (h.2.mono hx.size)⟩
    exact h
  have HRk : Hid (∀ wx, Below w2.heap.size w2 wx → Calls Try.prog 25 #[.slice aF nF cF, .slice aG nG cG] wx fun e w' => e = .returned (.tuple #[.bool (hasB F G), .int .i64 ((chkE F : Nat) : Int)]) ∧ Below w2.heap.size w2 w') := by
    have h : ∀ wx, Below w2.heap.size w2 wx → Calls Try.prog 25 #[.slice aF nF cF, .slice aG nG cG] wx fun e w' => e = .returned (.tuple #[.bool (hasB F G), .int .i64 ((chkE F : Nat) : Int)]) ∧ Below w2.heap.size w2 w' := fun wx hx => (refHas_any (HF2.out wx hx) (HG2.out wx hx)).mono fun e w' h => ⟨h.1, hx.trans (h.2.mono hx.size)⟩
    exact h
  have bd : Below w2.heap.size w2 w2.drew := (Below.refl _ _).drew
  have p0 := HK2.out _ bd
  have i1 : (0 : Int) ≤ (nF : Int) := by omega
  have i2 : (nF : Int) ≤ (c1 : Int) := by omega
  have i3 : (0 : Int) ≤ (nG : Int) := by omega
  have i4 : (nG : Int) ≤ (c2 : Int) := by omega
  obtain ⟨E, hE⟩ : ∃ E, E = chkE F := ⟨_, rfl⟩
  obtain ⟨Z, hZ⟩ : ∃ Z, Z = hasB F G := ⟨_, rfl⟩
  rw [← hE, ← hZ] at HCk HRk
  clear hn1 hn2 hlF hlG hE RF RG HK b0 b1 b2 B2 r1 r2 q10 q13 q14 q20 q23 q24 hZ
  go_region_held3 (fun wx => wx.cell? ⟨w.heap.size, 3, none⟩ = some (.slice aF nF cF) ∧ wx.cell? ⟨w.heap.size, 4, none⟩ = some (.slice aG nG cG)) (first | exact p0 | exact p3) (first | (go_at_call 16; refine Calls.mono (HCk.out _ bd) ?_; rintro e3 w3 ⟨rfl, b3⟩; have p3 := HK2.out _ b3))
  have t3 := (HK2.out _ b3).1
  have t4 := (HK2.out _ b3).2
  go_wp2_with (go_at_call 25; fail)
  refine Calls.mono (HRk.out _ b3) ?_
  rintro e5 w5 ⟨rfl, b5⟩
  go_wp2_with (go_at_call 14; fail)
  refine Calls.mono (num_any _ _) ?_
  rintro e9 w9 ⟨rfl, rfl⟩
  have s3 := (HK2.out _ b5).1
  have s4 := (HK2.out _ b5).2
  go_wp2_with (go_at_call_of 29 (Value.slice (some ⟨g1, 0, none⟩) (nF + 5) c1); fail)
  refine Calls.mono (kept_any (HR1.out _ b5) (HF2.out _ b5)) ?_
  rintro e6 w6 ⟨rfl, b6⟩
  have B6 := (b5).trans (b6.mono (b5).size)
  have s46 := (HK2.out _ B6).2
  go_wp2_with (go_at_call_of 29 (Value.slice (some ⟨g2, 0, none⟩) (nG + 5) c2); fail)
  refine Calls.mono (kept_any (HR2.out _ B6) (HG2.out _ B6)) ?_
  rintro e7 w7 ⟨rfl, b7⟩
  go_wp2
  go_ret
  exact ⟨rfl, BW.out _ (B6.trans (b7.mono B6.size))⟩
end Go.Proofs.Ytieehdhinponcaa

namespace Go.Proofs.Ytieehdhinponcaa
open Go.RowKit
set_option linter.unusedVariables false

theorem uniL_bys {A B : List Nat} (ha : Bys A) (hb : Bys B) : Bys (uniL A B) := by
  unfold uniL
  split
  · exact unionL_bys ha hb
  · intro x hx; simp at hx
theorem uniL_len (A B : List Nat) : (uniL A B).length ≤ A.length + 6 := by
  unfold uniL
  split
  · simp [unionL]; omega
  · simp

set_option maxRecDepth 100000 in
set_option maxHeartbeats 1000000 in
theorem asked4 {aF aG : Option Addr} {nF cF nG cG : Nat} {F G : List Nat} {N : Int} {ks : Value} {w : World} (hF : Rd w (.slice aF nF cF) F) (hG : Rd w (.slice aG nG cG) G) (lF : nF ≤ 140737488351232) (lG : nG ≤ 140737488351232) :
    Calls Try.prog 46 #[.agg #[.int .i64 4, .int .i64 N, ks, .slice aF nF cF, .slice aG nG cG]] w fun e w' => e = .returned (.bool true) ∧ Below w.heap.size w w' := by
  obtain ⟨W0, hW0⟩ : ∃ W0, W0 = w.alloc (.cells #[.int .i64 4, .int .i64 N, ks, .slice aF nF cF, .slice aG nG cG] 42) := ⟨_, rfl⟩
  have b0 : Below w.heap.size w W0 := by rw [hW0]; exact (Below.refl _ _).alloc (Nat.le_refl _) _
  have hsz : w.heap.size < W0.heap.size := by rw [hW0]; simp
  have HK : Hid (∀ wx, Below W0.heap.size W0 wx → wx.cell? ⟨w.heap.size, 0, none⟩ = some (.int .i64 4) ∧ wx.cell? ⟨w.heap.size, 3, none⟩ = some (.slice aF nF cF) ∧ wx.cell? ⟨w.heap.size, 4, none⟩ = some (.slice aG nG cG)) := by
    have h : ∀ wx, Below W0.heap.size W0 wx → wx.cell? ⟨w.heap.size, 0, none⟩ = some (.int .i64 4) ∧ wx.cell? ⟨w.heap.size, 3, none⟩ = some (.slice aF nF cF) ∧ wx.cell? ⟨w.heap.size, 4, none⟩ = some (.slice aG nG cG) := fun wx hx => by
      refine ⟨(hx.cell (p := ⟨w.heap.size, 0, none⟩) hsz).trans ?_, (hx.cell (p := ⟨w.heap.size, 3, none⟩) hsz).trans ?_, (hx.cell (p := ⟨w.heap.size, 4, none⟩) hsz).trans ?_⟩
      all_goals (rw [hW0, Joins.cell_of_block (World.alloc_heap_new w _)]; rfl)
    exact h
  have RF : Hid (∀ wx, Below W0.heap.size W0 wx → Rd wx (.slice aF nF cF) F) := by
    have h : ∀ wx, Below W0.heap.size W0 wx → Rd wx (.slice aF nF cF) F := fun wx hx => (hF.later b0).later hx
    exact h
  have RG : Hid (∀ wx, Below W0.heap.size W0 wx → Rd wx (.slice aG nG cG) G) := by
    have h : ∀ wx, Below W0.heap.size W0 wx → Rd wx (.slice aG nG cG) G := fun wx hx => (hG.later b0).later hx
    exact h
  clear hF hG hsz
  go_enter Try.func46, Try.ntmps46
  go_wp2_with (first | (go_at_call_of 23 (Value.slice aF nF cF); rw [← hW0]; clear hW0; refine Calls.mono (wide_at (RF.out _ (Below.refl _ _)) lF) ?_; rintro e1 w1 ⟨g1, c1, rfl, r1, b1⟩; obtain ⟨q10, q13, q14⟩ := HK.out _ b1) | (have BB := b1; go_at_call_of 23 (Value.slice aG nG cG); refine Calls.mono (wide_at (RG.out _ b1) lG) ?_; rintro e2 w2 ⟨g2, c2, rfl, r2, b2⟩; obtain ⟨q20, q23, q24⟩ := HK.out _ (b1.trans (b2.mono b1.size))))
  have B2 := b1.trans (b2.mono b1.size)
  have HR1 : Hid (∀ wx, Below w2.heap.size w2 wx → Rd wx (.slice (some ⟨g1, 0, none⟩) (nF + 5) c1) (F ++ marksL)) := by
    have h : ∀ wx, Below w2.heap.size w2 wx → Rd wx (.slice (some ⟨g1, 0, none⟩) (nF + 5) c1) (F ++ marksL) := fun wx hx => (r1.later b2).later hx
    exact h
  have HR2 : Hid (∀ wx, Below w2.heap.size w2 wx → Rd wx (.slice (some ⟨g2, 0, none⟩) (nG + 5) c2) (G ++ marksL)) := by
    have h : ∀ wx, Below w2.heap.size w2 wx → Rd wx (.slice (some ⟨g2, 0, none⟩) (nG + 5) c2) (G ++ marksL) := fun wx hx => r2.later hx
    exact h
  obtain ⟨hn1, hle1, hcm1, -⟩ := rd_lens r1
  obtain ⟨hn2, hle2, hcm2, -⟩ := rd_lens r2
  have HF2 : Hid (∀ wx, Below w2.heap.size w2 wx → Rd wx (.slice aF nF cF) F) := by
    have h : ∀ wx, Below w2.heap.size w2 wx → Rd wx (.slice aF nF cF) F := fun wx hx => (RF.out _ B2).later hx
    exact h
  have HG2 : Hid (∀ wx, Below w2.heap.size w2 wx → Rd wx (.slice aG nG cG) G) := by
    have h : ∀ wx, Below w2.heap.size w2 wx → Rd wx (.slice aG nG cG) G := fun wx hx => (RG.out _ B2).later hx
    exact h
  have HK2 : Hid (∀ wx, Below w2.heap.size w2 wx → wx.cell? ⟨w.heap.size, 3, none⟩ = some (.slice aF nF cF) ∧ wx.cell? ⟨w.heap.size, 4, none⟩ = some (.slice aG nG cG)) := by
    have h : ∀ wx, Below w2.heap.size w2 wx → wx.cell? ⟨w.heap.size, 3, none⟩ = some (.slice aF nF cF) ∧ wx.cell? ⟨w.heap.size, 4, none⟩ = some (.slice aG nG cG) := fun wx hx => (HK.out _ (B2.trans (hx.mono B2.size))).2
    exact h
  have BW : Hid (∀ wx, Below w2.heap.size w2 wx → Below w.heap.size w wx) := by
    have h : ∀ wx, Below w2.heap.size w2 wx → Below w.heap.size w wx := fun wx hx => b0.trans ((B2.mono b0.size).trans (hx.mono (Nat.le_trans b0.size B2.size)))
    exact h
  have hlF := (rd_lens (RF.out _ B2)).1
  have hlG := (rd_lens (RG.out _ B2)).1
  have HU : Hid (∀ wx, Below w2.heap.size w2 wx → Rd wx (.slice (some ⟨g1, 0, none⟩) nF c1) F) := by
    have h : ∀ wx, Below w2.heap.size w2 wx → Rd wx (.slice (some ⟨g1, 0, none⟩) nF c1) F := fun wx hx => by
      have := (HR1.out wx hx).upto nF (by omega)
      rwa [show (F ++ marksL).take nF = F by rw [hlF]; simp] at this
    exact h
  have HV : Hid (∀ wx, Below w2.heap.size w2 wx → Rd wx (.slice (some ⟨g2, 0, none⟩) nG c2) G) := by
    have h : ∀ wx, Below w2.heap.size w2 wx → Rd wx (.slice (some ⟨g2, 0, none⟩) nG c2) G := fun wx hx => by
      have := (HR2.out wx hx).upto nG (by omega)
      rwa [show (G ++ marksL).take nG = G by rw [hlG]; simp] at this
    exact h
  have ubys : Bys (uniL F G) := uniL_bys (RF.out _ B2).1 (RG.out _ B2).1
  have ulen : (uniL F G).length ≤ 281474976710656 := Nat.le_trans (uniL_len F G) (by omega)
  have HCk : Hid (∀ wx, Below w2.heap.size w2 wx → Calls Try.prog 15 #[.slice (some ⟨g1, 0, none⟩) nF c1, .slice (some ⟨g2, 0, none⟩) nG c2] wx fun e w' => ∃ a m c, e = .returned (.tuple #[.slice a m c, .int .i64 ((uniE F G : Nat) : Int)]) ∧ Rd w' (.slice a m c) (uniL F G) ∧ Below w2.heap.size w2 w' ∧ Below wx.heap.size wx w') := by
    have h : ∀ wx, Below w2.heap.size w2 wx → Calls Try.prog 15 #[.slice (some ⟨g1, 0, none⟩) nF c1, .slice (some ⟨g2, 0, none⟩) nG c2] wx fun e w' => ∃ a m c, e = .returned (.tuple #[.slice a m c, .int .i64 ((uniE F G : Nat) : Int)]) ∧ Rd w' (.slice a m c) (uniL F G) ∧ Below w2.heap.size w2 w' ∧ Below wx.heap.size wx w' := fun wx hx => (union_any (HU.out wx hx) (HV.out wx hx)).mono fun e w' ⟨a, m, c, h, own, hb⟩ => ⟨a, m, c, h, own.rd ubys (by have := own.1; omega), hx.trans (hb.mono hx.size), hb⟩
    exact h
  have HRk : Hid (∀ wx, Below w2.heap.size w2 wx → Calls Try.prog 28 #[.slice aF nF cF, .slice aG nG cG] wx fun e w' => ∃ a m c, e = .returned (.tuple #[.slice a m c, .int .i64 ((uniE F G : Nat) : Int)]) ∧ Rd w' (.slice a m c) (uniL F G) ∧ Below w2.heap.size w2 w' ∧ Below wx.heap.size wx w') := by
    have h : ∀ wx, Below w2.heap.size w2 wx → Calls Try.prog 28 #[.slice aF nF cF, .slice aG nG cG] wx fun e w' => ∃ a m c, e = .returned (.tuple #[.slice a m c, .int .i64 ((uniE F G : Nat) : Int)]) ∧ Rd w' (.slice a m c) (uniL F G) ∧ Below w2.heap.size w2 w' ∧ Below wx.heap.size wx w' := fun wx hx => (refUnion_any (HF2.out wx hx) (HG2.out wx hx)).mono fun e w' ⟨a, m, c, h, own, hb⟩ => ⟨a, m, c, h, own.rd ubys (by have := own.1; omega), hx.trans (hb.mono hx.size), hb⟩
    exact h
  have bd : Below w2.heap.size w2 w2.drew := (Below.refl _ _).drew
  have p0 := HK2.out _ bd
  have i1 : (0 : Int) ≤ (nF : Int) := by omega
  have i2 : (nF : Int) ≤ (c1 : Int) := by omega
  have i3 : (0 : Int) ≤ (nG : Int) := by omega
  have i4 : (nG : Int) ≤ (c2 : Int) := by omega
  obtain ⟨E, hE⟩ : ∃ E, E = uniE F G := ⟨_, rfl⟩
  obtain ⟨Z, hZ⟩ : ∃ Z, Z = uniL F G := ⟨_, rfl⟩
  rw [← hE, ← hZ] at HCk HRk
  clear hn1 hn2 hlF hlG hE RF RG HK b0 b1 b2 B2 r1 r2 q10 q13 q14 q20 q23 q24 hZ ubys ulen
  go_region_held3 (fun wx => wx.cell? ⟨w.heap.size, 3, none⟩ = some (.slice aF nF cF) ∧ wx.cell? ⟨w.heap.size, 4, none⟩ = some (.slice aG nG cG)) (first | exact p0 | exact p3) (first | (go_at_call 15; refine Calls.mono (HCk.out _ bd) ?_; rintro e3 w3 ⟨a3, m3, c3, rfl, r3, b3, b3'⟩; have p3 := HK2.out _ b3))
  have t3 := (HK2.out _ b3).1
  have t4 := (HK2.out _ b3).2
  go_wp2_with (go_at_call 28; fail)
  refine Calls.mono (HRk.out _ b3) ?_
  rintro e5 w5 ⟨a5, m5, c5, rfl, r5, b5, b5'⟩
  go_wp2_with (go_at_call 14; fail)
  refine Calls.mono (num_any _ _) ?_
  rintro e9 w9 ⟨rfl, rfl⟩
  go_wp2_with (go_at_call 18; fail)
  refine Calls.mono (alike_any (r3.later b5') r5) ?_
  rintro e8 w8 ⟨rfl, rfl⟩
  have s3 := (HK2.out _ b5).1
  have s4 := (HK2.out _ b5).2
  go_wp2_with (go_at_call_of 29 (Value.slice (some ⟨g1, 0, none⟩) (nF + 5) c1); fail)
  refine Calls.mono (kept_any (HR1.out _ b5) (HF2.out _ b5)) ?_
  rintro e6 w6 ⟨rfl, b6⟩
  have B6 := (b5).trans (b6.mono (b5).size)
  have s46 := (HK2.out _ B6).2
  go_wp2_with (go_at_call_of 29 (Value.slice (some ⟨g2, 0, none⟩) (nG + 5) c2); fail)
  refine Calls.mono (kept_any (HR2.out _ B6) (HG2.out _ B6)) ?_
  rintro e7 w7 ⟨rfl, b7⟩
  go_wp2
  go_ret
  exact ⟨rfl, BW.out _ (B6.trans (b7.mono B6.size))⟩
end Go.Proofs.Ytieehdhinponcaa

namespace Go.Proofs.Ytieehdhinponcaa
open Go.RowKit
set_option linter.unusedVariables false

/-- One call that is asked for. -/
structure AskD where
  k : Int
  n : Int
  vk : Value
  vf : Value
  vg : Value
  ks : List (List Nat)
  F : List Nat
  G : List Nat
def AskD.cells (o : AskD) : List Value := [.int .i64 o.k, .int .i64 o.n, o.vk, o.vf, o.vg]
def AskD.Ok (w : World) (o : AskD) : Prop := RdP w o.vk o.ks ∧ Rd w o.vf o.F ∧ Rd w o.vg o.G ∧ o.F.length ≤ 140737488351232 ∧ o.G.length ≤ 140737488351232 ∧ -9223372036854775808 ≤ o.n ∧ o.n ≤ 9223372036854775807 ∧ (∀ i, (o.ks.getD i []).length ≤ 140737488351232) ∧ o.ks.length ≤ 5864062014634
/-- A list reads as calls. -/
def RdA (w : World) (v : Value) (os : List AskD) : Prop :=
  os.length ≤ 281474976710656 ∧ ∃ a cap, v = .slice a os.length cap ∧ (os = [] ∨ ∃ b off, a = some ⟨b, off, none⟩ ∧ ∀ i o, os[i]? = some o → (∀ j x, o.cells[j]? = some x → w.cell? ⟨b, off + i * 5 + j, none⟩ = some x) ∧ AskD.Ok w o)

theorem ask_asked {w : World} {o : AskD} (h : AskD.Ok w o) (h1 : 2 ≤ o.k) (h2 : o.k ≤ 5) (w2 : World) (hb : Below w.heap.size w w2) :
    Calls Try.prog 46 #[.agg #[.int .i64 o.k, .int .i64 o.n, o.vk, o.vf, o.vg]] w2 fun e w' => e = .returned (.bool true) ∧ Below w2.heap.size w2 w' := by
  obtain ⟨k, n, vk, vf, vg, ks, F, G⟩ := o
  obtain ⟨_, hf, hg, lf, lg, _, _, _, _⟩ := h
  simp only at h1 h2 hf hg lf lg ⊢
  obtain ⟨aF, nF, cF, rfl⟩ := rd_slice hf
  obtain ⟨aG, nG, cG, rfl⟩ := rd_slice hg
  have e1 := (rd_lens hf).1
  have e2 := (rd_lens hg).1
  have hf' := hf.later hb
  have hg' := hg.later hb
  have hk : k = 2 ∨ k = 3 ∨ k = 4 ∨ k = 5 := by omega
  rcases hk with rfl | rfl | rfl | rfl
  · exact asked2 hf' hg' (by omega) (by omega)
  · exact asked3 hf' hg' (by omega) (by omega)
  · exact asked4 hf' hg' (by omega) (by omega)
  · exact asked5 hf' hg' (by omega) (by omega)

set_option maxRecDepth 100000 in
set_option maxHeartbeats 4000000 in
theorem plays_any {v : Value} {os : List AskD} {w : World} (lo hi : Int) (ho : RdA w v os)
    (hplays : ∀ o, o ∈ os → lo ≤ o.k → o.k ≤ hi → ∀ w2, Below w.heap.size w w2 → Calls Try.prog 46 #[.agg #[.int .i64 o.k, .int .i64 o.n, o.vk, o.vf, o.vg]] w2 fun e w' => e = .returned (.bool true) ∧ Below w2.heap.size w2 w') :
    Calls Try.prog 31 #[v, .int .i64 lo, .int .i64 hi] w fun e w' => e = .returned (.bool true) ∧ Below w.heap.size w w' := by
  obtain ⟨hn0, a, cap, rfl, hc⟩ := ho
  obtain ⟨n, hn⟩ : ∃ n, n = os.length := ⟨_, rfl⟩
  rw [← hn] at hn0 ⊢
  have HN : Hid (n = os.length) := hn
  have HP : Hid (∀ o, o ∈ os → lo ≤ o.k → o.k ≤ hi → ∀ w2, Below w.heap.size w w2 → Calls Try.prog 46 #[.agg #[.int .i64 o.k, .int .i64 o.n, o.vk, o.vf, o.vg]] w2 fun e w' => e = .returned (.bool true) ∧ Below w2.heap.size w2 w') := hplays
  have HC : Hid (os = [] ∨ ∃ b off, a = some ⟨b, off, none⟩ ∧ ∀ i o, os[i]? = some o → (∀ j x, o.cells[j]? = some x → w.cell? ⟨b, off + i * 5 + j, none⟩ = some x) ∧ AskD.Ok w o) := hc
  clear hn hplays hc
  go_enter Try.func31, Try.ntmps31
  go_wp2_with (go_at_call 12; fail)
  refine (started_any _).mono ?_
  rintro e0 w0 ⟨rfl, hb0⟩
  go_wp2
  go_loopw [7, 8] (fun x i wr => ∃ t : Nat, t ≤ n ∧ i = .int .i64 ((t : Nat) : Int) ∧ x = .bool true ∧ Below w.heap.size w wr) (fun _ i _ => n - (intOf i).toNat)
  case atStart => exact ⟨0, Nat.zero_le _, rfl, rfl, hb0⟩
  case round =>
    obtain ⟨t, htn, rfl, rfl, hb1⟩ := hrel
    by_cases hlt : t < n
    · have hlt2 : (t : Int) < (n : Int) := by omega
      rcases HC.out with h0 | ⟨b, off, rfl, hcell⟩
      · have := HN.out; rw [h0] at this; simp at this; omega
      obtain ⟨o, hoi⟩ : ∃ o, os[t]? = some o := ⟨os[t]'(by rw [← HN.out]; exact hlt), List.getElem?_eq_getElem _⟩
      have hmem := List.mem_of_getElem? hoi
      obtain ⟨hcs, _⟩ := hcell t o hoi
      have HCS : Hid (∀ j x, o.cells[j]? = some x → wr.cell? ⟨b, off + t * 5 + j, none⟩ = some x) := fun j x h => by
        have := hcs j x h
        rw [hb1.cell (p := ⟨b, off + t * 5 + j, none⟩) (World.block_lt_of_cell? w _ this)]; exact this
      clear hcs hcell hoi
      have c0 := HCS.out 0 _ rfl
      have c1 := HCS.out 1 _ rfl
      have c2 := HCS.out 2 _ rfl
      have c3 := HCS.out 3 _ rfl
      have c4 := HCS.out 4 _ rfl
      simp only [Nat.add_zero] at c0
      obtain ⟨kk, nn, vk, vf, vg, ks, F, G⟩ := o
      simp only at c0 c1 c2 c3 c4
      by_cases h1 : lo ≤ kk
      · by_cases h2 : kk ≤ hi
        · have HPL := HP.out _ hmem h1 h2 wr hb1
          have HPL2 : Hid (Calls Try.prog 46 #[.agg #[.int .i64 kk, .int .i64 nn, vk, vf, vg]] wr fun e w' => e = .returned (.bool true) ∧ Below wr.heap.size wr w') := HPL
          clear HPL hmem
          go_wp2_with (go_at_call 46; fail)
          refine HPL2.out.mono ?_
          rintro e w2 ⟨rfl, hb2⟩
          go_wp2
          go_roundw
          case rel => exact ⟨t + 1, by omega, by go_num, rfl, hb1.trans (hb2.mono hb1.size)⟩
          case measure => simp [intOf]; omega
        · go_wp2
          go_roundw
          case rel => exact ⟨t + 1, by omega, by go_num, rfl, hb1⟩
          case measure => simp [intOf]; omega
      · go_wp2
        go_roundw
        case rel => exact ⟨t + 1, by omega, by go_num, rfl, hb1⟩
        case measure => simp [intOf]; omega
    · have hge : (n : Int) ≤ (t : Int) := by omega
      go_wp2_with (go_at_call 12; fail)
      refine (started_any _).mono ?_
      rintro e9 w9 ⟨rfl, hb9⟩
      go_wp2
      go_ret
      exact ⟨rfl, hb1.trans (hb9.mono hb1.size)⟩

set_option maxRecDepth 100000 in
set_option maxHeartbeats 1000000 in
theorem answers_walk {v : Value} {os : List AskD} {w : World} (ho : RdA w v os) :
    Calls Try.prog 10 #[v] w fun e w' => e = .returned (.bool true) ∧ Below w.heap.size w w' := by
  have HP : Hid (Calls Try.prog 31 #[v, .int .i64 2, .int .i64 5] w fun e w' => e = .returned (.bool true) ∧ Below w.heap.size w w') := by
    refine plays_any 2 5 ho fun o hm h1 h2 w2 hb => ?_
    obtain ⟨_, a, cap, _, hc⟩ := ho
    rcases hc with h0 | ⟨b, off, _, hcell⟩
    · rw [h0] at hm; cases hm
    · obtain ⟨i, hi⟩ := List.mem_iff_getElem?.1 hm
      exact ask_asked (hcell i o hi).2 h1 h2 w2 hb
  obtain ⟨_, a, cap, rfl, _⟩ := ho
  go_enter Try.func10, Try.ntmps10
  go_wp2_with (go_at_call 31; fail)
  refine HP.out.mono ?_
  rintro e w1 ⟨rfl, b1⟩
  go_wp2
  go_ret
  exact ⟨rfl, b1⟩
end Go.Proofs.Ytieehdhinponcaa

namespace Go.Proofs.Ytieehdhinponcaa
open Go.RowKit
set_option linter.unusedVariables false

set_option maxRecDepth 100000 in
set_option maxHeartbeats 1000000 in
theorem refShape_any (b n : Nat) (hb1 : 1 ≤ b) (hb : b ≤ 20) (hn : n ≤ 1048576) (w : World) :
    Calls Try.prog 41 #[.int .i64 (b : Int), .int .i64 (n : Int)] w fun e w' => e = .returned (.tuple #[.int .i64 ((pOf b : Nat) : Int), .int .i64 ((mOf b n : Nat) : Int)]) ∧ w' = w := by
  obtain ⟨t, ht⟩ : ∃ t, t = n * b := ⟨_, rfl⟩
  have htl : t ≤ 20971520 := by rw [ht]; exact Nat.mul_le_mul hn hb
  have hti : (n : Int) * (b : Int) = (t : Int) := by rw [ht]; simp
  obtain ⟨p, hp⟩ : ∃ p, p = pOf b := ⟨_, rfl⟩
  obtain ⟨m, hm⟩ : ∃ m, m = mOf b n := ⟨_, rfl⟩
  rw [← hp, ← hm]
  unfold pOf at hp
  unfold mOf at hm
  rw [← ht] at hm
  have HP : Hid (p = max (7 * b / 10) 1) := hp
  have HM : Hid (m = max ((t + 7) / 8 * 8) 64) := hm
  clear hp hm ht
  by_cases h1 : 7 * b / 10 < 1
  · have i1 : 7 * (b : Int) / 10 < 1 := by omega
    by_cases h2 : (t + 7) / 8 * 8 < 64
    · have i2 : ((t : Int) + 7) / 8 * 8 < 64 := by omega
      go_enter Try.func41, Try.ntmps41
      go_wp2
      refine bodyPost_ret (v := .tuple #[.int .i64 1, .int .i64 64]) ?_ rfl ⟨by rw [HP.out, HM.out, show max (7 * b / 10) 1 = 1 by omega, show max ((t + 7) / 8 * 8) 64 = 64 by omega]; rfl, rfl⟩
      simp [results, Try.results41, go_sem]
    · have i2 : ¬ ((t : Int) + 7) / 8 * 8 < 64 := by omega
      go_enter Try.func41, Try.ntmps41
      go_wp2
      refine bodyPost_ret (v := .tuple #[.int .i64 1, .int .i64 (((t : Int) + 7) / 8 * 8)]) ?_ rfl ⟨by rw [HP.out, HM.out, show max (7 * b / 10) 1 = 1 by omega, show max ((t + 7) / 8 * 8) 64 = (t + 7) / 8 * 8 by omega]; simp, rfl⟩
      simp [results, Try.results41, go_sem]
  · have i1 : ¬ 7 * (b : Int) / 10 < 1 := by omega
    by_cases h2 : (t + 7) / 8 * 8 < 64
    · have i2 : ((t : Int) + 7) / 8 * 8 < 64 := by omega
      go_enter Try.func41, Try.ntmps41
      go_wp2
      refine bodyPost_ret (v := .tuple #[.int .i64 (7 * (b : Int) / 10), .int .i64 64]) ?_ rfl ⟨by rw [HP.out, HM.out, show max (7 * b / 10) 1 = 7 * b / 10 by omega, show max ((t + 7) / 8 * 8) 64 = 64 by omega]; simp, rfl⟩
      simp [results, Try.results41, go_sem]
    · have i2 : ¬ ((t : Int) + 7) / 8 * 8 < 64 := by omega
      go_enter Try.func41, Try.ntmps41
      go_wp2
      refine bodyPost_ret (v := .tuple #[.int .i64 (7 * (b : Int) / 10), .int .i64 (((t : Int) + 7) / 8 * 8)]) ?_ rfl ⟨by rw [HP.out, HM.out, show max (7 * b / 10) 1 = 7 * b / 10 by omega, show max ((t + 7) / 8 * 8) 64 = (t + 7) / 8 * 8 by omega]; simp, rfl⟩
      simp [results, Try.results41, go_sem]
end Go.Proofs.Ytieehdhinponcaa

namespace Go.Proofs.Ytieehdhinponcaa
open Go.RowKit
set_option linter.unusedVariables false

set_option maxRecDepth 100000 in
theorem refAlike_any {a b : Value} {xs ys : List Nat} {w : World} (ha : Rd w a xs) (hb : Rd w b ys) :
    Calls Try.prog 50 #[a, b] w fun e w' => e = .returned (.bool (decide (xs = ys))) ∧ w' = w := by
  have h1 := conv_str ha
  have h2 := conv_str hb
  go_enter Try.func50, Try.ntmps50
  go_wp2
  go_ret
  exact ⟨by rw [← beq_str ha.1 hb.1]; rfl, rfl⟩

theorem uniq_take_succ (ks : List (List Nat)) {i : Nat} (hi : i < ks.length) : (uniq (ks.take (i + 1))).length = (uniq (ks.take i)).length + (if ks.getD i [] ∈ ks.take i then 0 else 1) := by
  have e : ks.take (i + 1) = ks.take i ++ [ks.getD i []] := by rw [List.take_add_one, List.getElem?_eq_getElem hi]; simp [List.getD, List.getElem?_eq_getElem hi]
  rw [e, uniq_snoc]
  unfold addK
  by_cases h : ks.getD i [] ∈ ks.take i
  · have h2 : ks.getD i [] ∈ uniq (ks.take i) := mem_uniq.2 h
    rw [if_pos h, if_pos h2, Nat.add_zero]
  · have h2 : ¬ ks.getD i [] ∈ uniq (ks.take i) := fun x => h (mem_uniq.1 x)
    rw [if_neg h, if_neg h2, List.length_append]
    rfl

set_option maxRecDepth 100000 in
set_option maxHeartbeats 1000000 in
theorem refUnlike_any {v : Value} {ks : List (List Nat)} {w : World} (hr : RdP w v ks) (hl : ks.length ≤ 1048576) :
    Calls Try.prog 42 #[v] w fun e w' => e = .returned (.int .i64 (((uniq ks).length : Nat) : Int)) ∧ Below w.heap.size w w' := by
  obtain ⟨a, cap, rfl⟩ := own_rdp_len hr
  obtain ⟨nk, hnk⟩ : ∃ nk, nk = ks.length := ⟨_, rfl⟩
  rw [← hnk] at hr hl ⊢
  have HR : Hid (RdP w (.slice a nk cap) ks) := hr
  have HN : Hid (nk = ks.length) := hnk
  clear hr hnk
  go_enter Try.func42, Try.ntmps42
  go_wp2
  go_loopw [3, 4] (fun n i wr => ∃ q t : Nat, t ≤ nk ∧ q ≤ t ∧ i = .int .i64 (t : Int) ∧ n = .int .i64 (q : Int) ∧ Hid (q = (uniq (ks.take t)).length) ∧ Below w.heap.size w wr) (fun _ i _ => nk - (intOf i).toNat)
  case atStart => exact ⟨0, 0, Nat.zero_le _, Nat.le_refl _, rfl, rfl, (rfl : 0 = (uniq (ks.take 0)).length), Below.refl _ _⟩
  case round =>
    obtain ⟨q, t, ht, hq, rfl, rfl, HQ, hb⟩ := hrel
    by_cases hlt : t < nk
    · have hlt2 : (t : Int) < (nk : Int) := by omega
      obtain ⟨b, off, u, rfl, -, -⟩ := rdp_at HR.out t hlt
      have HCK : Hid (∀ k, k < nk → ∃ u, (∀ wx, Below w.heap.size w wx → wx.cell? ⟨b, off + k, none⟩ = some u ∧ Rd wx u (ks.getD k []))) := by
        have h : ∀ k, k < nk → ∃ u, (∀ wx, Below w.heap.size w wx → wx.cell? ⟨b, off + k, none⟩ = some u ∧ Rd wx u (ks.getD k [])) := fun k hk => by
          obtain ⟨b', off', u', h1, h2, h3⟩ := rdp_at HR.out k hk
          simp only [Option.some.injEq, Addr.mk.injEq, and_true] at h1
          obtain ⟨rfl, rfl⟩ := h1
          exact ⟨u', fun wx hx => ⟨(hx.cell (p := ⟨b, off + k, none⟩) (World.block_lt_of_cell? _ _ h2)).trans h2, h3.later hx⟩⟩
        exact h
      obtain ⟨ut, hut⟩ := HCK.out t hlt
      have HUT : Hid (∀ wx, Below w.heap.size w wx → wx.cell? ⟨b, off + t, none⟩ = some ut ∧ Rd wx ut (ks.getD t [])) := hut
      clear hut
      go_wp2
      go_loopw [5, 6] (fun f i wy => ∃ (k : Nat) (fb : Bool), k ≤ t ∧ i = .int .i64 (k : Int) ∧ f = .bool fb ∧ Hid (fb = false → ks.getD t [] ∈ ks.take t) ∧ Hid (fb = true → ¬ ks.getD t [] ∈ ks.take k) ∧ Below w.heap.size w wy) (fun _ i _ => t - (intOf i).toNat)
      case atStart => exact ⟨0, true, Nat.zero_le _, rfl, rfl, (fun h => by cases h), (fun _ h => by simp at h), hb⟩
      case round =>
        obtain ⟨k, fb, hk, rfl, rfl, H1, H2, hby⟩ := hrel
        have hstep := uniq_take_succ ks (i := t) (by rw [← HN.out]; exact hlt)
        cases fb with
        | false =>
          have hin := H1.out rfl
          rw [if_pos hin] at hstep
          have HS : Hid ((uniq (ks.take (t + 1))).length = (uniq (ks.take t)).length + 0) := hstep
          clear hstep hin
          by_cases hkt : k < t
          · have hkti : (k : Int) < (t : Int) := by omega
            go_wp2
            go_roundw
            case rel => exact ⟨q, t + 1, by omega, by omega, by go_num, rfl, by rw [HS.out, Nat.add_zero]; exact HQ, hby⟩
            case measure => simp [intOf]; omega
          · have hkti : ¬ (k : Int) < (t : Int) := by omega
            go_wp2
            go_roundw
            case rel => exact ⟨q, t + 1, by omega, by omega, by go_num, rfl, by rw [HS.out, Nat.add_zero]; exact HQ, hby⟩
            case measure => simp [intOf]; omega
        | true =>
          by_cases hkt : k < t
          · have hkti : (k : Int) < (t : Int) := by omega
            have hkn : (k : Int) < (nk : Int) := by omega
            obtain ⟨uk, huk⟩ := HCK.out k (by omega)
            have c1 := (HUT.out _ hby).1
            have c2 := (huk _ hby).1
            have d1 := (HUT.out _ hby.drew).1
            have d2 := (huk _ hby.drew).1
            have hbd := hby.drew
            have HAl : Hid (Calls Try.prog 50 #[ut, uk] wr.drew fun e w' => e = .returned (.bool (decide (ks.getD t [] = ks.getD k []))) ∧ w' = wr.drew) := refAlike_any (HUT.out _ hby.drew).2 (huk _ hby.drew).2
            clear huk hstep
            have htk : ks.take (k + 1) = ks.take k ++ [ks.getD k []] := by
              have hkl : k < ks.length := by rw [← HN.out]; omega
              rw [List.take_add_one, List.getElem?_eq_getElem hkl]; simp [List.getD, List.getElem?_eq_getElem hkl]
            by_cases heq : ks.getD t [] = ks.getD k []
            · have HAl2 : Hid (Calls Try.prog 50 #[ut, uk] wr.drew fun e w' => e = .returned (.bool true) ∧ w' = wr.drew) := HAl.out.mono fun e w' h => ⟨by rw [h.1, decide_eq_true heq], h.2⟩
              have hin : ks.getD t [] ∈ ks.take t := by
                rw [heq]
                have hkl : k < ks.length := by rw [← HN.out]; omega
                refine List.mem_iff_getElem?.2 ⟨k, ?_⟩
                rw [List.getElem?_take, if_pos hkt, List.getElem?_eq_getElem hkl]
                simp [List.getD, List.getElem?_eq_getElem hkl]
              have HIN : Hid (ks.getD t [] ∈ ks.take t) := hin
              clear hin HAl htk heq
              go_wp2
              go_region_held3 (fun wx => wx.cell? ⟨b, off + t, none⟩ = some ut ∧ wx.cell? ⟨b, off + k, none⟩ = some uk) (exact ⟨d1, d2⟩) (first | (go_at_call 50; refine Calls.mono HAl2.out ?_; rintro e5 w5 ⟨rfl, rfl⟩))
              go_wp2
              go_roundw
              case rel => exact ⟨k + 1, false, by omega, by go_num, rfl, (fun _ => HIN.out), (fun h => by cases h), hbd⟩
              case measure => simp [intOf]; omega
            · have HAl2 : Hid (Calls Try.prog 50 #[ut, uk] wr.drew fun e w' => e = .returned (.bool false) ∧ w' = wr.drew) := HAl.out.mono fun e w' h => ⟨by rw [h.1, decide_eq_false heq], h.2⟩
              have hno : ¬ ks.getD t [] ∈ ks.take (k + 1) := by
                rw [htk, List.mem_append, List.mem_singleton]
                rintro (h | h)
                · exact H2.out rfl h
                · exact heq h
              have HNO : Hid (¬ ks.getD t [] ∈ ks.take (k + 1)) := hno
              clear hno HAl htk heq
              go_wp2
              go_region_held3 (fun wx => wx.cell? ⟨b, off + t, none⟩ = some ut ∧ wx.cell? ⟨b, off + k, none⟩ = some uk) (exact ⟨d1, d2⟩) (first | (go_at_call 50; refine Calls.mono HAl2.out ?_; rintro e5 w5 ⟨rfl, rfl⟩))
              go_wp2
              go_roundw
              case rel => exact ⟨k + 1, true, by omega, by go_num, rfl, (fun h => by cases h), (fun _ => HNO.out), hbd⟩
              case measure => simp [intOf]; omega
          · have hkti : ¬ (k : Int) < (t : Int) := by omega
            have hke : k = t := by omega
            have hout := H2.out rfl
            rw [hke] at hout
            rw [if_neg hout] at hstep
            have HS : Hid ((uniq (ks.take (t + 1))).length = (uniq (ks.take t)).length + 1) := hstep
            have hz : q + 1 = (uniq (ks.take (t + 1))).length := by rw [HS.out, ← HQ.out]
            have HZ : Hid (q + 1 = (uniq (ks.take (t + 1))).length) := hz
            clear hstep hout hz
            go_wp2
            go_roundw
            case rel => exact ⟨q + 1, t + 1, by omega, by omega, by go_num, by go_num, HZ, hby⟩
            case measure => simp [intOf]; omega
    · have htn : t = nk := by omega
      subst htn
      have hq2 : q = (uniq ks).length := by rw [HQ.out, HN.out, List.take_length]
      go_wp2
      go_ret
      exact ⟨by rw [← hq2]; rfl, hb⟩
end Go.Proofs.Ytieehdhinponcaa
