import Derived.Test.YtpabbnddeklpdaaGreatK15
namespace Go.Proofs.YtpabbnddeklpdaaGreat
open Go.RowKit Go.Shelf
set_option linter.unusedVariables false

theorem TBox.set4 {w : World} {t : Nat} {p : Option Addr} {n k : Int} {f : Bool} (h : TBox w t p n k f) (q : Bool) : TBox (w.setCell ⟨t, 4, none⟩ (.bool q)) t p n k q := by
 unfold TBox tabC at *
 simp [World.setCell, Array.getElem?_modify, h]
set_option maxRecDepth 100000 in
theorem freeze_any {w : World} {t : Nat} {p : Option Addr} {n k : Int} {f : Bool} (h : TBox w t p n k f) : Calls Tryz.prog 29 #[.pointer (some ⟨t, 0, none⟩)] w fun e w' => (∃ v, e = .returned v) ∧ TBox w' t p n k true ∧ Apart t w w' := by
 have hc := h.cells.2.2.2.2
 have hf := h.fz 4
 have H := Lib.hid h
 go_enter Tryz.func29, Tryz.ntmps29
 go_wp2
 refine bodyPost_end (results_none rfl _ _ _) rfl ?_
 exact ⟨⟨_, rfl⟩, H.out.set4 true, (Apart.of (Below.refl _ _)).setT 4 _⟩
set_option maxRecDepth 100000 in
theorem frozen_any {w : World} {t : Nat} {p : Option Addr} {n k : Int} {f : Bool} (h : TBox w t p n k f) : Calls Tryz.prog 15 #[.pointer (some ⟨t, 0, none⟩)] w fun e w' => e = .returned (.bool f) ∧ w' = w := by
 have hc := h.cells.2.2.2.2
 go_enter Tryz.func15, Tryz.ntmps15
 go_wp2
 go_ret
 exact ⟨rfl, rfl⟩
theorem add_ta {G : Nat → Prop} {w : World} {t : Nat} {L : List EntD} {k : Int} {f : Bool} {e : EntD} (hb : Tb G w t L k f) (he : EntD.Ok w e) (hG : ∀ i, w.heap.size ≤ i → G i) (hsz : L.length < 1000000000) :
  Calls Tryz.prog 19 #[.pointer (some ⟨t, 0, none⟩), .agg e.cells] w fun z w' => ∃ c : Nat, z = .returned (.int .i64 (c : Int)) ∧ Apart t w w' ∧
   ((checkS e ≠ 0 ∧ c = checkS e ∧ Tb G w' t L k f) ∨ (checkS e = 0 ∧ f = true ∧ c = 81 ∧ Tb G w' t L k f) ∨ (checkS e = 0 ∧ f = false ∧ (∃ y ∈ L, compareS e y = 0) ∧ c = 80 ∧ Tb G w' t L k f) ∨ (c = 0 ∧ f = false ∧ checkS e = 0 ∧ (¬ ∃ y ∈ L, compareS e y = 0) ∧ ∃ A B x, L = A ++ B ∧ EntD.Same x e ∧ Tb G w' t (A ++ x :: B) (k + ((packL e).length : Nat)) f)) := by
 cases f with
 | false =>
  refine (add_tc hb he hG hsz).mono ?_
  rintro z w' ⟨c, hz, hap, ⟨h0, h1, h2⟩ | ⟨h0, h1, h2, h3⟩ | ⟨h0, h1, h2, h3⟩⟩
  ·exact ⟨c, hz, hap, .inl ⟨h0, h1, h2⟩⟩
  ·exact ⟨c, hz, hap, .inr (.inr (.inl ⟨h0, rfl, h1, h2, h3⟩))⟩
  ·exact ⟨c, hz, hap, .inr (.inr (.inr ⟨h0, rfl, h1, h2, h3⟩))⟩
 | true =>
  by_cases hc : checkS e = 0
  ·obtain ⟨p, T, h1, h2, h3⟩ := hb.tree
   refine (add_cold h1 he hc).mono ?_
   rintro z w' ⟨rfl, hw⟩
   exact ⟨81, rfl, Apart.of hw, .inr (.inl ⟨hc, rfl, rfl, hb.later hw⟩)⟩
  ·refine (add_bad he hc).mono ?_
   rintro z w' ⟨rfl, hw⟩
   exact ⟨checkS e, rfl, Apart.of hw, .inl ⟨hc, rfl, hb.later hw⟩⟩
structure ABc (w : World) (v : Value) (d : EntD) (z : Value) (X : World) : Prop where
 t : RBx X w.heap.size v true
 e : EBox X (w.heap.size + 1) d
 z : RBx X (w.heap.size + 2) z false
 below : Below w.heap.size w X
theorem ABc.size {w X : World} {v z : Value} {d : EntD} (h : ABc w v d z X) : w.heap.size + 3 ≤ X.heap.size := by have := h.z.lt; omega
theorem ABc.all {w X : World} {v z : Value} {d : EntD} (h : ABc w v d z X) : (X.cell? ⟨w.heap.size, 0, none⟩ = some v ∧ X.cell? ⟨w.heap.size, 1, none⟩ = some (.bool true)) ∧ (X.cell? ⟨w.heap.size + 1, 0, none⟩ = some d.vr ∧ X.cell? ⟨w.heap.size + 1, 1, none⟩ = some (.int .i64 d.fam) ∧ X.cell? ⟨w.heap.size + 1, 2, none⟩ = some d.vq ∧ X.cell? ⟨w.heap.size + 1, 3, none⟩ = some (.int .i64 d.ts) ∧ X.cell? ⟨w.heap.size + 1, 4, none⟩ = some (.int .i64 d.seq) ∧ X.cell? ⟨w.heap.size + 1, 5, none⟩ = some (.int .i64 d.kind) ∧ X.cell? ⟨w.heap.size + 1, 6, none⟩ = some d.vv) ∧ (X.cell? ⟨w.heap.size + 1 + 1, 0, none⟩ = some z ∧ X.cell? ⟨w.heap.size + 1 + 1, 1, none⟩ = some (.bool false)) ∧ (X.frozen? ⟨w.heap.size, 0, none⟩ = false ∧ X.frozen? ⟨w.heap.size + 1, 0, none⟩ = false ∧ X.frozen? ⟨w.heap.size + 1, 2, none⟩ = false ∧ X.frozen? ⟨w.heap.size + 1, 6, none⟩ = false ∧ X.frozen? ⟨w.heap.size + 1 + 1, 0, none⟩ = false ∧ X.frozen? ⟨w.heap.size + 1 + 1, 1, none⟩ = false) :=
 ⟨⟨h.t.c0, h.t.c1⟩, ⟨h.e.vr, h.e.fam, h.e.vq, h.e.ts, h.e.seq, h.e.kind, h.e.vv⟩, ⟨h.z.c0, h.z.c1⟩, h.t.fz 0, h.e.fz 0, h.e.fz 2, h.e.fz 6, h.z.fz 0, h.z.fz 1⟩
set_option maxRecDepth 100000 in
set_option maxHeartbeats 4000000 in
theorem refAdd_badc {w : World} {lv : Value} {L : List EntD} {e : EntD} (hl : RdL w lv L) (he : EntD.Ok w e) (hc : checkS e ≠ 0) :
  Calls Tryz.prog 47 #[.agg #[lv, .bool true], .agg e.cells] w (fun z w' => z = .returned (.tuple #[.agg #[lv, .bool true], .int .i64 ((if checkS e = 0 then 81 else checkS e : Nat) : Int)]) ∧ Below w.heap.size w w') := by
 have HL := Lib.hid hl
 have A1 := (Below.refl w.heap.size w).alloc (Nat.le_refl _) (.cells #[lv, .bool true] 29)
 have A2 := A1.alloc A1.size (.cells e.cells 38)
 have bt := (RBx.new w lv true).later ((Below.refl _ (w.alloc (.cells #[lv, .bool true] 29))).alloc (Nat.le_refl _) (.cells e.cells 38))
 have be := EBox.new (w.alloc (.cells #[lv, .bool true] 29)) e
 rw [World.size_alloc] at be
 have A3 := A2.alloc A2.size (.cells #[.slice none 0 0, .bool false] 29)
 have bz := RBx.new ((w.alloc (.cells #[lv, .bool true] 29)).alloc (.cells e.cells 38)) (.slice none 0 0) false
 rw [World.size_alloc, World.size_alloc] at bz
 have l3 := (Below.refl _ ((w.alloc (.cells #[lv, .bool true] 29)).alloc (.cells e.cells 38))).alloc (Nat.le_refl _) (.cells #[.slice none 0 0, .bool false] 29)
 have bt := bt.later l3
 have be := be.later l3
 clear l3
 obtain ⟨a, n, ca, rfl⟩ : ∃ a n ca, lv = .slice a n ca := by
  obtain ⟨a, c, h⟩ := hl.slice
  exact ⟨_, _, _, h⟩
 obtain ⟨V, hV⟩ : ∃ V, V = ((w.alloc (.cells #[.slice a n ca, .bool true] 29)).alloc (.cells e.cells 38)).alloc (.cells #[.slice none 0 0, .bool false] 29) := ⟨_, rfl⟩
 rw [← hV] at A3 bt be bz
 have HV : Hid (V = _) := hV
 unfold EntD.cells at HV
 have HAB : Hid (∀ wx, Below V.heap.size V wx → ABc w (.slice a n ca) e (.slice none 0 0) wx) := fun wx b => ⟨bt.later b, be.later b, bz.later b, A3.trans (b.mono A3.size)⟩
 have HC : Hid (checkS e ≠ 0) := hc
 obtain ⟨C, hC⟩ : ∃ C, C = checkS e := ⟨_, rfl⟩
 have HCe : Hid (C = checkS e) := hC
 have hc0 : ¬ ((C : Int) = 0) := by rw [hC]; omega
 have HCk : Hid (∀ wx, Below V.heap.size V wx → Calls Tryz.prog 51 #[.agg #[e.vr, .int .i64 e.fam, e.vq, .int .i64 e.ts, .int .i64 e.seq, .int .i64 e.kind, e.vv]] wx fun r w' => r = .returned (.int .i64 (C : Int)) ∧ Below wx.heap.size wx w') := fun wx b => by
  have := refCheck_any (he.later (A3.trans (b.mono A3.size)))
  rw [← hC] at this
  exact this
 clear he hV A1 A2 A3 bt be bz hc hC hl
 obtain ⟨⟨c0, c1⟩, ⟨d0, d1, d2, d3, d4, d5, d6⟩, ⟨z0, z1⟩, f1, f2, f3, f4, f5, f6⟩ := (HAB.out V (Below.refl _ _)).all
 unfold EntD.cells
 go_enter Tryz.func47, Tryz.ntmps47
 go_wp2_with fail
 rw [← HV.out]
 go_wp2_with fail
 refine Calls.mono (HCk.out _ (Below.refl _ _)) ?_
 rintro z w1 ⟨rfl, hb1⟩
 obtain ⟨⟨c0, c1⟩, ⟨d0, d1, d2, d3, d4, d5, d6⟩, ⟨z0, z1⟩, f1, f2, f3, f4, f5, f6⟩ := (HAB.out w1 hb1).all
 have HB1 := Lib.hid (HAB.out w1 hb1)
 clear hb1
 go_wp2
 (try simp only [Exit.inBlock, Exit.then])
 refine bodyPost_ret (v := .tuple #[.agg #[.slice a n ca, .bool true], .int .i64 (C : Int)]) ((results_cell_tmp rfl _ _ _).trans ?_) rfl ?_
 ·go_simp
 have k3 := fun u u' => (HB1.out.below.setCell (p := ⟨w.heap.size + 1 + 1, 0, none⟩) (by show w.heap.size ≤ w.heap.size + 1 + 1; omega) u).setCell (p := ⟨w.heap.size + 1 + 1, 1, none⟩) (by show w.heap.size ≤ w.heap.size + 1 + 1; omega) u'
 exact ⟨by simp only [HCe.out], k3 _ _⟩
set_option maxRecDepth 100000 in
set_option maxHeartbeats 4000000 in
theorem refAdd_cold {w : World} {lv : Value} {L : List EntD} {e : EntD} (hl : RdL w lv L) (he : EntD.Ok w e) (hc : checkS e = 0) :
  Calls Tryz.prog 47 #[.agg #[lv, .bool true], .agg e.cells] w (fun z w' => z = .returned (.tuple #[.agg #[lv, .bool true], .int .i64 ((if checkS e = 0 then 81 else checkS e : Nat) : Int)]) ∧ Below w.heap.size w w') := by
 have HL := Lib.hid hl
 have A1 := (Below.refl w.heap.size w).alloc (Nat.le_refl _) (.cells #[lv, .bool true] 29)
 have A2 := A1.alloc A1.size (.cells e.cells 38)
 have bt := (RBx.new w lv true).later ((Below.refl _ (w.alloc (.cells #[lv, .bool true] 29))).alloc (Nat.le_refl _) (.cells e.cells 38))
 have be := EBox.new (w.alloc (.cells #[lv, .bool true] 29)) e
 rw [World.size_alloc] at be
 have A3 := A2.alloc A2.size (.cells #[.slice none 0 0, .bool false] 29)
 have bz := RBx.new ((w.alloc (.cells #[lv, .bool true] 29)).alloc (.cells e.cells 38)) (.slice none 0 0) false
 rw [World.size_alloc, World.size_alloc] at bz
 have l3 := (Below.refl _ ((w.alloc (.cells #[lv, .bool true] 29)).alloc (.cells e.cells 38))).alloc (Nat.le_refl _) (.cells #[.slice none 0 0, .bool false] 29)
 have bt := bt.later l3
 have be := be.later l3
 clear l3
 obtain ⟨a, n, ca, rfl⟩ : ∃ a n ca, lv = .slice a n ca := by
  obtain ⟨a, c, h⟩ := hl.slice
  exact ⟨_, _, _, h⟩
 obtain ⟨V, hV⟩ : ∃ V, V = ((w.alloc (.cells #[.slice a n ca, .bool true] 29)).alloc (.cells e.cells 38)).alloc (.cells #[.slice none 0 0, .bool false] 29) := ⟨_, rfl⟩
 rw [← hV] at A3 bt be bz
 have HV : Hid (V = _) := hV
 unfold EntD.cells at HV
 have HAB : Hid (∀ wx, Below V.heap.size V wx → ABc w (.slice a n ca) e (.slice none 0 0) wx) := fun wx b => ⟨bt.later b, be.later b, bz.later b, A3.trans (b.mono A3.size)⟩
 have HC : Hid (checkS e = 0) := hc
 have HCk : Hid (∀ wx, Below V.heap.size V wx → Calls Tryz.prog 51 #[.agg #[e.vr, .int .i64 e.fam, e.vq, .int .i64 e.ts, .int .i64 e.seq, .int .i64 e.kind, e.vv]] wx fun r w' => r = .returned (.int .i64 0) ∧ Below wx.heap.size wx w') := fun wx b => by
  have := refCheck_any (he.later (A3.trans (b.mono A3.size)))
  rw [hc] at this
  exact this
 clear he hV A1 A2 A3 bt be bz hc hl
 obtain ⟨⟨c0, c1⟩, ⟨d0, d1, d2, d3, d4, d5, d6⟩, ⟨z0, z1⟩, f1, f2, f3, f4, f5, f6⟩ := (HAB.out V (Below.refl _ _)).all
 unfold EntD.cells
 go_enter Tryz.func47, Tryz.ntmps47
 go_wp2_with fail
 rw [← HV.out]
 go_wp2_with fail
 refine Calls.mono (HCk.out _ (Below.refl _ _)) ?_
 rintro z w1 ⟨rfl, hb1⟩
 obtain ⟨⟨c0, c1⟩, ⟨d0, d1, d2, d3, d4, d5, d6⟩, ⟨z0, z1⟩, f1, f2, f3, f4, f5, f6⟩ := (HAB.out w1 hb1).all
 have HB1 := Lib.hid (HAB.out w1 hb1)
 clear hb1
 go_wp2
 (try simp only [Exit.inBlock, Exit.then])
 refine bodyPost_ret (v := .tuple #[.agg #[.slice a n ca, .bool true], .int .i64 81]) ((results_cell_tmp rfl _ _ _).trans ?_) rfl ?_
 ·go_simp
 have k3 := fun u u' => (HB1.out.below.setCell (p := ⟨w.heap.size + 1 + 1, 0, none⟩) (by show w.heap.size ≤ w.heap.size + 1 + 1; omega) u).setCell (p := ⟨w.heap.size + 1 + 1, 1, none⟩) (by show w.heap.size ≤ w.heap.size + 1 + 1; omega) u'
 exact ⟨rfl, k3 _ _⟩
theorem refAdd_c {w : World} {lv : Value} {L : List EntD} {e : EntD} (hl : RdL w lv L) (he : EntD.Ok w e) :
  Calls Tryz.prog 47 #[.agg #[lv, .bool true], .agg e.cells] w (fun z w' => z = .returned (.tuple #[.agg #[lv, .bool true], .int .i64 ((if checkS e = 0 then 81 else checkS e : Nat) : Int)]) ∧ Below w.heap.size w w') := by
 by_cases hc : checkS e = 0
 ·exact refAdd_cold hl he hc
 ·exact refAdd_badc hl he hc
end Go.Proofs.YtpabbnddeklpdaaGreat

namespace Go.Proofs.YtpabbnddeklpdaaGreat
open Go.RowKit Go.Shelf
set_option linter.unusedVariables false

/-! What stays while one block below B is changed. -/
structure LB (w : World) (B : Nat) (v : Value) (xs : List EntD) : Prop where
 rd : RdL w v xs
 ents : ∀ x ∈ xs, EOk (fun i => B ≤ i) w x
 row : ∀ b, v.ownBlock = some b → B ≤ b
/-! A list and the table go together. -/
theorem Sm.dropW {e e' : EntD} (he : EntD.Same e e') : ∀ {a b : List EntD}, Sm a b → Sm (a.dropWhile (fun y => decide (compareS y e < 0))) (b.dropWhile (fun y => decide (compareS y e' < 0)))
 | [], [], _ => trivial
 | x :: a, y :: b, h => by
  rw [List.dropWhile_cons, List.dropWhile_cons, compareS_same h.1 he]
  split
  ·exact Sm.dropW he h.2
  ·exact h
 | [], _ :: _, h => h.elim
 | _ :: _, [], h => h.elim
theorem Sm.take : ∀ {a b : List EntD} (n : Nat), Sm a b → Sm (a.take n) (b.take n)
 | [], [], _, _ => by simp [Sm]
 | _ :: _, _ :: _, 0, _ => by simp [Sm]
 | _ :: _, _ :: _, n + 1, h => ⟨h.1, Sm.take n h.2⟩
 | [], _ :: _, _, h => h.elim
 | _ :: _, [], _, h => h.elim
theorem Sm.drop : ∀ {a b : List EntD} (n : Nat), Sm a b → Sm (a.drop n) (b.drop n)
 | [], [], _, _ => by simp [Sm]
 | _ :: _, _ :: _, 0, h => h
 | _ :: _, _ :: _, n + 1, h => Sm.drop n h.2
 | [], _ :: _, _, h => h.elim
 | _ :: _, [], _, h => h.elim
end Go.Proofs.YtpabbnddeklpdaaGreat

namespace Go.Proofs.YtpabbnddeklpdaaGreat
open Go.RowKit Go.Shelf
set_option linter.unusedVariables false

theorem cmp_same {a b c d : EntD} (h : EntD.Same a c) (k : EntD.Same b d) : compareS a b = compareS c d := compareS_same h k
theorem Spot.sm {R L : List EntD} {e D : EntD} {t : Nat} (h : Spot R e t) (hs : Sm R L) (hd : EntD.Same D e) : Spot L D t := by
 refine ⟨by rw [← hs.len]; exact h.le, fun y hy => ?_, fun x hx => ?_⟩
 ·obtain ⟨j, hj⟩ := List.getElem?_of_mem hy
  have hjt : j < (R.take t).length := by
   have := (List.getElem?_eq_some_iff.1 hj).1
   rw [List.length_take] at this ⊢
   rw [hs.len]; exact this
  obtain ⟨a, b, h1, h2, h3⟩ := (hs.take t).at hjt
  rw [h2] at hj; cases hj
  rw [← cmp_same h3 hd.symm]
  exact h.lt a (List.mem_of_getElem? h1)
 ·have ht : t < R.length := by rw [hs.len]; exact (List.getElem?_eq_some_iff.1 hx).1
  obtain ⟨a, b, h1, h2, h3⟩ := hs.at ht
  rw [h2] at hx; cases hx
  rw [← cmp_same h3 hd.symm]
  exact h.ge a h1
theorem spot_there {L : List EntD} {D : EntD} {t : Nat} (hl : Srt L) (sp : Spot L D t) {y : EntD} (hy : y ∈ L) (h0 : compareS D y = 0) : ∃ x, L[t]? = some x ∧ compareS x D = 0 := by
 have h0' : compareS y D = 0 := by rw [compareS_swap, h0]; rfl
 obtain ⟨j, hj⟩ := List.getElem?_of_mem hy
 obtain ⟨hjl, hje⟩ := List.getElem?_eq_some_iff.1 hj
 by_cases h1 : j < t
 ·have := sp.lt y (by
   rw [List.mem_iff_getElem?]
   exact ⟨j, by rw [List.getElem?_take, if_pos h1]; exact hj⟩)
  omega
 ·by_cases h2 : j = t
  ·subst h2; exact ⟨y, hj, h0'⟩
  ·have htl : t < L.length := by omega
   have hx : L[t]? = some L[t] := by simp [htl]
   have h3 := sp.ge _ hx
   have h4 : compareS L[t] y < 0 := by
    have := List.pairwise_iff_getElem.1 hl t j htl hjl (by omega)
    rw [hje] at this; exact this
   have h5 : compareS y L[t] = - compareS L[t] y := compareS_swap _ _
   have h6 := compareS_tri L[t] y D
   unfold Tri at h6
   exfalso
   omega
theorem spot_ins {L A B : List EntD} {D x : EntD} {t : Nat} (sp : Spot L D t) (hL : L = A ++ B) (hs : Srt (A ++ x :: B)) (hx : EntD.Same x D) : t = A.length := by
 have hA : ∀ a ∈ A, compareS a D < 0 := fun a ha => by
  have := (List.pairwise_append.1 hs).2.2 a ha x (by simp)
  rwa [cmp_same (EntD.Same.rfl' a) hx] at this
 have hB : ∀ b ∈ B, compareS D b < 0 := fun b hb => by
  have := (List.pairwise_cons.1 (List.pairwise_append.1 hs).2.1).1 b hb
  rwa [cmp_same hx (EntD.Same.rfl' b)] at this
 by_cases h1 : t < A.length
 ·have h2 : L[t]? = some A[t] := by rw [hL, List.getElem?_append_left h1]; simp [h1]
  exact absurd (hA _ (List.getElem_mem h1)) (sp.ge _ h2)
 ·by_cases h2 : t = A.length
  ·exact h2
  ·have h3 := sp.le
   rw [hL, List.length_append] at h3
   have hb : 0 < B.length := by omega
   have h4 := sp.lt B[0] (by
    rw [List.mem_iff_getElem?]
    refine ⟨A.length, ?_⟩
    rw [List.getElem?_take, if_pos (by omega), hL, List.getElem?_append_right (Nat.le_refl _)]
    simp [hb])
   have h5 := hB B[0] (List.getElem_mem hb)
   have h6 : compareS B[0] D = - compareS D B[0] := compareS_swap _ _
   omega

theorem both_add {R L R' L' : List EntD} {D e : EntD} {c c' : Nat} (hs : Sm R L) (hl : Srt L) (hde : EntD.Same D e)
  (ht : (checkS D ≠ 0 ∧ c = checkS D ∧ L' = L) ∨ (checkS D = 0 ∧ (∃ y ∈ L, compareS D y = 0) ∧ c = 80 ∧ L' = L) ∨ (c = 0 ∧ checkS D = 0 ∧ (¬ ∃ y ∈ L, compareS D y = 0) ∧ ∃ A B x, L = A ++ B ∧ EntD.Same x D ∧ L' = A ++ x :: B ∧ Srt (A ++ x :: B)))
  (hr : (checkS e ≠ 0 ∧ c' = checkS e ∧ R' = R) ∨ (checkS e = 0 ∧ ∃ t, Spot R e t ∧ ((c' = 80 ∧ R' = R ∧ ∃ x, R[t]? = some x ∧ compareS x e = 0) ∨ (c' = 0 ∧ (∀ x, R[t]? = some x → compareS x e ≠ 0) ∧ ∃ x, EntD.Same x e ∧ R' = R.take t ++ x :: R.drop t)))) : c = c' ∧ Sm R' L' := by
 have hce : checkS D = checkS e := checkS_same hde
 rcases ht with ⟨h1, rfl, rfl⟩ | ⟨h1, ⟨y, hy, hy0⟩, rfl, rfl⟩ | ⟨rfl, h1, h2, A, B, x, h3, h4, rfl, h5⟩
 ·rcases hr with ⟨k1, rfl, rfl⟩ | ⟨k1, _⟩
  ·exact ⟨hce, hs⟩
  ·exact absurd (hce.trans k1) h1
 ·rcases hr with ⟨k1, _⟩ | ⟨k1, t, sp, ⟨rfl, rfl, _⟩ | ⟨rfl, k2, _⟩⟩
  ·omega
  ·exact ⟨rfl, hs⟩
  ·exfalso
   obtain ⟨z, z1, z2⟩ := spot_there hl (sp.sm hs hde) hy hy0
   have ht : t < R.length := by rw [hs.len]; exact (List.getElem?_eq_some_iff.1 z1).1
   obtain ⟨a, b, h1, h2, h3⟩ := hs.at ht
   rw [h2] at z1; cases z1
   exact k2 a h1 (by rw [cmp_same h3 hde.symm]; exact z2)
 ·rcases hr with ⟨k1, _⟩ | ⟨k1, t, sp, ⟨_, _, z, z1, z2⟩ | ⟨rfl, k2, x', e1, rfl⟩⟩
  ·omega
  ·exfalso
   have ht : t < R.length := (List.getElem?_eq_some_iff.1 z1).1
   obtain ⟨a, b, q1, q2, q3⟩ := hs.at ht
   rw [q1] at z1; cases z1
   refine h2 ⟨b, List.mem_of_getElem? q2, ?_⟩
   rw [compareS_swap, ← cmp_same q3 hde.symm, z2]; rfl
  ·refine ⟨rfl, ?_⟩
   have hA := spot_ins (sp.sm hs hde) h3 h5 h4
   subst h3
   have e2 : Sm (R.take t) A := by have := hs.take t; rw [hA, List.take_left] at this; rw [hA]; exact this
   have e3 : Sm (R.drop t) B := by have := hs.drop t; rw [hA, List.drop_left] at this; rw [hA]; exact this
   exact Sm.app e2 ⟨e1.trans (hde.symm.trans h4.symm), e3⟩
end Go.Proofs.YtpabbnddeklpdaaGreat

namespace Go.Proofs.YtpabbnddeklpdaaGreat
open Go.RowKit Go.Shelf
set_option linter.unusedVariables false

def SeqO {α : Type} (P : Program) (gf : Nat) (lb : Array Value) (encs : α → Array Value) (Gd : Nat → List α → α → World → World → Prop) (Kp : Nat → World → World → Prop) (S Sp : List α → Prop) (w : World) : Prop :=
 ∀ (l n : Nat) (J Jx : List α → World → Prop) (W : World), Turn w.heap.size w W → (∀ s X, J s X → W.heap.size ≤ X.heap.size) → AbT W.heap.size J → AbT W.heap.size Jx →
  (∀ m pre x W0 W1, J pre W0 → J pre W1 → Gd W.heap.size pre x W0 W1 → YieldAt Fence.wide m P l (encs x) W1 fun e W' => (e = .returned (.bool true) ∧ J (pre ++ [x]) W' ∧ Kp W.heap.size W1 W') ∨ (e = .returned (.bool false) ∧ Jx (pre ++ [x]) W' ∧ Oth W.heap.size W1 W')) →
  J [] W → CallsIn Fence.wide n P gf (#[.func (.yield l) #[] #[]] ++ lb) W fun e W' => (∃ v, e = .returned v) ∧ ((∃ xs, S xs ∧ J xs W') ∨ (∃ pre, Sp pre ∧ Jx pre W'))

theorem range_o {α : Type} {P : Program} {g : Operand} {ps : Array Tmp} {assign body : Code} {Q : Exit → Act → World → Prop} {a : Act} {w : World} {n : Nat} {gf : Nat} {lb : Array Value}
  (hg : a.eval g = .func (.func gf) #[] lb) (eg : ∀ args w, (callFunc gf args).run P w = .ok (.enter gf args) w)
  {encs : α → Array Value} {Gd : Nat → List α → α → World → World → Prop} {Kp : Nat → World → World → Prop} {S Sp : List α → Prop} (hseq : SeqO P gf lb encs Gd Kp S Sp w)
  (hKt : ∀ {A B C : World}, Kp (w.heap.size + 2) A B → Kp (w.heap.size + 2) B C → Kp (w.heap.size + 2) A C) (hKb : ∀ (W : World) (o o' : Obj), W.heap[w.heap.size + 1]? = some o → o.isCells = false → Kp (w.heap.size + 2) W (W.putObj (w.heap.size + 1) o')) (hps : ∀ x, (encs x).size = ps.size)
  (I : List α → World → Prop) (Ix : Code → List α → World → Prop) (hIs : ∀ s X, I s X → w.heap.size ≤ X.heap.size) (hI : AbT w.heap.size I) (hIx : ∀ c, AbT w.heap.size (Ix c)) (h0 : I [] w)
  (Ax : List α → α → Act → World → Prop) (hAx : ∀ pre x a', AbT w.heap.size (fun (_ : Unit) W => Ax pre x a' W))
  (hassign : ∀ (l : Nat) (pre : List α) (x : α) (W0 W : World) (K : Act → World → Prop), I pre W0 → I pre W → w.heap.size + 2 ≤ W.heap.size → Gd (w.heap.size + 2) pre x W0 W → (∀ a' W', KeepsFrom w.heap.size W W' → Kp (w.heap.size + 2) W W' → I pre W' → Ax pre x a' W' → K a' W') →
   assign.wpIn (Fence.wide.inRound l) n P (Exit.then K (fun _ _ _ => False)) { tmps := (ps.zip (encs x)).foldl (fun t (p, v) => t.setIfInBounds p v) a.tmps, defers := [] } W)
  (hbody : ∀ (l : Nat) (pre : List α) (x : α) (a' : Act) (W : World), I pre W → Ax pre x a' W → body.wpIn (Fence.wide.inRound l) n P (ownPostG w.heap.size (Kp (w.heap.size + 2)) I Ix (pre ++ [x]) W) a' W)
  (hdone : ∀ (D : Nat) (xs : List α) (W : World), w.heap.size ≤ D → S xs → I xs W → W.heap[D]? = some (.deferred (some [])) → Q .normal { a with defers := { target := .collected D, args := #[] } :: a.defers } W)
  (hstop : ∀ (D : Nat) (c : Code) (pre : List α) (W : World), w.heap.size ≤ D → Sp pre → Ix c pre W → W.heap[D]? = some (.deferred (some [])) → c.wpIn Fence.wide n P Q { a with defers := { target := .collected D, args := #[] } :: a.defers } W)
  (hIxs : ∀ c s X, Ix c s X → w.heap.size ≤ X.heap.size) :
  (Code.rangeFunc g ps assign body).wpIn Fence.wide n P Q a w := by
 refine wpIn_rangeFunc fun fn hfn => ?_
 let rc : LoopState → Option Code → Obj := fun st pe => .loop { state := st, pending := pe, fn, tmps := a.tmps, params := ps, assign, body, defers := w.heap.size }
 let Bk : Obj → World → Prop := fun r W => W.heap[w.heap.size + 1]? = some r ∧ W.heap[w.heap.size]? = some (.deferred (some []))
 have T0 : Turn w.heap.size w ((w.alloc (.deferred (some []))).alloc (rc .ready none)) := Turn.of (((Below.refl _ w).alloc (Nat.le_refl _) _).alloc (by simp) _) (Nat.le_refl _)
 have k0 : Bk (rc .ready none) ((w.alloc (.deferred (some []))).alloc (rc .ready none)) := by
  constructor
  ·have := World.alloc_heap_new (w.alloc (.deferred (some []))) (rc .ready none); rwa [World.size_alloc] at this
  ·exact (Below.heap_alloc _ _ _ (by simp)).trans (World.alloc_heap_new w _)
 have hsz : ((w.alloc (.deferred (some []))).alloc (rc .ready none)).heap.size = w.heap.size + 2 := by simp
 obtain ⟨W1, hW1⟩ : ∃ W1, W1 = ((w.alloc (.deferred (some []))).alloc (rc .ready none)) := ⟨_, rfl⟩
 rw [← hW1] at T0 k0 hsz
 refine ⟨w.heap.size + 1, [{ target := .collected w.heap.size, args := #[] }], W1, { target := .fn (.func gf) lb, args := #[.func (.yield (w.heap.size + 1)) #[] #[]] }, W1, gf, #[.func (.yield (w.heap.size + 1)) #[] #[]] ++ lb, W1, ?_, ?_, fun _ _ => trivial, ?_, fun h => (by cases h), ?_⟩
 ·rw [hW1]; exact run_enterLoop_outer _ _ _ _ _
 ·simp only [resolve, hg]
  simp [go_sem]
 ·simp [invoke, go_sem, eg]
 have keepB : ∀ (r : Obj) (X Y : World), Bk r X → Turn (w.heap.size + 2) X Y → Bk r Y := fun r X Y h t => ⟨(t.below.block _ (by omega)).trans h.1, (t.below.block _ (by omega)).trans h.2⟩
 have putB : ∀ (r r' : Obj) (X : World), Bk r X → Bk r' (X.putObj (w.heap.size + 1) r') := fun r r' X h => ⟨World.putObj_heap_same (Array.getElem?_eq_some_iff.1 h.1).1, (World.putObj_heap_other (by omega)).trans h.2⟩
 have putT : ∀ (st : LoopState) (pe : Option Code) (r' : Obj) (X : World), w.heap.size ≤ X.heap.size → Bk (rc st pe) X → Turn w.heap.size X (X.putObj (w.heap.size + 1) r') := fun st pe r' X hX h => Turn.put r' hX (by omega) h.1 rfl
 have keepF : ∀ (r : Obj) (X Y : World), r.isCells = false → Bk r X → KeepsFrom w.heap.size X Y → Bk r Y := fun r X Y hc h k => ⟨k.same _ _ (by omega) h.1 hc, k.same _ _ (Nat.le_refl _) h.2 rfl⟩
 refine CallsIn.mono (hseq (w.heap.size + 1) (n - 1) (fun pre W => I pre W ∧ w.heap.size + 2 ≤ W.heap.size ∧ Bk (rc .ready none) W) (fun pre W => ∃ c, Ix c pre W ∧ Bk (rc .done (some c)) W) _ T0 (fun s X h => by rw [hsz]; exact h.2.1)
  (fun s X Y hX h t => ⟨hI s X Y (hIs s X h.1) h.1 (t.mono (by rw [hsz]; omega)), Nat.le_trans h.2.1 t.below.size, keepB _ X Y h.2.2 (by rw [hsz] at t; exact t)⟩)
  (fun s X Y hX ⟨c, h1, h2⟩ t => ⟨c, hIx c s X Y (by rw [hsz] at hX; omega) h1 (t.mono (by rw [hsz]; omega)), keepB _ X Y h2 (by rw [hsz] at t; exact t)⟩)
  ?_ ⟨hI [] w _ (Nat.le_refl _) h0 T0, by rw [hsz]; omega, k0⟩) ?_
 ·rw [hsz]
  rintro m pre x W0 W ⟨hi0, _, _⟩ ⟨hi, hsW, hb⟩ hgd
  refine ⟨fn, _, assign, body, run_yield hb.1 (hps x), ?_⟩
  refine roundIn_anyDepth (roundIn_of_wpIn hfn (hassign _ pre x W0 W _ hi0 hi hsW hgd ?_))
  intro a' Wa kf kp hia hax
  have hba := keepF _ _ _ rfl hb kf
  have hsa : w.heap.size ≤ Wa.heap.size := hIs _ _ hia
  refine ⟨_, run_beginRound hba.1 rfl, ?_⟩
  have t1 := putT _ _ (rc .busy none) Wa hsa hba
  have hb1 := putB _ (rc .busy none) Wa hba
  have hi1 := hI pre _ _ hsa hia t1
  refine wpIn_mono (hbody _ pre x a' _ hi1 (hAx pre x a' () _ _ hsa hax t1)) ?_
  have fin : ∀ (jump : Option Code) (W3 : World), Bk (rc .busy none) W3 → (Instr.endRound (w.heap.size + 1) jump).run P W3 = .ok (.bool jump.isNone) (W3.putObj (w.heap.size + 1) (rc (if jump.isNone then .ready else .done) jump)) := fun jump W3 h => run_endRound jump h.1
  have out : ∀ (c : Code) (W3 : World), KeepsFrom w.heap.size (Wa.putObj (w.heap.size + 1) (rc .busy none)) W3 ∧ Ix c (pre ++ [x]) W3 → ∃ v w', (Instr.endRound (w.heap.size + 1) (some c)).run P W3 = .ok v w' ∧ ((Ending.returned v = .returned (.bool true) ∧ (I (pre ++ [x]) w' ∧ w.heap.size + 2 ≤ w'.heap.size ∧ Bk (rc .ready none) w') ∧ Kp (w.heap.size + 2) W w') ∨ (Ending.returned v = .returned (.bool false) ∧ (∃ c, Ix c (pre ++ [x]) w' ∧ Bk (rc .done (some c)) w') ∧ Oth (w.heap.size + 2) W w')) := fun c W3 h => by
   have hb3 := keepF _ _ _ rfl hb1 h.1
   refine ⟨_, _, fin (some c) W3 hb3, .inr ⟨rfl, ⟨c, ?_, putB _ _ _ hb3⟩, (Oth.from kf (by omega)).trans ((Oth.put _ (by omega)).trans ((Oth.from h.1 (by omega)).trans (Oth.put _ (by omega))))⟩⟩
   exact hIx c _ _ _ (hIxs c _ _ h.2) h.2 (putT _ _ _ _ (hIxs c _ _ h.2) hb3)
  rintro e a3 W3 hp
  cases e with
  | normal =>
   obtain ⟨k3, kp3, hi3⟩ := hp
   have hb3 := keepF _ _ _ rfl hb1 k3
   have hs3 := hIs _ _ hi3
   have t3 := putT _ _ (rc .ready none) W3 hs3 hb3
   refine ⟨_, _, fin none W3 hb3, .inl ⟨rfl, ⟨hI _ _ _ hs3 hi3 t3, ?_, putB _ _ _ hb3⟩, hKt kp (hKt (hKt (hKb _ _ _ hba.1 rfl) kp3) (hKb _ _ _ hb3.1 rfl))⟩⟩
   exact (Array.getElem?_eq_some_iff.1 (putB _ (rc .ready none) _ hb3).1).1
  | ret => exact out .ret W3 hp
  | exit id => exact out (.exit id) W3 hp
  | goto t => exact out (.goto t) W3 hp
  | panic ch => exact hp.elim
  | outgrown => exact hp.elim
 ·rintro e W2 ⟨⟨v, rfl⟩, (⟨xs, hS, hi, hs2, hb⟩ | ⟨pre, hSp, c, hi, hb⟩)⟩
  ·exact ⟨none, _, run_endLoop hb.1 (by simp), hdone _ xs _ (Nat.le_refl _) hS (hI _ _ _ (hIs _ _ hi) hi (putT _ _ _ _ (hIs _ _ hi) hb)) ((World.putObj_heap_other (by omega)).trans hb.2)⟩
  ·exact ⟨some c, _, run_endLoop hb.1 (by simp), hstop _ c pre _ (Nat.le_refl _) hSp (hIx c _ _ _ (hIxs c _ _ hi) hi (putT _ _ _ _ (hIxs c _ _ hi) hb)) ((World.putObj_heap_other (by omega)).trans hb.2)⟩
end Go.Proofs.YtpabbnddeklpdaaGreat

namespace Go.Proofs.YtpabbnddeklpdaaGreat
open Go.RowKit
set_option linter.unusedVariables false

theorem own_same {w w' : World} {B m : Nat} {v : Value} {xs : List Nat} (h : Own w B v m xs) (k : ∀ g, v.ownBlock = some g → w'.heap[g]? = w.heap[g]?) : Own w' B v m xs := by
 refine ⟨h.1, h.2.1, ?_⟩
 rcases h.2.2 with h2 | ⟨g, cap, cur, h3, h4, h5, h6⟩
 ·exact .inl h2
 ·exact .inr ⟨g, cap, cur, h3, h4, by rw [k g (by rw [h3]; rfl)]; exact h5, h6⟩
theorem _root_.Go.Proofs.YtpabbnddeklpdaaGreat.Own.base {w : World} {B B' m : Nat} {v : Value} {xs : List Nat} (h : Own w B v m xs) (k : ∀ g, v.ownBlock = some g → B' ≤ g) (e : m = xs.length) : Own w B' v xs.length xs := by
 subst e
 refine ⟨h.1, h.2.1, ?_⟩
 rcases h.2.2 with h2 | ⟨g, cap, cur, h3, h4, h5, h6⟩
 ·exact .inl h2
 ·exact .inr ⟨g, cap, cur, h3, k g (by rw [h3]; rfl), h5, h6⟩
structure O3 (w : World) (b : Nat) (D : EntD) : Prop where
 row : Own w b D.vr D.row.length D.row
 qual : Own w b D.vq D.qual.length D.qual
 val : Own w b D.vv D.val.length D.val
 arq : ∀ k, D.vr.ownBlock = some k → D.vq.ownBlock ≠ some k
 arv : ∀ k, D.vr.ownBlock = some k → D.vv.ownBlock ≠ some k
 aqv : ∀ k, D.vq.ownBlock = some k → D.vv.ownBlock ≠ some k
theorem O3.lt {w : World} {b : Nat} {D : EntD} (h : O3 w b D) : ∀ g, D.vr.ownBlock = some g ∨ D.vq.ownBlock = some g ∨ D.vv.ownBlock = some g → b ≤ g ∧ g < w.heap.size := fun g hg => by
 rcases hg with hg | hg | hg
 ·exact h.row.2.lt g hg
 ·exact h.qual.2.lt g hg
 ·exact h.val.2.lt g hg
theorem O3.mono {w : World} {b b' : Nat} {D : EntD} (h : O3 w b D) (hb : b' ≤ b) : O3 w b' D := ⟨h.row.mono hb, h.qual.mono hb, h.val.mono hb, h.arq, h.arv, h.aqv⟩
theorem O3.same {w w' : World} {b : Nat} {D : EntD} (h : O3 w b D) (k : ∀ g, b ≤ g → g < w.heap.size → (∃ cur fr, w.heap[g]? = some (.cells cur 5 fr)) → w'.heap[g]? = w.heap[g]?) : O3 w' b D := by
 have q : ∀ {v : Value} {m : Nat} {xs : List Nat}, Own w b v m xs → Own w' b v m xs := fun o => own_same o (fun g hg => by
  refine k g (o.2.lt g hg).1 (o.2.lt g hg).2 ?_
  rcases o.2.2 with ⟨h1, _⟩ | ⟨g', cap, cur, h3, h4, h5, _⟩
  ·rw [h1] at hg; cases hg
  ·rw [h3] at hg; cases hg; exact ⟨cur, _, h5⟩)
 exact ⟨q h.row, q h.qual, q h.val, h.arq, h.arv, h.aqv⟩
theorem O3.kept {w w' : World} {b : Nat} {D : EntD} (h : O3 w b D) (k : KpG (fun i => b ≤ i) w w') : O3 w' b D := h.same (fun g hg hl _ => k.block g hl hg)
theorem O3.later {w w' : World} {b : Nat} {D : EntD} (h : O3 w b D) (k : Below w.heap.size w w') : O3 w' b D := h.same (fun g _ hl _ => k.block g hl)
theorem O3.turn {w w' : World} {b B : Nat} {D : EntD} (h : O3 w b D) (k : Turn B w w') : O3 w' b D := h.same (fun g _ _ ⟨cur, fr, e⟩ => (k.cells g _ e rfl).trans e.symm)

set_option maxRecDepth 100000 in
set_option maxHeartbeats 8000000 in
theorem copyOf_own {w : World} {e : EntD} (hx : EntD.Ok w e) (hl : e.row.length ≤ 140737488355328 ∧ e.qual.length ≤ 140737488355328 ∧ e.val.length ≤ 140737488355328) :
  Calls Tryz.prog 24 #[.agg e.cells] w fun z w' => ∃ x : EntD, z = .returned (.agg x.cells) ∧ EntD.Same x e ∧ EOk (fun i => w.heap.size ≤ i) w' x ∧ O3 w' w.heap.size x ∧ Below w.heap.size w w' := by
 have A1 := (Below.refl w.heap.size w).alloc (Nat.le_refl _) (.cells e.cells 38)
 have bx0 := EBox.new w e
 obtain ⟨zc, hz⟩ : ∃ zc : Array Value, zc = #[.slice none 0 0, .int .i64 0, .slice none 0 0, .int .i64 0, .int .i64 0, .int .i64 0, .slice none 0 0] := ⟨_, rfl⟩
 have A2 := A1.alloc A1.size (.cells zc 38)
 have bx := bx0.later ((Below.refl (w.alloc (.cells e.cells 38)).heap.size _).alloc (Nat.le_refl _) (.cells zc 38))
 have rz : ((w.alloc (.cells e.cells 38)).alloc (.cells zc 38)).heap[w.heap.size + 1]? = some (.cells zc 38 (0, 0)) := by
  show ((w.alloc (.cells e.cells 38)).heap.push _)[w.heap.size + 1]? = _
  have e1 : w.heap.size + 1 = (w.alloc (.cells e.cells 38)).heap.size := (World.size_alloc w _).symm
  rw [e1]
  exact Array.getElem?_push_size
 obtain ⟨W, hW⟩ : ∃ W, W = (w.alloc (.cells e.cells 38)).alloc (.cells zc 38) := ⟨_, rfl⟩
 rw [← hW] at A2 bx rz
 have HW : Hid (W = _) := hW
 have hwl : w.heap.size + 1 < W.heap.size := by rw [hW]; simp
 clear hW A1 bx0
 have HX : Hid (∀ wx, Below W.heap.size W wx → EBox wx w.heap.size e ∧ EntD.Ok wx e) := fun wx b => ⟨bx.later b, (hx.later A2).later b⟩
 have HR : Hid (∀ wx, Below W.heap.size W wx → wx.heap[w.heap.size + 1]? = some (.cells zc 38 (0, 0))) := fun wx b => (b.block _ hwl).trans rz
 have HA : Hid (Below w.heap.size w W) := A2
 have HY : Hid (Bys e.row ∧ Bys e.qual ∧ Bys e.val) := ⟨hx.1.1, hx.2.1.1, hx.2.2.1⟩
 have HL : Hid (e.row.length ≤ 140737488355328 ∧ e.qual.length ≤ 140737488355328 ∧ e.val.length ≤ 140737488355328) := hl
 obtain ⟨vr, fam, vq, ts, seq, kind, vv, row, qual, val⟩ := e
 subst hz
 simp only [EntD.cells] at *
 have D0 : Below W.heap.size W W.drew := (Below.refl _ _).drew
 have C1 : Hid (∀ wx, Below W.heap.size W wx → Calls Tryz.prog 43 #[vr] wx _) := fun wx b => handed (clone_any (HX.out _ b).2.1 HL.out.1)
 have C2 : Hid (∀ wx, Below W.heap.size W wx → Calls Tryz.prog 43 #[vq] wx _) := fun wx b => handed (clone_any (HX.out _ b).2.2.1 HL.out.2.1)
 have C3 : Hid (∀ wx, Below W.heap.size W wx → Calls Tryz.prog 43 #[vv] wx _) := fun wx b => handed (clone_any (HX.out _ b).2.2.2 HL.out.2.2)
 have y0 : W.drew.cell? ⟨w.heap.size, 0, none⟩ = some vr := (HX.out _ D0).1.vr
 have y2 : W.drew.cell? ⟨w.heap.size, 2, none⟩ = some vq := (HX.out _ D0).1.vq
 have y6 : W.drew.cell? ⟨w.heap.size, 6, none⟩ = some vv := (HX.out _ D0).1.vv
 clear A2 bx rz hl hx
 go_enter Tryz.func24, Tryz.ntmps24
 go_wp2_with fail
 rw [← HW.out]
 refine wp_region_noPanic ?_
 refine wp_region_anyE (S := fun wx => wx.cell? ⟨w.heap.size, 0, none⟩ = some vr ∧ wx.cell? ⟨w.heap.size, 2, none⟩ = some vq ∧ wx.cell? ⟨w.heap.size, 6, none⟩ = some vv) (E := fun j => decide (j < 9)) (by kernel_rfl) ?_
 have hS : W.drew.cell? ⟨w.heap.size, 0, none⟩ = some vr ∧ W.drew.cell? ⟨w.heap.size, 2, none⟩ = some vq ∧ W.drew.cell? ⟨w.heap.size, 6, none⟩ = some vv := ⟨y0, y2, y6⟩
 refine AnyE.take (i := 0) (.pointer (some ⟨w.heap.size, 0, none⟩)) rfl (by kernel_rfl) (by kernel_rfl) (by kernel_rfl) (by kernel_rfl) (fun _ _ _ h => h) (.inl ⟨by rfl, fun wq hq => by go_simp⟩) hS ?_
 show AnyE _ _ _ _ _ _ 14 #[true, false, false, false, false, false, false, false, false, false, false, false, false, false, false] ⟨#[.agg #[vr, .int .i64 fam, vq, .int .i64 ts, .int .i64 seq, .int .i64 kind, vv], .pointer (some ⟨w.heap.size, 0, none⟩), .pointer (some ⟨w.heap.size + 1, 0, none⟩), .pointer (some ⟨w.heap.size, 0, none⟩), undef, undef, undef, undef, undef, undef, undef, undef, undef, undef, undef, undef], []⟩ _
 refine AnyE.take (i := 1) (vr) rfl (by kernel_rfl) (by kernel_rfl) (by kernel_rfl) (by kernel_rfl) (fun _ _ _ h => h) (.inl ⟨by rfl, fun wq hq => by obtain ⟨q0, q2, q6⟩ := hq; go_simp⟩) hS ?_
 show AnyE _ _ _ _ _ _ 13 #[true, true, false, false, false, false, false, false, false, false, false, false, false, false, false] ⟨#[.agg #[vr, .int .i64 fam, vq, .int .i64 ts, .int .i64 seq, .int .i64 kind, vv], .pointer (some ⟨w.heap.size, 0, none⟩), .pointer (some ⟨w.heap.size + 1, 0, none⟩), .pointer (some ⟨w.heap.size, 0, none⟩), vr, undef, undef, undef, undef, undef, undef, undef, undef, undef, undef, undef], []⟩ _
 refine AnyE.take (i := 3) (.pointer (some ⟨w.heap.size, 2, none⟩)) rfl (by kernel_rfl) (by kernel_rfl) (by kernel_rfl) (by kernel_rfl) (fun _ _ _ h => h) (.inl ⟨by rfl, fun wq hq => by go_simp⟩) hS ?_
 show AnyE _ _ _ _ _ _ 12 #[true, true, false, true, false, false, false, false, false, false, false, false, false, false, false] ⟨#[.agg #[vr, .int .i64 fam, vq, .int .i64 ts, .int .i64 seq, .int .i64 kind, vv], .pointer (some ⟨w.heap.size, 0, none⟩), .pointer (some ⟨w.heap.size + 1, 0, none⟩), .pointer (some ⟨w.heap.size, 0, none⟩), vr, undef, .pointer (some ⟨w.heap.size, 2, none⟩), undef, undef, undef, undef, undef, undef, undef, undef, undef], []⟩ _
 refine AnyE.take (i := 4) (vq) rfl (by kernel_rfl) (by kernel_rfl) (by kernel_rfl) (by kernel_rfl) (fun _ _ _ h => h) (.inl ⟨by rfl, fun wq hq => by obtain ⟨q0, q2, q6⟩ := hq; go_simp⟩) hS ?_
 show AnyE _ _ _ _ _ _ 11 #[true, true, false, true, true, false, false, false, false, false, false, false, false, false, false] ⟨#[.agg #[vr, .int .i64 fam, vq, .int .i64 ts, .int .i64 seq, .int .i64 kind, vv], .pointer (some ⟨w.heap.size, 0, none⟩), .pointer (some ⟨w.heap.size + 1, 0, none⟩), .pointer (some ⟨w.heap.size, 0, none⟩), vr, undef, .pointer (some ⟨w.heap.size, 2, none⟩), vq, undef, undef, undef, undef, undef, undef, undef, undef], []⟩ _
 refine AnyE.take (i := 6) (.pointer (some ⟨w.heap.size, 6, none⟩)) rfl (by kernel_rfl) (by kernel_rfl) (by kernel_rfl) (by kernel_rfl) (fun _ _ _ h => h) (.inl ⟨by rfl, fun wq hq => by go_simp⟩) hS ?_
 show AnyE _ _ _ _ _ _ 10 #[true, true, false, true, true, false, true, false, false, false, false, false, false, false, false] ⟨#[.agg #[vr, .int .i64 fam, vq, .int .i64 ts, .int .i64 seq, .int .i64 kind, vv], .pointer (some ⟨w.heap.size, 0, none⟩), .pointer (some ⟨w.heap.size + 1, 0, none⟩), .pointer (some ⟨w.heap.size, 0, none⟩), vr, undef, .pointer (some ⟨w.heap.size, 2, none⟩), vq, undef, .pointer (some ⟨w.heap.size, 6, none⟩), undef, undef, undef, undef, undef, undef], []⟩ _
 refine AnyE.take (i := 7) (vv) rfl (by kernel_rfl) (by kernel_rfl) (by kernel_rfl) (by kernel_rfl) (fun _ _ _ h => h) (.inl ⟨by rfl, fun wq hq => by obtain ⟨q0, q2, q6⟩ := hq; go_simp⟩) hS ?_
 show AnyE _ _ _ _ _ _ 9 #[true, true, false, true, true, false, true, true, false, false, false, false, false, false, false] ⟨#[.agg #[vr, .int .i64 fam, vq, .int .i64 ts, .int .i64 seq, .int .i64 kind, vv], .pointer (some ⟨w.heap.size, 0, none⟩), .pointer (some ⟨w.heap.size + 1, 0, none⟩), .pointer (some ⟨w.heap.size, 0, none⟩), vr, undef, .pointer (some ⟨w.heap.size, 2, none⟩), vq, undef, .pointer (some ⟨w.heap.size, 6, none⟩), vv, undef, undef, undef, undef, undef], []⟩ _
 refine AnyE.one (i := 2) rfl (by kernel_rfl) (by rfl) (fun K1 hK1 => ?_)
 go_simp
 refine Calls.mono (C1.out _ D0) ?_
 rintro e1 w1 ⟨a1, m1, c1, rfl, o1, b1⟩
 have D1 := D0.trans (b1.mono D0.size)
 have hS1 : w1.cell? ⟨w.heap.size, 0, none⟩ = some vr ∧ w1.cell? ⟨w.heap.size, 2, none⟩ = some vq ∧ w1.cell? ⟨w.heap.size, 6, none⟩ = some vv := ⟨(HX.out _ D1).1.vr, (HX.out _ D1).1.vq, (HX.out _ D1).1.vv⟩
 refine hK1.out _ _ ⟨fun _ => hS1, ?_⟩
 clear hK1
 show AnyE _ _ _ _ _ _ 8 #[true, true, true, true, true, false, true, true, false, false, false, false, false, false, false] ⟨#[.agg #[vr, .int .i64 fam, vq, .int .i64 ts, .int .i64 seq, .int .i64 kind, vv], .pointer (some ⟨w.heap.size, 0, none⟩), .pointer (some ⟨w.heap.size + 1, 0, none⟩), .pointer (some ⟨w.heap.size, 0, none⟩), vr, (.slice a1 m1 c1), .pointer (some ⟨w.heap.size, 2, none⟩), vq, undef, .pointer (some ⟨w.heap.size, 6, none⟩), vv, undef, undef, undef, undef, undef], []⟩ _
 refine AnyE.take (i := 9) (.pointer (some ⟨w.heap.size, 0, none⟩)) rfl (by kernel_rfl) (by kernel_rfl) (by kernel_rfl) (by kernel_rfl) (fun _ _ _ h => h) (.inl ⟨by rfl, fun wq hq => by go_simp⟩) hS1 ?_
 show AnyE _ _ _ _ _ _ 7 #[true, true, true, true, true, false, true, true, false, true, false, false, false, false, false] ⟨#[.agg #[vr, .int .i64 fam, vq, .int .i64 ts, .int .i64 seq, .int .i64 kind, vv], .pointer (some ⟨w.heap.size, 0, none⟩), .pointer (some ⟨w.heap.size + 1, 0, none⟩), .pointer (some ⟨w.heap.size, 0, none⟩), vr, (.slice a1 m1 c1), .pointer (some ⟨w.heap.size, 2, none⟩), vq, undef, .pointer (some ⟨w.heap.size, 6, none⟩), vv, undef, .pointer (some ⟨w.heap.size, 0, none⟩), undef, undef, undef], []⟩ _
 refine AnyE.one (i := 5) rfl (by kernel_rfl) (by rfl) (fun K2 hK2 => ?_)
 go_simp
 refine Calls.mono (C2.out _ D1) ?_
 rintro e2 w2 ⟨a2, m2, c2, rfl, o2, b2⟩
 have D2 := D1.trans (b2.mono D1.size)
 have hS2 : w2.cell? ⟨w.heap.size, 0, none⟩ = some vr ∧ w2.cell? ⟨w.heap.size, 2, none⟩ = some vq ∧ w2.cell? ⟨w.heap.size, 6, none⟩ = some vv := ⟨(HX.out _ D2).1.vr, (HX.out _ D2).1.vq, (HX.out _ D2).1.vv⟩
 refine hK2.out _ _ ⟨fun _ => hS2, ?_⟩
 clear hK2
 show AnyE _ _ _ _ _ _ 6 #[true, true, true, true, true, true, true, true, false, true, false, false, false, false, false] ⟨#[.agg #[vr, .int .i64 fam, vq, .int .i64 ts, .int .i64 seq, .int .i64 kind, vv], .pointer (some ⟨w.heap.size, 0, none⟩), .pointer (some ⟨w.heap.size + 1, 0, none⟩), .pointer (some ⟨w.heap.size, 0, none⟩), vr, (.slice a1 m1 c1), .pointer (some ⟨w.heap.size, 2, none⟩), vq, (.slice a2 m2 c2), .pointer (some ⟨w.heap.size, 6, none⟩), vv, undef, .pointer (some ⟨w.heap.size, 0, none⟩), undef, undef, undef], []⟩ _
 refine AnyE.one (i := 8) rfl (by kernel_rfl) (by rfl) (fun K3 hK3 => ?_)
 go_simp
 refine Calls.mono (C3.out _ D2) ?_
 rintro e3 w3 ⟨a3, m3, c3, rfl, o3, b3⟩
 have D3 := D2.trans (b3.mono D2.size)
 have hS3 : w3.cell? ⟨w.heap.size, 0, none⟩ = some vr ∧ w3.cell? ⟨w.heap.size, 2, none⟩ = some vq ∧ w3.cell? ⟨w.heap.size, 6, none⟩ = some vv := ⟨(HX.out _ D3).1.vr, (HX.out _ D3).1.vq, (HX.out _ D3).1.vv⟩
 refine hK3.out _ _ ⟨fun _ => hS3, ?_⟩
 clear hK3
 show AnyE _ _ _ _ _ _ 5 #[true, true, true, true, true, true, true, true, true, true, false, false, false, false, false] ⟨#[.agg #[vr, .int .i64 fam, vq, .int .i64 ts, .int .i64 seq, .int .i64 kind, vv], .pointer (some ⟨w.heap.size, 0, none⟩), .pointer (some ⟨w.heap.size + 1, 0, none⟩), .pointer (some ⟨w.heap.size, 0, none⟩), vr, (.slice a1 m1 c1), .pointer (some ⟨w.heap.size, 2, none⟩), vq, (.slice a2 m2 c2), .pointer (some ⟨w.heap.size, 6, none⟩), vv, (.slice a3 m3 c3), .pointer (some ⟨w.heap.size, 0, none⟩), undef, undef, undef], []⟩ _
 obtain ⟨v0, v2, v6⟩ := hS3
 have g0 := (HX.out _ D3).1.fzA 0
 have g2 := (HX.out _ D3).1.fzA 2
 have g6 := (HX.out _ D3).1.fzA 6
 refine AnyE.one (i := 10) rfl (by kernel_rfl) (by rfl) (fun K hK => ?_)
 go_simp
 refine hK.out _ _ ⟨fun h => (by cases h), ?_⟩
 clear hK
 show AnyE _ _ _ _ _ _ 4 #[true, true, true, true, true, true, true, true, true, true, true, false, false, false, false] ⟨#[.agg #[vr, .int .i64 fam, vq, .int .i64 ts, .int .i64 seq, .int .i64 kind, vv], .pointer (some ⟨w.heap.size, 0, none⟩), .pointer (some ⟨w.heap.size + 1, 0, none⟩), .pointer (some ⟨w.heap.size, 0, none⟩), vr, (.slice a1 m1 c1), .pointer (some ⟨w.heap.size, 2, none⟩), vq, (.slice a2 m2 c2), .pointer (some ⟨w.heap.size, 6, none⟩), vv, (.slice a3 m3 c3), .pointer (some ⟨w.heap.size, 0, none⟩), undef, undef, undef], []⟩ (w3.setCell ⟨w.heap.size, 0, none⟩ (.slice a1 m1 c1))
 refine AnyE.one (i := 11) rfl (by kernel_rfl) (by rfl) (fun K hK => ?_)
 go_simp
 refine hK.out _ _ ⟨fun h => (by cases h), ?_⟩
 clear hK
 show AnyE _ _ _ _ _ _ 3 #[true, true, true, true, true, true, true, true, true, true, true, true, false, false, false] ⟨#[.agg #[vr, .int .i64 fam, vq, .int .i64 ts, .int .i64 seq, .int .i64 kind, vv], .pointer (some ⟨w.heap.size, 0, none⟩), .pointer (some ⟨w.heap.size + 1, 0, none⟩), .pointer (some ⟨w.heap.size, 0, none⟩), vr, (.slice a1 m1 c1), .pointer (some ⟨w.heap.size, 2, none⟩), vq, (.slice a2 m2 c2), .pointer (some ⟨w.heap.size, 6, none⟩), vv, (.slice a3 m3 c3), .pointer (some ⟨w.heap.size, 0, none⟩), .pointer (some ⟨w.heap.size, 2, none⟩), undef, undef], []⟩ (w3.setCell ⟨w.heap.size, 0, none⟩ (.slice a1 m1 c1))
 refine AnyE.one (i := 12) rfl (by kernel_rfl) (by rfl) (fun K hK => ?_)
 go_simp
 refine hK.out _ _ ⟨fun h => (by cases h), ?_⟩
 clear hK
 show AnyE _ _ _ _ _ _ 2 #[true, true, true, true, true, true, true, true, true, true, true, true, true, false, false] ⟨#[.agg #[vr, .int .i64 fam, vq, .int .i64 ts, .int .i64 seq, .int .i64 kind, vv], .pointer (some ⟨w.heap.size, 0, none⟩), .pointer (some ⟨w.heap.size + 1, 0, none⟩), .pointer (some ⟨w.heap.size, 0, none⟩), vr, (.slice a1 m1 c1), .pointer (some ⟨w.heap.size, 2, none⟩), vq, (.slice a2 m2 c2), .pointer (some ⟨w.heap.size, 6, none⟩), vv, (.slice a3 m3 c3), .pointer (some ⟨w.heap.size, 0, none⟩), .pointer (some ⟨w.heap.size, 2, none⟩), undef, undef], []⟩ ((w3.setCell ⟨w.heap.size, 0, none⟩ (.slice a1 m1 c1)).setCell ⟨w.heap.size, 2, none⟩ (.slice a2 m2 c2))
 refine AnyE.one (i := 13) rfl (by kernel_rfl) (by rfl) (fun K hK => ?_)
 go_simp
 refine hK.out _ _ ⟨fun h => (by cases h), ?_⟩
 clear hK
 show AnyE _ _ _ _ _ _ 1 #[true, true, true, true, true, true, true, true, true, true, true, true, true, true, false] ⟨#[.agg #[vr, .int .i64 fam, vq, .int .i64 ts, .int .i64 seq, .int .i64 kind, vv], .pointer (some ⟨w.heap.size, 0, none⟩), .pointer (some ⟨w.heap.size + 1, 0, none⟩), .pointer (some ⟨w.heap.size, 0, none⟩), vr, (.slice a1 m1 c1), .pointer (some ⟨w.heap.size, 2, none⟩), vq, (.slice a2 m2 c2), .pointer (some ⟨w.heap.size, 6, none⟩), vv, (.slice a3 m3 c3), .pointer (some ⟨w.heap.size, 0, none⟩), .pointer (some ⟨w.heap.size, 2, none⟩), .pointer (some ⟨w.heap.size, 6, none⟩), undef], []⟩ ((w3.setCell ⟨w.heap.size, 0, none⟩ (.slice a1 m1 c1)).setCell ⟨w.heap.size, 2, none⟩ (.slice a2 m2 c2))
 refine AnyE.one (i := 14) rfl (by kernel_rfl) (by rfl) (fun K hK => ?_)
 go_simp
 refine hK.out _ _ ⟨fun h => (by cases h), ?_⟩
 clear hK
 show AnyE _ _ _ _ _ _ 0 #[true, true, true, true, true, true, true, true, true, true, true, true, true, true, true] ⟨#[.agg #[vr, .int .i64 fam, vq, .int .i64 ts, .int .i64 seq, .int .i64 kind, vv], .pointer (some ⟨w.heap.size, 0, none⟩), .pointer (some ⟨w.heap.size + 1, 0, none⟩), .pointer (some ⟨w.heap.size, 0, none⟩), vr, (.slice a1 m1 c1), .pointer (some ⟨w.heap.size, 2, none⟩), vq, (.slice a2 m2 c2), .pointer (some ⟨w.heap.size, 6, none⟩), vv, (.slice a3 m3 c3), .pointer (some ⟨w.heap.size, 0, none⟩), .pointer (some ⟨w.heap.size, 2, none⟩), .pointer (some ⟨w.heap.size, 6, none⟩), undef], []⟩ (((w3.setCell ⟨w.heap.size, 0, none⟩ (.slice a1 m1 c1)).setCell ⟨w.heap.size, 2, none⟩ (.slice a2 m2 c2)).setCell ⟨w.heap.size, 6, none⟩ (.slice a3 m3 c3))
 refine AnyE.done (by kernel_rfl) (NoPanic.normal ?_) _
 have BF := ((((HX.out _ D3).1.put0 (.slice a1 m1 c1)).put2 (.slice a2 m2 c2)).put6 (.slice a3 m3 c3))
 have hne : w.heap.size + 1 ≠ w.heap.size := by omega
 have RZ := (Below.heap_setCell _ ⟨w.heap.size, 6, none⟩ (.slice a3 m3 c3) (w.heap.size + 1) hne).trans ((Below.heap_setCell _ ⟨w.heap.size, 2, none⟩ (.slice a2 m2 c2) (w.heap.size + 1) hne).trans ((Below.heap_setCell w3 ⟨w.heap.size, 0, none⟩ (.slice a1 m1 c1) (w.heap.size + 1) hne).trans (HR.out _ D3)))
 have KF : KpG (fun i => W.heap.size ≤ i) w3 (((w3.setCell ⟨w.heap.size, 0, none⟩ (.slice a1 m1 c1)).setCell ⟨w.heap.size, 2, none⟩ (.slice a2 m2 c2)).setCell ⟨w.heap.size, 6, none⟩ (.slice a3 m3 c3)) := (((KpG.refl _ w3).setCell (by omega) _ _).setCell (by omega) _ _).setCell (by omega) _ _
 have BW := (((HA.out.trans (D3.mono HA.out.size)).setCell (p := ⟨w.heap.size, 0, none⟩) (Nat.le_refl _) (.slice a1 m1 c1)).setCell (p := ⟨w.heap.size, 2, none⟩) (Nat.le_refl _) (.slice a2 m2 c2)).setCell (p := ⟨w.heap.size, 6, none⟩) (Nat.le_refl _) (.slice a3 m3 c3)
 generalize (((w3.setCell ⟨w.heap.size, 0, none⟩ (.slice a1 m1 c1)).setCell ⟨w.heap.size, 2, none⟩ (.slice a2 m2 c2)).setCell ⟨w.heap.size, 6, none⟩ (.slice a3 m3 c3)) = WF at *
 have E3 : EOk (fun i => W.heap.size ≤ i) w3 ⟨.slice a1 m1 c1, fam, .slice a2 m2 c2, ts, seq, kind, .slice a3 m3 c3, row, qual, val⟩ := by
  have s1 : W.heap.size ≤ w1.heap.size := D1.size
  have s2 : W.heap.size ≤ w2.heap.size := D2.size
  refine ⟨RdG.of_own ((o1.later b2).later b3) HY.out.1 (by have := HL.out.1; rw [o1.len]; omega) (fun i hi => Nat.le_trans D0.size hi), RdG.of_own (o2.later b3) HY.out.2.1 (by have := HL.out.2.1; rw [o2.len]; omega) (fun i hi => by omega), RdG.of_own o3 HY.out.2.2 (by have := HL.out.2.2; rw [o3.len]; omega) (fun i hi => by omega)⟩
 have HE : Hid (EOk (fun i => W.heap.size ≤ i) WF _) := E3.kept KF
 have HO : Hid (O3 WF W.heap.size ⟨.slice a1 m1 c1, fam, .slice a2 m2 c2, ts, seq, kind, .slice a3 m3 c3, row, qual, val⟩) := by
  have e1 := o1.len; have e2 := o2.len; have e3 := o3.len
  have l1 : ∀ g, (Value.slice a1 m1 c1).ownBlock = some g → W.heap.size ≤ g ∧ g < w1.heap.size := fun g hg => ⟨Nat.le_trans D0.size (o1.2.lt g hg).1, (o1.2.lt g hg).2⟩
  have l2 : ∀ g, (Value.slice a2 m2 c2).ownBlock = some g → w1.heap.size ≤ g ∧ g < w2.heap.size := fun g hg => o2.2.lt g hg
  have l3 : ∀ g, (Value.slice a3 m3 c3).ownBlock = some g → w2.heap.size ≤ g ∧ g < w3.heap.size := fun g hg => o3.2.lt g hg
  have s1 : W.heap.size ≤ w1.heap.size := D1.size
  have s2 : w1.heap.size ≤ w2.heap.size := b2.size
  have s3 : w2.heap.size ≤ w3.heap.size := b3.size
  refine ⟨(own_same ((o1.later b2).later b3) (fun g hg => KF.block g (by have := l1 g hg; omega) (l1 g hg).1)).base (fun g hg => (l1 g hg).1) e1, (own_same (o2.later b3) (fun g hg => KF.block g (by have := l2 g hg; omega) (by have := l2 g hg; omega))).base (fun g hg => by have := l2 g hg; omega) e2, (own_same o3 (fun g hg => KF.block g (l3 g hg).2 (by have := l3 g hg; omega))).base (fun g hg => by have := l3 g hg; omega) e3, fun g h k => ?_, fun g h k => ?_, fun g h k => ?_⟩
  ·have := l1 g h; have := l2 g k; omega
  ·have := l1 g h; have := l3 g k; omega
  ·have := l2 g h; have := l3 g k; omega
 have HBW : Hid (Below w.heap.size w WF) := BW
 obtain ⟨y0', y1', y2', y3', y4', y5', y6'⟩ := (⟨BF.vr, BF.fam, BF.vq, BF.ts, BF.seq, BF.kind, BF.vv⟩ : _ ∧ _ ∧ _ ∧ _ ∧ _ ∧ _ ∧ _)
 simp only at y0' y1' y2' y3' y4' y5' y6'
 have z0 : WF.cell? ⟨w.heap.size + 1, 0, none⟩ = some (.slice none 0 0) := by simp [World.cell?, RZ]
 have f0 : WF.frozen? ⟨w.heap.size + 1, 0, none⟩ = false := by simp [World.frozen?, RZ]
 have z1 : WF.cell? ⟨w.heap.size + 1, 1, none⟩ = some (.int .i64 0) := by simp [World.cell?, RZ]
 have f1 : WF.frozen? ⟨w.heap.size + 1, 1, none⟩ = false := by simp [World.frozen?, RZ]
 have z2 : WF.cell? ⟨w.heap.size + 1, 2, none⟩ = some (.slice none 0 0) := by simp [World.cell?, RZ]
 have f2 : WF.frozen? ⟨w.heap.size + 1, 2, none⟩ = false := by simp [World.frozen?, RZ]
 have z3 : WF.cell? ⟨w.heap.size + 1, 3, none⟩ = some (.int .i64 0) := by simp [World.cell?, RZ]
 have f3 : WF.frozen? ⟨w.heap.size + 1, 3, none⟩ = false := by simp [World.frozen?, RZ]
 have z4 : WF.cell? ⟨w.heap.size + 1, 4, none⟩ = some (.int .i64 0) := by simp [World.cell?, RZ]
 have f4 : WF.frozen? ⟨w.heap.size + 1, 4, none⟩ = false := by simp [World.frozen?, RZ]
 have z5 : WF.cell? ⟨w.heap.size + 1, 5, none⟩ = some (.int .i64 0) := by simp [World.cell?, RZ]
 have f5 : WF.frozen? ⟨w.heap.size + 1, 5, none⟩ = false := by simp [World.frozen?, RZ]
 have z6 : WF.cell? ⟨w.heap.size + 1, 6, none⟩ = some (.slice none 0 0) := by simp [World.cell?, RZ]
 have f6 : WF.frozen? ⟨w.heap.size + 1, 6, none⟩ = false := by simp [World.frozen?, RZ]
 clear RZ BF KF BW E3 o1 o2 o3 b1 b2 b3 D1 D2 D3 v0 v2 v6 g0 g2 g6 hS hS1 hS2 y0 y2 y6 D0 HR HX C1 C2 C3
 go_wp2
 refine bodyPost_ret (v := .agg #[.slice a1 m1 c1, .int .i64 fam, .slice a2 m2 c2, .int .i64 ts, .int .i64 seq, .int .i64 kind, .slice a3 m3 c3]) (by simp [results, Tryz.results24, go_sem, z0, z1, z2, z3, z4, z5, z6]) rfl ?_
 refine ⟨⟨.slice a1 m1 c1, fam, .slice a2 m2 c2, ts, seq, kind, .slice a3 m3 c3, row, qual, val⟩, rfl, ⟨rfl, rfl, rfl, rfl, rfl, rfl, rfl⟩, ?_, ?_, ?_⟩
 ·refine (HE.out.kept ?_).mono (fun i hi => Nat.le_trans HA.out.size hi)
  exact (((((((KpG.refl _ WF).setCell (by omega) _ _).setCell (by omega) _ _).setCell (by omega) _ _).setCell (by omega) _ _).setCell (by omega) _ _).setCell (by omega) _ _).setCell (by omega) _ _
 ·refine (HO.out.kept ?_).mono HA.out.size
  exact (((((((KpG.refl _ WF).setCell (by omega) _ _).setCell (by omega) _ _).setCell (by omega) _ _).setCell (by omega) _ _).setCell (by omega) _ _).setCell (by omega) _ _).setCell (by omega) _ _
 ·exact ((((((HBW.out.setCell (Nat.le_succ _) _).setCell (Nat.le_succ _) _).setCell (Nat.le_succ _) _).setCell (Nat.le_succ _) _).setCell (Nat.le_succ _) _).setCell (Nat.le_succ _) _).setCell (Nat.le_succ _) _
end Go.Proofs.YtpabbnddeklpdaaGreat
