import Derived.Test.YtchebhafabhabaaGreatDoorK07
namespace Go.Proofs.YtchebhafabhabaaGreatDoor
open Go.RowKit
set_option linter.unusedVariables false

def pieceOf (bs : List Nat) (k : Nat) : Option (Nat × Nat) := if (uintR bs k).2.2 = 0 ∧ (uintR bs k).1 ≤ bs.length - (uintR bs k).2.1 then some ((uintR bs k).2.1, (uintR bs k).1) else none
theorem pieceOf_ok {bs : List Nat} {k s m : Nat} (h : pieceOf bs k = some (s, m)) (hk : k ≤ bs.length) : k < s ∧ s + m ≤ bs.length := by
 unfold pieceOf at h
 split at h
 ·rename_i hc
  simp only [Option.some.injEq, Prod.mk.injEq] at h
  obtain ⟨rfl, rfl⟩ := h
  have := uintR_ok (bs := bs) (k := k) (V := (uintR bs k).1) (P := (uintR bs k).2.1) (Prod.ext rfl (Prod.ext rfl hc.1)) hk
  omega
 ·cases h

theorem piece_rd {w : World} {b off n c o c' k s m : Nat} {bs : List Nat} (hr : Rd w (.slice (some ⟨b, off, none⟩) n c) bs) (hp : pieceOf bs k = some (s, m)) (hk : k ≤ bs.length) (h : (m = 0 ∧ c' = 0) ∨ (o = off + s ∧ c' = c - s)) : Rd w (.slice (some ⟨b, o, none⟩) m c') ((bs.drop s).take m) := by
 have hn := (rd_lens hr).1
 have := pieceOf_ok hp hk
 rcases h with ⟨rfl, rfl⟩ | ⟨ho, hc⟩
 ·simpa using Rd.zero w (some ⟨b, o, none⟩)
 ·have := hr.sub s (s + m) (by omega) (by omega) ho (show m = s + m - s by omega) hc
  rwa [List.drop_take, show s + m - s = m by omega] at this
set_option maxRecDepth 100000 in
set_option maxHeartbeats 1000000 in
theorem piece_any {b off n c : Nat} {bs : List Nat} {w : World} (hr : Rd w (.slice (some ⟨b, off, none⟩) n c) bs) (k : Nat) (hk : k ≤ n) :
  Calls Tryz.prog 103 #[.slice (some ⟨b, off, none⟩) n c, .int .i64 (k : Int)] w fun e w' => Below w.heap.size w w' ∧ ((pieceOf bs k = none ∧ e = .returned (.tuple #[.slice none 0 0, .int .i64 0, .bool false])) ∨ ∃ s m : Nat, pieceOf bs k = some (s, m) ∧ ∃ o c', e = .returned (.tuple #[.slice (some ⟨b, o, none⟩) m c', .int .i64 ((s + m : Nat) : Int), .bool true]) ∧ ((m = 0 ∧ c' = 0) ∨ (o = off + s ∧ c' = c - s))) := by
 obtain ⟨hn, hle, hm, hl48⟩ := rd_lens hr
 have HR : Hid (Rd w (.slice (some ⟨b, off, none⟩) n c) bs) := hr
 have HN : Hid (n = bs.length) := hn
 obtain ⟨V, hV⟩ : ∃ V, V = (uintR bs k).1 := ⟨_, rfl⟩
 obtain ⟨P, hP⟩ : ∃ P, P = (uintR bs k).2.1 := ⟨_, rfl⟩
 obtain ⟨E, hE⟩ : ∃ E, E = (uintR bs k).2.2 := ⟨_, rfl⟩
 have HU : Hid (∀ wx, Below w.heap.size w wx → Calls Tryz.prog 102 #[.slice (some ⟨b, off, none⟩) n c, .int .i64 (k : Int)] wx fun e w' => e = .returned (.tuple #[.int .u64 (V : Int), .int .i64 (P : Int), .int .i64 (E : Int)]) ∧ w' = wx) := by
  have h : ∀ wx, Below w.heap.size w wx → Calls Tryz.prog 102 #[.slice (some ⟨b, off, none⟩) n c, .int .i64 (k : Int)] wx fun e w' => e = .returned (.tuple #[.int .u64 (V : Int), .int .i64 (P : Int), .int .i64 (E : Int)]) ∧ w' = wx := fun wx hx => by
   rw [hV, hP, hE]
   exact readUint_in (HR.out.later hx) k (by rw [← HN.out]; exact hk)
  exact h
 have HPc : Hid (pieceOf bs k = if E = 0 ∧ V ≤ n - P then some (P, V) else none) := by
  have h : pieceOf bs k = if E = 0 ∧ V ≤ n - P then some (P, V) else none := by rw [hV, hP, hE, HN.out]; rfl
  exact h
 have hok : E = 0 → k < P ∧ P ≤ n ∧ V < 18446744073709551616 := fun h => by
  have := uintR_ok (bs := bs) (k := k) (V := V) (P := P) (Prod.ext hV.symm (Prod.ext hP.symm (by rw [← hE]; exact h))) (by rw [← HN.out]; exact hk)
  rw [HN.out]; exact this
 unfold maxLen at hm
 clear hr hn hV hP hE
 by_cases h0 : E = 0
 ·subst h0
  obtain ⟨h1, h2, h3⟩ := hok rfl
  have hw : IntKind.u64.wrap (IntKind.i64.wrap ((n : Int) - (P : Int))) = ((n - P : Nat) : Int) := by
   rw [IntWalk.i64_in _ ⟨by omega, by omega⟩, IntWalk.u64_in _ ⟨by omega, by omega⟩]; omega
  by_cases h4 : V ≤ n - P
  ·have h4i : ¬ (((n - P : Nat) : Int) < (V : Int)) := by omega
   have h4d : decide (((n - P : Nat) : Int) < (V : Int)) = false := by rw [decide_eq_false_iff_not]; omega
   have hc : Hid (pieceOf bs k = some (P, V)) := by
    have h : pieceOf bs k = some (P, V) := by rw [HPc.out, if_pos ⟨rfl, h4⟩]
    exact h
   have hwV : IntKind.i64.wrap (V : Int) = (V : Int) := IntWalk.i64_in _ ⟨by omega, by omega⟩
   have hwS : IntKind.i64.wrap ((P : Int) + (V : Int)) = ((P + V : Nat) : Int) := by rw [IntWalk.i64_in _ ⟨by omega, by omega⟩]; omega
   go_enter Tryz.func103, Tryz.ntmps103
   go_wp2_with (go_at_call 102; refine Calls.mono (HU.out _ (Below.refl _ _)) ?_; rintro e1 w1 ⟨rfl, rfl⟩)
   ·have hV0 : V = 0 := by omega
    refine bodyPost_ret (v := .tuple #[.slice (some ⟨b, off, none⟩) V 0, .int .i64 ((P + V : Nat) : Int), .bool true]) ?_ rfl ⟨Below.refl _ _, .inr ⟨P, V, hc.out, off, 0, rfl, .inl ⟨hV0, rfl⟩⟩⟩
    simp [results, Tryz.results103, go_sem]
   ·refine bodyPost_ret (v := .tuple #[.slice (some ⟨b, off + P, none⟩) V (c - P), .int .i64 ((P + V : Nat) : Int), .bool true]) ?_ rfl ⟨Below.refl _ _, .inr ⟨P, V, hc.out, off + P, c - P, rfl, .inr ⟨rfl, rfl⟩⟩⟩
    simp [results, Tryz.results103, go_sem]
  ·have h4i : ((n - P : Nat) : Int) < (V : Int) := by omega
   have h4j : (n : Int) - (P : Int) < (V : Int) := by omega
   have hc : Hid (pieceOf bs k = none) := by
    have h : pieceOf bs k = none := by rw [HPc.out, if_neg (fun h => h4 h.2)]
    exact h
   go_enter Tryz.func103, Tryz.ntmps103
   go_wp2_with (go_at_call 102; refine Calls.mono (HU.out _ (Below.refl _ _)) ?_; rintro e1 w1 ⟨rfl, rfl⟩)
   refine bodyPost_ret (v := .tuple #[.slice none 0 0, .int .i64 0, .bool false]) ?_ rfl ⟨Below.refl _ _, .inl ⟨hc.out, rfl⟩⟩
   simp [results, Tryz.results103, go_sem]
 ·have hc : Hid (pieceOf bs k = none) := by
   have h : pieceOf bs k = none := by rw [HPc.out, if_neg (fun h => h0 h.1)]
   exact h
  have h0b : ((E : Int) != 0) = true := by rw [bne_iff_ne]; omega
  have h0c : ¬ ((E : Int) = 0) := by omega
  go_enter Tryz.func103, Tryz.ntmps103
  go_wp2_with (go_at_call 102; refine Calls.mono (HU.out _ (Below.refl _ _)) ?_; rintro e1 w1 ⟨rfl, rfl⟩)
  refine bodyPost_ret (v := .tuple #[.slice none 0 0, .int .i64 0, .bool false]) ?_ rfl ⟨Below.refl _ _, .inl ⟨hc.out, rfl⟩⟩
  simp [results, Tryz.results103, go_sem]
end Go.Proofs.YtchebhafabhabaaGreatDoor

namespace Go.Proofs.YtchebhafabhabaaGreatDoor
open Go.RowKit
set_option linter.unusedVariables false

def recordOf (bs : List Nat) (k : Nat) : Option (Nat × (Nat × Nat) × (Nat × Nat)) :=
 if (uintR bs k).2.2 = 0 ∧ (uintR bs k).1 ≤ bs.length then
  match pieceOf bs (uintR bs k).2.1 with
  | none => none
  | some r => match pieceOf bs (r.1 + r.2) with
   | none => none
   | some v => some ((uintR bs k).1, r, v)
 else none
theorem recordOf_ok {bs : List Nat} {k sh : Nat} {r v : Nat × Nat} (h : recordOf bs k = some (sh, r, v)) (hk : k ≤ bs.length) : sh ≤ bs.length ∧ k < r.1 ∧ r.1 + r.2 < v.1 ∧ v.1 + v.2 ≤ bs.length := by
 unfold recordOf at h
 split at h
 ·rename_i hc
  have h0 := uintR_ok (bs := bs) (k := k) (V := (uintR bs k).1) (P := (uintR bs k).2.1) (Prod.ext rfl (Prod.ext rfl hc.1)) hk
  split at h
  ·cases h
  ·rename_i r' hr
   split at h
   ·cases h
   ·rename_i v' hv
    simp only [Option.some.injEq, Prod.mk.injEq] at h
    obtain ⟨rfl, rfl, rfl⟩ := h
    have h1 := pieceOf_ok (s := r'.1) (m := r'.2) hr h0.2.1
    have h2 := pieceOf_ok (s := v'.1) (m := v'.2) hv h1.2
    omega
 ·cases h

def RecB (w : World) (g : Nat) (a b c d : Value) : Prop := w.heap[g]? = some (.cells #[a, b, c, d] 109 (0, 0))
theorem RecB.cells {w : World} {g : Nat} {a b c d : Value} (h : RecB w g a b c d) : w.cell? ⟨g, 0, none⟩ = some a ∧ w.cell? ⟨g, 1, none⟩ = some b ∧ w.cell? ⟨g, 2, none⟩ = some c ∧ w.cell? ⟨g, 3, none⟩ = some d := by
 unfold RecB at h
 simp [World.cell?, h]
theorem RecB.fz {w : World} {g : Nat} {a b c d : Value} (h : RecB w g a b c d) (i : Nat) : w.frozen? ⟨g, i, none⟩ = false := by
 unfold RecB at h
 simp [World.frozen?, h]
theorem RecB.fill {w : World} {g : Nat} {a b c d : Value} (h : RecB w g a b c d) (a' b' c' d' : Value) : RecB ((((w.setCell ⟨g, 0, none⟩ a').setCell ⟨g, 1, none⟩ b').setCell ⟨g, 2, none⟩ c').setCell ⟨g, 3, none⟩ d') g a' b' c' d' := by
 unfold RecB at *
 simp [World.setCell, Array.getElem?_modify, h]
theorem fill_below {w w' : World} {B g : Nat} (h : Below B w w') (hg : B ≤ g) (a b c d : Value) : Below B w ((((w'.setCell ⟨g, 0, none⟩ a).setCell ⟨g, 1, none⟩ b).setCell ⟨g, 2, none⟩ c).setCell ⟨g, 3, none⟩ d) :=
 (((h.setCell (p := ⟨g, 0, none⟩) hg _).setCell (p := ⟨g, 1, none⟩) hg _).setCell (p := ⟨g, 2, none⟩) hg _).setCell (p := ⟨g, 3, none⟩) hg _

set_option maxRecDepth 100000 in
set_option maxHeartbeats 1000000 in
theorem readRecord_any {b off n c : Nat} {bs : List Nat} {w : World} (hr : Rd w (.slice (some ⟨b, off, none⟩) n c) bs) (k : Nat) (hk : k ≤ n) :
  Calls Tryz.prog 71 #[.slice (some ⟨b, off, none⟩) n c, .int .i64 (k : Int)] w fun e w' => Below w.heap.size w w' ∧ ((recordOf bs k = none ∧ e = .returned (.tuple #[.agg #[.int .i64 0, .slice none 0 0, .slice none 0 0, .int .i64 0], .bool false])) ∨ ∃ (sh : Nat) (r v : Nat × Nat), recordOf bs k = some (sh, r, v) ∧ ∃ o1 d1 o2 d2, e = .returned (.tuple #[.agg #[.int .i64 (sh : Int), .slice (some ⟨b, o1, none⟩) r.2 d1, .slice (some ⟨b, o2, none⟩) v.2 d2, .int .i64 ((v.1 + v.2 : Nat) : Int)], .bool true]) ∧ Rd w' (.slice (some ⟨b, o1, none⟩) r.2 d1) ((bs.drop r.1).take r.2) ∧ Rd w' (.slice (some ⟨b, o2, none⟩) v.2 d2) ((bs.drop v.1).take v.2)) := by
 obtain ⟨hn, hle, hm, hl48⟩ := rd_lens hr
 have HR : Hid (Rd w (.slice (some ⟨b, off, none⟩) n c) bs) := hr
 have HN : Hid (n = bs.length) := hn
 obtain ⟨V, hV⟩ : ∃ V, V = (uintR bs k).1 := ⟨_, rfl⟩
 obtain ⟨P, hP⟩ : ∃ P, P = (uintR bs k).2.1 := ⟨_, rfl⟩
 obtain ⟨E, hE⟩ : ∃ E, E = (uintR bs k).2.2 := ⟨_, rfl⟩
 have HU : Hid (∀ wx, Below w.heap.size w wx → Calls Tryz.prog 102 #[.slice (some ⟨b, off, none⟩) n c, .int .i64 (k : Int)] wx fun e w' => e = .returned (.tuple #[.int .u64 (V : Int), .int .i64 (P : Int), .int .i64 (E : Int)]) ∧ w' = wx) := by
  have h : ∀ wx, Below w.heap.size w wx → Calls Tryz.prog 102 #[.slice (some ⟨b, off, none⟩) n c, .int .i64 (k : Int)] wx fun e w' => e = .returned (.tuple #[.int .u64 (V : Int), .int .i64 (P : Int), .int .i64 (E : Int)]) ∧ w' = wx := fun wx hx => by
   rw [hV, hP, hE]
   exact readUint_in (HR.out.later hx) k (by rw [← HN.out]; exact hk)
  exact h
 have hok : E = 0 → k < P ∧ P ≤ n ∧ V < 18446744073709551616 := fun h => by
  have := uintR_ok (bs := bs) (k := k) (V := V) (P := P) (Prod.ext hV.symm (Prod.ext hP.symm (by rw [← hE]; exact h))) (by rw [← HN.out]; exact hk)
  rw [HN.out]; exact this
 have HRc : Hid (recordOf bs k = if E = 0 ∧ V ≤ n then (match pieceOf bs P with | none => none | some r => match pieceOf bs (r.1 + r.2) with | none => none | some v => some (V, r, v)) else none) := by
  have h : recordOf bs k = if E = 0 ∧ V ≤ n then (match pieceOf bs P with | none => none | some r => match pieceOf bs (r.1 + r.2) with | none => none | some v => some (V, r, v)) else none := by rw [hV, hP, hE, HN.out]; rfl
  exact h
 have HPI : Hid (∀ (wx : World) (j : Nat), Below w.heap.size w wx → j ≤ n → Calls Tryz.prog 103 #[.slice (some ⟨b, off, none⟩) n c, .int .i64 (j : Int)] wx fun e w' => Below wx.heap.size wx w' ∧ ((pieceOf bs j = none ∧ e = .returned (.tuple #[.slice none 0 0, .int .i64 0, .bool false])) ∨ ∃ s m : Nat, pieceOf bs j = some (s, m) ∧ ∃ o c', e = .returned (.tuple #[.slice (some ⟨b, o, none⟩) m c', .int .i64 ((s + m : Nat) : Int), .bool true]) ∧ ((m = 0 ∧ c' = 0) ∨ (o = off + s ∧ c' = c - s)))) := by
  have h : ∀ (wx : World) (j : Nat), Below w.heap.size w wx → j ≤ n → Calls Tryz.prog 103 #[.slice (some ⟨b, off, none⟩) n c, .int .i64 (j : Int)] wx fun e w' => Below wx.heap.size wx w' ∧ ((pieceOf bs j = none ∧ e = .returned (.tuple #[.slice none 0 0, .int .i64 0, .bool false])) ∨ ∃ s m : Nat, pieceOf bs j = some (s, m) ∧ ∃ o c', e = .returned (.tuple #[.slice (some ⟨b, o, none⟩) m c', .int .i64 ((s + m : Nat) : Int), .bool true]) ∧ ((m = 0 ∧ c' = 0) ∨ (o = off + s ∧ c' = c - s))) := fun wx j hx hj => piece_any (HR.out.later hx) j hj
  exact h
 unfold maxLen at hm
 clear hr hn hV hP hE
 obtain ⟨W0, hW0⟩ : ∃ W0, W0 = w.alloc (.cells #[.int .i64 0, .slice none 0 0, .slice none 0 0, .int .i64 0] 109) := ⟨_, rfl⟩
 have b0 : Below w.heap.size w W0 := by rw [hW0]; exact (Below.refl _ _).alloc (Nat.le_refl _) _
 have HBX : Hid (∀ wx, Below W0.heap.size W0 wx → RecB wx w.heap.size (.int .i64 0) (.slice none 0 0) (.slice none 0 0) (.int .i64 0)) := by
  have h : ∀ wx, Below W0.heap.size W0 wx → RecB wx w.heap.size (.int .i64 0) (.slice none 0 0) (.slice none 0 0) (.int .i64 0) := fun wx hx => by
   have hs : w.heap.size < W0.heap.size := by rw [hW0]; simp
   exact (hx.block _ hs).trans (by rw [hW0]; exact heap_alloc_new w _)
  exact h
 have HB0 : Hid (∀ wx, Below W0.heap.size W0 wx → Below w.heap.size w wx) := by
  have h : ∀ wx, Below W0.heap.size W0 wx → Below w.heap.size w wx := fun wx hx => b0.trans (hx.mono b0.size)
  exact h
 have HW0 : Hid (W0 = w.alloc (.cells #[.int .i64 0, .slice none 0 0, .slice none 0 0, .int .i64 0] 109)) := hW0
 clear hW0 b0
 by_cases h0 : E = 0
 ·subst h0
  obtain ⟨h1, h2, h3⟩ := hok rfl
  by_cases h4 : V ≤ n
  ·have h4i : ¬ ((n : Int) < (V : Int)) := by omega
   go_enter Tryz.func71, Tryz.ntmps71
   go_wp2_with (go_at_call 102; fail)
   rw [← HW0.out]
   clear HW0
   refine Calls.mono (HU.out _ (HB0.out _ (Below.refl _ _))) ?_
   rintro e1 w1 ⟨rfl, rfl⟩
   go_wp2_with (go_at_call 103; fail)
   refine Calls.mono (HPI.out _ P (HB0.out _ (Below.refl _ _)) h2) ?_
   rintro e2 w2 ⟨b2, (⟨hp, rfl⟩ | ⟨s1, m1, hp, o1, d1, rfl, hr1⟩)⟩
   ·have HC : Hid (recordOf bs k = none) := by
     have h : recordOf bs k = none := by rw [HRc.out, if_pos ⟨by trivial, h4⟩, hp]
     exact h
    clear hp
    have fb := (HBX.out _ b2).fill (.int .i64 0) (.slice none 0 0) (.slice none 0 0) (.int .i64 0)
    have bw := fill_below (HB0.out _ b2) (Nat.le_refl w.heap.size) (.int .i64 0) (.slice none 0 0) (.slice none 0 0) (.int .i64 0)
    have HDN : Hid (RecB ((((w2.setCell ⟨w.heap.size, 0, none⟩ (.int .i64 0)).setCell ⟨w.heap.size, 1, none⟩ (.slice none 0 0)).setCell ⟨w.heap.size, 2, none⟩ (.slice none 0 0)).setCell ⟨w.heap.size, 3, none⟩ (.int .i64 0)) w.heap.size (.int .i64 0) (.slice none 0 0) (.slice none 0 0) (.int .i64 0) ∧ Below w.heap.size w ((((w2.setCell ⟨w.heap.size, 0, none⟩ (.int .i64 0)).setCell ⟨w.heap.size, 1, none⟩ (.slice none 0 0)).setCell ⟨w.heap.size, 2, none⟩ (.slice none 0 0)).setCell ⟨w.heap.size, 3, none⟩ (.int .i64 0))) := ⟨fb, bw⟩
    obtain ⟨q0, q1, q2, q3⟩ := (HBX.out _ b2).cells
    have f0 := (HBX.out _ b2).fz 0
    have f1 := (HBX.out _ b2).fz 1
    have f2 := (HBX.out _ b2).fz 2
    have f3 := (HBX.out _ b2).fz 3
    clear fb bw
    go_wp2
    obtain ⟨fb, bw⟩ := HDN.out
    clear HDN
    generalize ((((w2.setCell ⟨w.heap.size, 0, none⟩ (.int .i64 0)).setCell ⟨w.heap.size, 1, none⟩ (.slice none 0 0)).setCell ⟨w.heap.size, 2, none⟩ (.slice none 0 0)).setCell ⟨w.heap.size, 3, none⟩ (.int .i64 0)) = wf at fb bw ⊢
    obtain ⟨t0, t1, t2, t3⟩ := fb.cells
    refine bodyPost_ret (v := .tuple #[.agg #[.int .i64 0, .slice none 0 0, .slice none 0 0, .int .i64 0], .bool false]) ?_ rfl ⟨bw, .inl ⟨HC.out, rfl⟩⟩
    simp [results, Tryz.results71, go_sem, t0, t1, t2, t3]
   ·have hp1 := pieceOf_ok hp (by rw [← HN.out]; exact h2)
    rw [← HN.out] at hp1
    have HP1 : Hid (pieceOf bs P = some (s1, m1)) := hp
    have HR1 : Hid ((m1 = 0 ∧ d1 = 0) ∨ (o1 = off + s1 ∧ d1 = c - s1)) := hr1
    clear hp hr1
    go_wp2_with (go_at_call 103; fail)
    refine Calls.mono (HPI.out _ (s1 + m1) (HB0.out _ b2) hp1.2) ?_
    rintro e3 w3 ⟨b3', (⟨hp, rfl⟩ | ⟨s2, m2, hp, o2, d2, rfl, hr2⟩)⟩
    ·have HC : Hid (recordOf bs k = none) := by
      have h : recordOf bs k = none := by rw [HRc.out, if_pos ⟨by trivial, h4⟩, HP1.out]; simp only [hp]
      exact h
     have b3 := b2.trans (b3'.mono b2.size)
     clear hp b3'
     have fb := (HBX.out _ b3).fill (.int .i64 0) (.slice none 0 0) (.slice none 0 0) (.int .i64 0)
     have bw := fill_below (HB0.out _ b3) (Nat.le_refl w.heap.size) (.int .i64 0) (.slice none 0 0) (.slice none 0 0) (.int .i64 0)
     have HDN : Hid (RecB ((((w3.setCell ⟨w.heap.size, 0, none⟩ (.int .i64 0)).setCell ⟨w.heap.size, 1, none⟩ (.slice none 0 0)).setCell ⟨w.heap.size, 2, none⟩ (.slice none 0 0)).setCell ⟨w.heap.size, 3, none⟩ (.int .i64 0)) w.heap.size (.int .i64 0) (.slice none 0 0) (.slice none 0 0) (.int .i64 0) ∧ Below w.heap.size w ((((w3.setCell ⟨w.heap.size, 0, none⟩ (.int .i64 0)).setCell ⟨w.heap.size, 1, none⟩ (.slice none 0 0)).setCell ⟨w.heap.size, 2, none⟩ (.slice none 0 0)).setCell ⟨w.heap.size, 3, none⟩ (.int .i64 0))) := ⟨fb, bw⟩
     obtain ⟨q0, q1, q2, q3⟩ := (HBX.out _ b3).cells
     have f0 := (HBX.out _ b3).fz 0
     have f1 := (HBX.out _ b3).fz 1
     have f2 := (HBX.out _ b3).fz 2
     have f3 := (HBX.out _ b3).fz 3
     clear fb bw
     go_wp2
     obtain ⟨fb, bw⟩ := HDN.out
     clear HDN
     generalize ((((w3.setCell ⟨w.heap.size, 0, none⟩ (.int .i64 0)).setCell ⟨w.heap.size, 1, none⟩ (.slice none 0 0)).setCell ⟨w.heap.size, 2, none⟩ (.slice none 0 0)).setCell ⟨w.heap.size, 3, none⟩ (.int .i64 0)) = wf at fb bw ⊢
     obtain ⟨t0, t1, t2, t3⟩ := fb.cells
     refine bodyPost_ret (v := .tuple #[.agg #[.int .i64 0, .slice none 0 0, .slice none 0 0, .int .i64 0], .bool false]) ?_ rfl ⟨bw, .inl ⟨HC.out, rfl⟩⟩
     simp [results, Tryz.results71, go_sem, t0, t1, t2, t3]
    ·have HC : Hid (recordOf bs k = some (V, (s1, m1), (s2, m2))) := by
      have h : recordOf bs k = some (V, (s1, m1), (s2, m2)) := by rw [HRc.out, if_pos ⟨by trivial, h4⟩, HP1.out]; simp only [hp]
      exact h
     have hp2 := pieceOf_ok hp (by rw [← HN.out]; exact hp1.2)
     rw [← HN.out] at hp2
     have b3 := b2.trans (b3'.mono b2.size)
     have RD : Hid (∀ wx, Below w.heap.size w wx → Rd wx (.slice (some ⟨b, o1, none⟩) m1 d1) ((bs.drop s1).take m1) ∧ Rd wx (.slice (some ⟨b, o2, none⟩) m2 d2) ((bs.drop s2).take m2)) := by
      have h : ∀ wx, Below w.heap.size w wx → Rd wx (.slice (some ⟨b, o1, none⟩) m1 d1) ((bs.drop s1).take m1) ∧ Rd wx (.slice (some ⟨b, o2, none⟩) m2 d2) ((bs.drop s2).take m2) := fun wx hx => ⟨(piece_rd HR.out HP1.out (by rw [← HN.out]; exact h2) HR1.out).later hx, (piece_rd HR.out hp (by rw [← HN.out]; exact hp1.2) hr2).later hx⟩
      exact h
     clear hp hr2 b3'
     have hVi : IntKind.i64.wrap (V : Int) = (V : Int) := IntWalk.i64_in _ ⟨by omega, by omega⟩
     have fb := (HBX.out _ b3).fill (.int .i64 (V : Int)) (.slice (some ⟨b, o1, none⟩) m1 d1) (.slice (some ⟨b, o2, none⟩) m2 d2) (.int .i64 ((s2 : Int) + (m2 : Int)))
     have bw := fill_below (HB0.out _ b3) (Nat.le_refl w.heap.size) (.int .i64 (V : Int)) (.slice (some ⟨b, o1, none⟩) m1 d1) (.slice (some ⟨b, o2, none⟩) m2 d2) (.int .i64 ((s2 : Int) + (m2 : Int)))
     have HDN : Hid (RecB ((((w3.setCell ⟨w.heap.size, 0, none⟩ (.int .i64 (V : Int))).setCell ⟨w.heap.size, 1, none⟩ (.slice (some ⟨b, o1, none⟩) m1 d1)).setCell ⟨w.heap.size, 2, none⟩ (.slice (some ⟨b, o2, none⟩) m2 d2)).setCell ⟨w.heap.size, 3, none⟩ (.int .i64 ((s2 : Int) + (m2 : Int)))) w.heap.size (.int .i64 (V : Int)) (.slice (some ⟨b, o1, none⟩) m1 d1) (.slice (some ⟨b, o2, none⟩) m2 d2) (.int .i64 ((s2 : Int) + (m2 : Int))) ∧ Below w.heap.size w ((((w3.setCell ⟨w.heap.size, 0, none⟩ (.int .i64 (V : Int))).setCell ⟨w.heap.size, 1, none⟩ (.slice (some ⟨b, o1, none⟩) m1 d1)).setCell ⟨w.heap.size, 2, none⟩ (.slice (some ⟨b, o2, none⟩) m2 d2)).setCell ⟨w.heap.size, 3, none⟩ (.int .i64 ((s2 : Int) + (m2 : Int))))) := ⟨fb, bw⟩
     obtain ⟨q0, q1, q2, q3⟩ := (HBX.out _ b3).cells
     have f0 := (HBX.out _ b3).fz 0
     have f1 := (HBX.out _ b3).fz 1
     have f2 := (HBX.out _ b3).fz 2
     have f3 := (HBX.out _ b3).fz 3
     clear fb bw
     go_wp2
     obtain ⟨fb, bw⟩ := HDN.out
     clear HDN
     generalize ((((w3.setCell ⟨w.heap.size, 0, none⟩ (.int .i64 (V : Int))).setCell ⟨w.heap.size, 1, none⟩ (.slice (some ⟨b, o1, none⟩) m1 d1)).setCell ⟨w.heap.size, 2, none⟩ (.slice (some ⟨b, o2, none⟩) m2 d2)).setCell ⟨w.heap.size, 3, none⟩ (.int .i64 ((s2 : Int) + (m2 : Int)))) = wf at fb bw ⊢
     obtain ⟨t0, t1, t2, t3⟩ := fb.cells
     refine bodyPost_ret (v := .tuple #[.agg #[.int .i64 (V : Int), .slice (some ⟨b, o1, none⟩) m1 d1, .slice (some ⟨b, o2, none⟩) m2 d2, .int .i64 ((s2 : Int) + (m2 : Int))], .bool true]) ?_ rfl ⟨bw, .inr ⟨V, (s1, m1), (s2, m2), HC.out, o1, d1, o2, d2, rfl, (RD.out _ bw).1, (RD.out _ bw).2⟩⟩
     simp [results, Tryz.results71, go_sem, t0, t1, t2, t3]
  ·have h4i : (n : Int) < (V : Int) := by omega
   have HC : Hid (recordOf bs k = none) := by
    have h : recordOf bs k = none := by rw [HRc.out, if_neg (fun h => h4 h.2)]
    exact h
   go_enter Tryz.func71, Tryz.ntmps71
   go_wp2_with (go_at_call 102; fail)
   rw [← HW0.out]
   clear HW0
   refine Calls.mono (HU.out _ (HB0.out _ (Below.refl _ _))) ?_
   rintro e1 w1 ⟨rfl, rfl⟩
   have b1 := Below.refl w1.heap.size w1
   have fb := (HBX.out _ b1).fill (.int .i64 0) (.slice none 0 0) (.slice none 0 0) (.int .i64 0)
   have bw := fill_below (HB0.out _ b1) (Nat.le_refl w.heap.size) (.int .i64 0) (.slice none 0 0) (.slice none 0 0) (.int .i64 0)
   have HDN : Hid (RecB ((((w1.setCell ⟨w.heap.size, 0, none⟩ (.int .i64 0)).setCell ⟨w.heap.size, 1, none⟩ (.slice none 0 0)).setCell ⟨w.heap.size, 2, none⟩ (.slice none 0 0)).setCell ⟨w.heap.size, 3, none⟩ (.int .i64 0)) w.heap.size (.int .i64 0) (.slice none 0 0) (.slice none 0 0) (.int .i64 0) ∧ Below w.heap.size w ((((w1.setCell ⟨w.heap.size, 0, none⟩ (.int .i64 0)).setCell ⟨w.heap.size, 1, none⟩ (.slice none 0 0)).setCell ⟨w.heap.size, 2, none⟩ (.slice none 0 0)).setCell ⟨w.heap.size, 3, none⟩ (.int .i64 0))) := ⟨fb, bw⟩
   obtain ⟨q0, q1, q2, q3⟩ := (HBX.out _ b1).cells
   have f0 := (HBX.out _ b1).fz 0
   have f1 := (HBX.out _ b1).fz 1
   have f2 := (HBX.out _ b1).fz 2
   have f3 := (HBX.out _ b1).fz 3
   clear fb bw
   go_wp2
   obtain ⟨fb, bw⟩ := HDN.out
   clear HDN
   generalize ((((w1.setCell ⟨w.heap.size, 0, none⟩ (.int .i64 0)).setCell ⟨w.heap.size, 1, none⟩ (.slice none 0 0)).setCell ⟨w.heap.size, 2, none⟩ (.slice none 0 0)).setCell ⟨w.heap.size, 3, none⟩ (.int .i64 0)) = wf at fb bw ⊢
   obtain ⟨t0, t1, t2, t3⟩ := fb.cells
   refine bodyPost_ret (v := .tuple #[.agg #[.int .i64 0, .slice none 0 0, .slice none 0 0, .int .i64 0], .bool false]) ?_ rfl ⟨bw, .inl ⟨HC.out, rfl⟩⟩
   simp [results, Tryz.results71, go_sem, t0, t1, t2, t3]
 ·have h0b : ((E : Int) != 0) = true := by rw [bne_iff_ne]; omega
  have h0c : ¬ ((E : Int) = 0) := by omega
  have HC : Hid (recordOf bs k = none) := by
   have h : recordOf bs k = none := by rw [HRc.out, if_neg (fun h => h0 h.1)]
   exact h
  go_enter Tryz.func71, Tryz.ntmps71
  go_wp2_with (go_at_call 102; fail)
  rw [← HW0.out]
  clear HW0
  refine Calls.mono (HU.out _ (HB0.out _ (Below.refl _ _))) ?_
  rintro e1 w1 ⟨rfl, rfl⟩
  have b1 := Below.refl w1.heap.size w1
  have fb := (HBX.out _ b1).fill (.int .i64 0) (.slice none 0 0) (.slice none 0 0) (.int .i64 0)
  have bw := fill_below (HB0.out _ b1) (Nat.le_refl w.heap.size) (.int .i64 0) (.slice none 0 0) (.slice none 0 0) (.int .i64 0)
  have HDN : Hid (RecB ((((w1.setCell ⟨w.heap.size, 0, none⟩ (.int .i64 0)).setCell ⟨w.heap.size, 1, none⟩ (.slice none 0 0)).setCell ⟨w.heap.size, 2, none⟩ (.slice none 0 0)).setCell ⟨w.heap.size, 3, none⟩ (.int .i64 0)) w.heap.size (.int .i64 0) (.slice none 0 0) (.slice none 0 0) (.int .i64 0) ∧ Below w.heap.size w ((((w1.setCell ⟨w.heap.size, 0, none⟩ (.int .i64 0)).setCell ⟨w.heap.size, 1, none⟩ (.slice none 0 0)).setCell ⟨w.heap.size, 2, none⟩ (.slice none 0 0)).setCell ⟨w.heap.size, 3, none⟩ (.int .i64 0))) := ⟨fb, bw⟩
  obtain ⟨q0, q1, q2, q3⟩ := (HBX.out _ b1).cells
  have f0 := (HBX.out _ b1).fz 0
  have f1 := (HBX.out _ b1).fz 1
  have f2 := (HBX.out _ b1).fz 2
  have f3 := (HBX.out _ b1).fz 3
  clear fb bw
  go_wp2
  obtain ⟨fb, bw⟩ := HDN.out
  clear HDN
  generalize ((((w1.setCell ⟨w.heap.size, 0, none⟩ (.int .i64 0)).setCell ⟨w.heap.size, 1, none⟩ (.slice none 0 0)).setCell ⟨w.heap.size, 2, none⟩ (.slice none 0 0)).setCell ⟨w.heap.size, 3, none⟩ (.int .i64 0)) = wf at fb bw ⊢
  obtain ⟨t0, t1, t2, t3⟩ := fb.cells
  refine bodyPost_ret (v := .tuple #[.agg #[.int .i64 0, .slice none 0 0, .slice none 0 0, .int .i64 0], .bool false]) ?_ rfl ⟨bw, .inl ⟨HC.out, rfl⟩⟩
  simp [results, Tryz.results71, go_sem, t0, t1, t2, t3]
end Go.Proofs.YtchebhafabhabaaGreatDoor

namespace Go.Proofs.YtchebhafabhabaaGreatDoor
open Go.RowKit
set_option linter.unusedVariables false

theorem ownNil (w : World) (B : Nat) : Own w B (.slice none 0 0) 0 [] := ⟨rfl, World.ownsRow_nil _ _ _ _⟩
theorem ownCell {w : World} {B k g c : Nat} {xs : List Nat} (h : Own w B (.slice (some ⟨g, 0, none⟩) k c) k xs) {i : Nat} (hi : i < k) : w.cell? ⟨g, i, none⟩ = some (.int .u8 ((xs.getD i 0 : Nat) : Int)) := by
 rw [h.2.cellAt i (by omega)]
 have := h.1
 simp [bv, List.getElem?_eq_getElem (by omega : i < xs.length)]
theorem ownNonil {w : World} {B k c : Nat} {a : Option Addr} {xs : List Nat} (o : Own w B (.slice a k c) k xs) : (a = none ∧ k = 0 ∧ c = 0) ∨ ∃ g, a = some ⟨g, 0, none⟩ := by
 rcases o.2.2 with ⟨h1, h2⟩ | ⟨g, cap, cur, h1, _⟩
 ·simp only [Value.slice.injEq] at h1
  exact .inl ⟨h1.1, h2, h1.2.2⟩
 ·simp only [Value.slice.injEq] at h1
  exact .inr ⟨g, h1.1⟩
theorem ownAgain {w w' : World} {B n k g c cu : Nat} {xs ys : List Nat} (o : Own w B (.slice (some ⟨g, 0, none⟩) n c) n xs) (o' : Own w' B (.slice (some ⟨g, 0, none⟩) n c) n xs) (ou : Own w B (.slice (some ⟨g, 0, none⟩) k cu) k ys) (hc : ∀ i, i < k → w'.cell? ⟨g, i, none⟩ = w.cell? ⟨g, i, none⟩) : Own w' B (.slice (some ⟨g, 0, none⟩) k cu) k ys := by
 rcases o.2.2 with ⟨h1, _⟩ | ⟨g1, cap1, cur1, h1, h2, h3, h4, h5, h6, h7⟩
 ·cases h1
 rcases o'.2.2 with ⟨k1, _⟩ | ⟨g2, cap2, cur2, k1, k2, k3, k4, k5, k6, k7⟩
 ·cases k1
 rcases ou.2.2 with ⟨l1, _⟩ | ⟨g3, cap3, cur3, l1, l2, l3, l4, l5, l6, l7⟩
 ·cases l1
 simp only [Value.slice.injEq, Option.some.injEq, Addr.mk.injEq, and_true, true_and] at h1 k1 l1
 obtain ⟨rfl, rfl⟩ := h1
 obtain ⟨rfl, rfl⟩ := k1
 obtain ⟨rfl, rfl⟩ := l1
 rw [h3] at l3
 simp only [Option.some.injEq, Obj.cells.injEq, and_true] at l3
 subst l3
 have hsz : cur2.size = cur1.size := by rw [k6, h6]
 refine ⟨ou.1, ou.2.1, .inr ⟨g, cu, cur2, rfl, l2, k3, l4, l5, by rw [hsz, l6], ?_⟩⟩
 rw [← l7]
 apply List.ext_getElem?
 intro i
 by_cases hi : i < k * 1
 ·rw [List.getElem?_take_of_lt hi, List.getElem?_take_of_lt hi]
  have := hc i (by omega)
  simp only [World.cell?, k3, h3] at this
  simpa using this
 ·rw [List.getElem?_take_eq_none (by omega), List.getElem?_take_eq_none (by omega)]
theorem ownPre {w w' : World} {B N k cv cu : Nat} {av au : Option Addr} {xs ys : List Nat} (ov : Own w B (.slice av N cv) N xs) (ov' : Own w' B (.slice av N cv) N xs) (gr : w.grownBy w' (Value.slice av N cv).ownBlock) (ou : Own w B (.slice au k cu) k ys) (hk : k ≤ N) : Own w' B (.slice au k cu) k ys := by
 by_cases hb : (Value.slice au k cu).ownBlock = (Value.slice av N cv).ownBlock
 ·rcases ownNonil ou with ⟨rfl, rfl, rfl⟩ | ⟨g, rfl⟩
  ·exact ⟨ou.1, ou.2.1, .inl ⟨rfl, rfl⟩⟩
  ·rcases ownNonil ov with ⟨rfl, _, _⟩ | ⟨g2, rfl⟩
   ·cases hb
   ·simp only [Value.ownBlock, Option.some.injEq] at hb
    subst hb
    refine ownAgain ov ov' ou (fun i hi => ?_)
    rw [ownCell ov' (by omega : i < N), ownCell ov (by omega : i < N)]
 ·exact ⟨ou.1, ou.2.kept gr (.inr hb)⟩
theorem appendKeep {w : World} {B n m c : Nat} {v : Value} {xs bs : List Nat} (ty : TypeId) (hown : Own w B v n xs) (ad : Addr) (hm : m = bs.length) (hnews : ∀ j u, (bv bs)[j]? = some u → w.cell? (ad.add j) = some u) (hp : 0 < m) (hbytes : n + m ≤ 140737488355328) (hB : B ≤ w.heap.size) :
  ∃ v' w', (Builtin.append_ #[36, 36] ty #[v, .slice (some ad) m c]).run Tryz.prog w = .ok v' w' ∧ Own w' B v' (n + m) (xs ++ bs) ∧ w.grownBy w' v.ownBlock ∧ Own w' B v n xs ∧ (v'.ownBlock = v.ownBlock ∨ v'.ownBlock = some w.heap.size) := by
 obtain ⟨i0, hi, hz0, hz1, hz2⟩ := info_parts info_byte
 have hl : (bv bs).length = m * 1 := by simp [bv, hm]
 obtain ⟨v', w', hr, h2, h3, _⟩ := run_append_own (P := Tryz.prog) w B 36 ty 5 i0 (.int .u8 0) 1 1 und_bytes hi hz0 hz1 hz2 rfl (by decide) v n (bv xs) hown.2 ad m c (bv bs) hl hnews (bv_oneCell bs) (by unfold maxLen; omega) (by omega) hB
 have o2 : Own w' B v' (n + m) (xs ++ bs) := ⟨by rw [hown.1, hm]; simp, by simpa [bv] using h2⟩
 refine ⟨v', w', hr, o2, h3, ?_⟩
 rcases hown.2.2 with ⟨rfl, h0⟩ | ⟨g, cap, cur, rfl, hg1, hg2, hg3, hg4, hg5, hg6⟩
 ·have hx : xs = [] := List.eq_nil_of_length_eq_zero (by rw [← hown.1]; exact h0)
  subst hx h0
  have hr2 := run_append_nil (P := Tryz.prog) w 36 ty 5 i0 (.int .u8 0) und_bytes hi hz0 ad m c (bv bs) (by rw [hz1]; exact hl) hnews hp (by omega) (by rw [hz2]; omega)
  rw [hr] at hr2
  injection hr2 with e1 e2
  subst e1
  exact ⟨ownNil _ _, .inr rfl⟩
 ·by_cases hroom : n + m ≤ cap
  ·obtain ⟨w2, hr2, k2, _⟩ := run_append_own_spare (P := Tryz.prog) w B 36 ty 5 i0 1 und_bytes hi hz1 g n cap (bv xs) hown.2 ad m c (bv bs) hl hnews (bv_oneCell bs) hroom
   rw [hr] at hr2
   injection hr2 with e1 e2
   subst e1 e2
   refine ⟨⟨hown.1, hown.2.1, ?_⟩, .inl rfl⟩
   rcases o2.2.2 with ⟨h5, _⟩ | ⟨g2, cap2, cur2, h5, h6, h7, h8, h9, h10, h11⟩
   ·cases h5
   ·simp only [Value.slice.injEq, Option.some.injEq] at h5
    obtain ⟨e3, _, rfl⟩ := h5
    obtain rfl : g = g2 := by injection e3
    refine .inr ⟨g, cap, cur2, rfl, h6, h7, hg3, hg4, h10, ?_⟩
    have e4 : cur2.toList.take (n * 1) = (cur2.toList.take ((n + m) * 1)).take (n * 1) := by
     rw [List.take_take, Nat.min_eq_left (by omega)]
    rw [e4, h11, bv_append, List.take_append_of_le_length (by rw [bv_length, ← hown.1]; omega), List.take_of_length_le (by rw [bv_length, ← hown.1]; omega)]
  ·have holds : ∀ j u, (bv xs)[j]? = some u → w.cell? ((⟨g, 0, none⟩ : Addr).add j) = some u := hown.2.cells (g := g) rfl
   have hr2 := run_append_grow (P := Tryz.prog) w 36 ty 5 i0 (.int .u8 0) und_bytes hi hz0 ⟨g, 0, none⟩ n cap (bv xs) (by rw [hz1, bv_length, ← hown.1]; omega) holds ad m c (bv bs) (by rw [hz1]; exact hl) hnews (by omega) (by omega) (by rw [hz2]; exact growslice_fits (by omega) (by omega))
   rw [hr] at hr2
   injection hr2 with e1 e2
   subst e1
   refine ⟨?_, .inr rfl⟩
   refine ⟨hown.1, hown.2.1, .inr ⟨g, cap, cur, rfl, hg1, ?_, hg3, hg4, hg5, hg6⟩⟩
   rw [e2, heap_alloc_old w.drew _ (Array.getElem?_eq_some_iff.1 hg2).1]
   exact hg2

structure Gr (w w' : World) (B n n' : Nat) (v v' : Value) (xs ys : List Nat) : Prop where
 new : Own w' B v' n' (xs ++ ys)
 old : Own w' B v n xs
 grown : w.grownBy w' v.ownBlock
 loc : ∀ g, v'.ownBlock = some g → v.ownBlock = some g ∨ w.heap.size ≤ g
theorem Gr.refl {w : World} {B n : Nat} {v : Value} {xs : List Nat} (h : Own w B v n xs) : Gr w w B n n v v xs [] :=
 ⟨by simpa using h, h, ⟨rfl, rfl, rfl, Nat.le_refl _, fun _ _ _ => rfl⟩, fun g hg => .inl hg⟩
theorem Gr.later {w w' w2 : World} {B n n' : Nat} {v v' : Value} {xs ys : List Nat} (h : Gr w w' B n n' v v' xs ys) (hb : Below w'.heap.size w' w2) : Gr w w2 B n n' v v' xs ys :=
 ⟨h.new.later hb, h.old.later hb, h.grown.andThen (row' := none) ⟨hb.os, hb.tape, hb.output, hb.size, fun i hi _ => hb.block i hi⟩ (fun j e => by cases e), h.loc⟩
theorem Gr.trans {w w' w2 : World} {B n n' n2 : Nat} {v v' v2 : Value} {xs ys zs : List Nat} (h : Gr w w' B n n' v v' xs ys) (k : Gr w' w2 B n' n2 v' v2 (xs ++ ys) zs) : Gr w w2 B n n2 v v2 xs (ys ++ zs) := by
 obtain ⟨av, cv, rfl⟩ := own_form h.old.2
 obtain ⟨av', cv', rfl⟩ := own_form h.new.2
 refine ⟨by rw [← List.append_assoc]; exact k.new, ownPre h.new k.old k.grown h.old ?_, h.grown.andThen k.grown (fun j e => ?_), fun g hg => ?_⟩
 ·have h1 := h.new.1
  have h2 := h.old.1
  rw [List.length_append] at h1
  omega
 ·rcases h.loc j e with h1 | h1
  ·exact .inr h1
  ·exact .inl h1
 ·rcases k.loc g hg with h1 | h1
  ·exact h.loc g h1
  ·exact .inr (Nat.le_trans h.grown.size h1)
theorem appendKeep0 {w : World} {B n c : Nat} {v : Value} {xs : List Nat} (ty : TypeId) (hown : Own w B v n xs) (ad : Addr) (hbytes : n ≤ 140737488355328) (hB : B ≤ w.heap.size) :
  ∃ v' w', (Builtin.append_ #[36, 36] ty #[v, .slice (some ad) 0 c]).run Tryz.prog w = .ok v' w' ∧ Own w' B v' n xs ∧ w.grownBy w' v.ownBlock ∧ Own w' B v n xs ∧ (v'.ownBlock = v.ownBlock ∨ v'.ownBlock = some w.heap.size) := by
 obtain ⟨i0, hi, hz0, hz1, hz2⟩ := info_parts info_byte
 have hnews : ∀ j u, (bv [])[j]? = some u → w.cell? (ad.add j) = some u := fun j u h => by simp [bv] at h
 obtain ⟨v', w', hr, h2, h3, h4, h5⟩ := run_append_own_at (P := Tryz.prog) w B 36 ty 5 i0 (.int .u8 0) 1 1 und_bytes hi hz0 hz1 hz2 rfl (by decide) v n (bv xs) hown.2 ad 0 c (bv []) (by simp [bv]) hnews (bv_oneCell []) (by unfold maxLen; omega) (by omega) hB
 have o2 : Own w' B v' n xs := ⟨hown.1, by simpa [bv] using h2⟩
 refine ⟨v', w', hr, o2, h3, ?_, h5⟩
 rcases hown.2.2 with ⟨rfl, h0⟩ | ⟨g, cap, cur, rfl, hg1, hg2, hg3, hg4, hg5, hg6⟩
 ·have hx : xs = [] := List.eq_nil_of_length_eq_zero (by rw [← hown.1]; exact h0)
  subst hx h0
  exact ownNil _ _
 ·obtain ⟨w2, hr2, k2, _⟩ := run_append_own_spare (P := Tryz.prog) w B 36 ty 5 i0 1 und_bytes hi hz1 g n cap (bv xs) hown.2 ad 0 c (bv []) (by simp [bv]) hnews (bv_oneCell []) (by omega)
  rw [hr] at hr2
  injection hr2 with e1 e2
  subst e1
  exact o2
theorem wpList_append_keep {w : World} {ops : Array Oper} {rest : List Oper} {o : Oper} {a : Act} {Q : Exit → Act → World → Prop} (hgd : o.guard = none) (s x : Operand)
  (ho : o.op = .call { callee := .builtin .append, args := #[s, x], argTypes := #[36, 36] })
  (B : Nat) (a0 : Option Addr) (m0 c0 : Nat) (acc : List Nat) (hs : a.eval s = .slice a0 m0 c0) (hown : Own w B (.slice a0 m0 c0) m0 acc)
  (ao : Option Addr) (m c : Nat) (bs : List Nat) (hx : a.eval x = .slice ao m c) (hrd : Rd w (.slice ao m c) bs)
  (hbytes : m0 + m ≤ 140737488355328) (hB : B ≤ w.heap.size)
  (h : ∀ a' c' w', Gr w w' B m0 (m0 + m) (.slice a0 m0 c0) (.slice a' (m0 + m) c') acc bs → wpList Tryz.prog ops Q rest (a.put o.dst (.slice a' (m0 + m) c')) w') : wpList Tryz.prog ops Q (o :: rest) a w := by
 obtain ⟨i0, hi, hz0, hz1, hz2⟩ := info_parts info_byte
 obtain ⟨hn, _, _, _⟩ := rd_lens hrd
 have fin : ∀ (v' : Value) (w' : World), (Builtin.append_ #[36, 36] o.type #[.slice a0 m0 c0, .slice ao m c]).run Tryz.prog w = .ok v' w' → Own w' B v' (m0 + m) (acc ++ bs) → w.grownBy w' (Value.slice a0 m0 c0).ownBlock → Own w' B (.slice a0 m0 c0) m0 acc → (v'.ownBlock = (Value.slice a0 m0 c0).ownBlock ∨ v'.ownBlock = some w.heap.size) → wpList Tryz.prog ops Q (o :: rest) a w := by
  intro v' w' hr h1 h2 h3 h4
  obtain ⟨a', c', rfl⟩ := own_form h1.2
  refine wpList_plain hgd fun K hK => ?_
  unfold Oper.wp execOp
  simp only [ho, resolve, invoke, builtin, Sem.run_bind, Sem.run_pure, Result.andThen_ok, List.map_toArray, List.map_cons, List.map_nil, hs, hx, hr]
  refine hK _ _ (h a' c' w' ⟨h1, h3, h2, fun g hg => ?_⟩)
  rcases h4 with h4 | h4
  ·exact .inl (h4 ▸ hg)
  ·rw [h4] at hg
   simp at hg
   omega
 by_cases hm : m = 0
 ·have hb0 : bs = [] := List.eq_nil_of_length_eq_zero (by omega)
  subst hm hb0
  cases ao with
  | none =>
   rcases rd_some hrd with ⟨hc, _, _⟩ | ⟨b, off, hh⟩
   ·subst hc
    refine wpList_append_own_none hgd s x 36 ho B 5 i0 1 und_bytes hi _ _ _ hs hown.2 (by simpa using hx) ?_
    exact h a0 c0 w (Gr.refl hown)
   ·cases hh
  | some ad =>
   obtain ⟨v', w', hr, h1, h2, h3, h4⟩ := appendKeep0 (c := c) o.type hown ad (by omega) hB
   exact fin v' w' hr (by simpa using h1) h2 h3 h4
 ·rcases rd_some hrd with ⟨_, h0, _⟩ | ⟨b, off, rfl⟩
  ·omega
  ·obtain ⟨_, a1, c1, h2, _, _, _, _, hat⟩ := hrd
   simp only [Value.slice.injEq] at h2
   obtain ⟨rfl, _, rfl⟩ := h2
   obtain ⟨v', w', hr, h1, h2, h3, h4⟩ := appendKeep (c := c) o.type hown ⟨b, off, none⟩ (m := m) (bs := bs) hn hat.add (by omega) hbytes hB
   exact fin v' w' hr h1 h2 h3 h4
end Go.Proofs.YtchebhafabhabaaGreatDoor

namespace Go.Proofs.YtchebhafabhabaaGreatDoor
open Go.RowKit
set_option linter.unusedVariables false

def recL (sh : Nat) (r v : List Nat) : List Nat := uintL sh ++ (uintL r.length ++ (r ++ (uintL v.length ++ v)))
theorem uintH (v : Nat) (hv : v < 18446744073709551616) (w : World) :
  Calls Tryz.prog 92 #[.int .u64 (v : Int)] w fun e w' => ∃ a c, e = .returned (.slice a (uintL v).length c) ∧ Rd w' (.slice a (uintL v).length c) (uintL v) ∧ Below w.heap.size w w' := by
 refine (uint_any v hv w).mono ?_
 rintro e w' ⟨s, rfl, ho, hb⟩
 obtain ⟨a, c, rfl⟩ := own_form ho
 exact ⟨a, c, rfl, Rd.of_owns rfl ho (uintL_bys v hv) (by have := uintL_len v; omega), hb⟩

set_option maxRecDepth 100000 in
set_option maxHeartbeats 2000000 in
theorem appendRecord_any {w : World} {B m c nr cr nv cv sh : Nat} {a ar av : Option Addr} {acc R X : List Nat} (ho : Own w B (.slice a m c) m acc) (hB : B ≤ w.heap.size) (hsh : sh ≤ 140737488355328) (hm : m ≤ 1000000000) (hnr : nr ≤ 1000000000) (hnv : nv ≤ 1000000000)
  (hrd : ∀ wx, w.grownBy wx (Value.slice a m c).ownBlock → Rd wx (.slice ar nr cr) R ∧ Rd wx (.slice av nv cv) X) :
  Calls Tryz.prog 54 #[.slice a m c, .int .i64 (sh : Int), .slice ar nr cr, .slice av nv cv] w fun e w' => ∃ a' c', e = .returned (.slice a' (m + (recL sh R X).length) c') ∧ Gr w w' B m (m + (recL sh R X).length) (.slice a m c) (.slice a' (m + (recL sh R X).length) c') acc (recL sh R X) := by
 have HR : Hid (∀ wx, w.grownBy wx (Value.slice a m c).ownBlock → Rd wx (.slice ar nr cr) R ∧ Rd wx (.slice av nv cv) X) := hrd
 have g0 : w.grownBy w (Value.slice a m c).ownBlock := ⟨rfl, rfl, rfl, Nat.le_refl _, fun _ _ _ => rfl⟩
 have hlr := (rd_lens (hrd w g0).1).1
 have hlv := (rd_lens (hrd w g0).2).1
 obtain ⟨u1, hu1⟩ : ∃ u, u = (uintL sh).length := ⟨_, rfl⟩
 obtain ⟨u2, hu2⟩ : ∃ u, u = (uintL nr).length := ⟨_, rfl⟩
 obtain ⟨u3, hu3⟩ : ∃ u, u = (uintL nv).length := ⟨_, rfl⟩
 have l1 : u1 ≤ 10 := by rw [hu1]; exact (uintL_len _).2
 have l2 : u2 ≤ 10 := by rw [hu2]; exact (uintL_len _).2
 have l3 : u3 ≤ 10 := by rw [hu3]; exact (uintL_len _).2
 have HU : Hid (∀ (v n : Nat) (wx : World), v < 18446744073709551616 → n = (uintL v).length → Calls Tryz.prog 92 #[.int .u64 (v : Int)] wx fun e w' => ∃ a c, e = .returned (.slice a n c) ∧ Rd w' (.slice a n c) (uintL v) ∧ Below wx.heap.size wx w') := by
  intro v n wx hv hn
  rw [hn]
  exact uintH v hv wx
 have HL : Hid (recL sh R X = uintL sh ++ (uintL nr ++ (R ++ (uintL nv ++ X))) ∧ (recL sh R X).length = u1 + (u2 + (nr + (u3 + nv)))) := by
  have e : recL sh R X = uintL sh ++ (uintL nr ++ (R ++ (uintL nv ++ X))) := by rw [hlr, hlv]; rfl
  exact ⟨e, by rw [e, hu1, hu2, hu3, hlr, hlv]; simp⟩
 have HO : Hid (Own w B (.slice a m c) m acc) := ho
 have HU1 : Hid (u1 = (uintL sh).length ∧ u2 = (uintL nr).length ∧ u3 = (uintL nv).length) := ⟨hu1, hu2, hu3⟩
 have w1 : IntKind.u64.wrap (sh : Int) = (sh : Int) := IntWalk.u64_in _ ⟨by omega, by omega⟩
 have w2 : IntKind.u64.wrap (nr : Int) = (nr : Int) := IntWalk.u64_in _ ⟨by omega, by omega⟩
 have w3 : IntKind.u64.wrap (nv : Int) = (nv : Int) := IntWalk.u64_in _ ⟨by omega, by omega⟩
 clear ho hrd hlr hlv hu1 hu2 hu3
 go_enter Tryz.func54, Tryz.ntmps54
 go_wp2_with (go_at_call 92; fail)
 refine Calls.mono (HU.out sh u1 _ (by omega) HU1.out.1) ?_
 rintro e1 x1 ⟨p1, d1, rfl, r1, b1⟩
 have R1 : Hid (Rd x1 (.slice p1 u1 d1) (uintL sh)) := r1
 have G0 : Hid (Gr w x1 B m m (.slice a m c) (.slice a m c) acc []) := (Gr.refl HO.out).later b1
 clear r1 b1 g0
 go_wp2_with (first | (at_builtin; refine wpList_append_keep rfl _ _ rfl B _ _ _ _ rfl G0.out.new _ _ _ _ rfl R1.out (by omega) (Nat.le_trans hB G0.out.grown.size) ?_; intro a2 c2 x2 g2; have G1 : Hid (Gr w x2 B m (m + u1) (.slice a m c) (.slice a2 (m + u1) c2) acc ([] ++ uintL sh)) := G0.out.trans g2; clear g2) | (have Y9 := G1; go_at_call 92; fail))
 refine Calls.mono (HU.out nr u2 _ (by omega) HU1.out.2.1) ?_
 rintro e3 x3 ⟨p3, d3, rfl, r3, b3⟩
 have R3 : Hid (Rd x3 (.slice p3 u2 d3) (uintL nr)) := r3
 have G3 : Hid (Gr w x3 B m (m + u1) (.slice a m c) (.slice a2 (m + u1) c2) acc ([] ++ uintL sh)) := G1.out.later b3
 clear r3 b3 G0 R1 G1
 go_wp2_with (first | (have Y9 := G5; go_at_call 92; fail) | (have Y9 := G4; at_builtin; refine wpList_append_keep rfl _ _ rfl B _ _ _ _ rfl G4.out.new _ _ _ _ rfl (HR.out _ G4.out.grown).1 (by omega) (Nat.le_trans hB G4.out.grown.size) ?_; intro a5 c5 x5 g5; have G5 : Hid (Gr w x5 B m (m + u1 + u2 + nr) (.slice a m c) (.slice a5 (m + u1 + u2 + nr) c5) acc ([] ++ uintL sh ++ uintL nr ++ R)) := G4.out.trans g5; clear g5) | (at_builtin; refine wpList_append_keep rfl _ _ rfl B _ _ _ _ rfl G3.out.new _ _ _ _ rfl R3.out (by omega) (Nat.le_trans hB G3.out.grown.size) ?_; intro a4 c4 x4 g4; have G4 : Hid (Gr w x4 B m (m + u1 + u2) (.slice a m c) (.slice a4 (m + u1 + u2) c4) acc ([] ++ uintL sh ++ uintL nr)) := G3.out.trans g4; clear g4))
 refine Calls.mono (HU.out nv u3 _ (by omega) HU1.out.2.2) ?_
 rintro e6 x6 ⟨p6, d6, rfl, r6, b6⟩
 have R6 : Hid (Rd x6 (.slice p6 u3 d6) (uintL nv)) := r6
 have G6 : Hid (Gr w x6 B m (m + u1 + u2 + nr) (.slice a m c) (.slice a5 (m + u1 + u2 + nr) c5) acc ([] ++ uintL sh ++ uintL nr ++ R)) := G5.out.later b6
 clear r6 b6 G3 R3 G4 G5
 go_wp2_with (first | (have Y9 := G7; at_builtin; refine wpList_append_keep rfl _ _ rfl B _ _ _ _ rfl G7.out.new _ _ _ _ rfl (HR.out _ G7.out.grown).2 (by omega) (Nat.le_trans hB G7.out.grown.size) ?_; intro a8 c8 x8 g8; have G8 : Hid (Gr w x8 B m (m + u1 + u2 + nr + u3 + nv) (.slice a m c) (.slice a8 (m + u1 + u2 + nr + u3 + nv) c8) acc ([] ++ uintL sh ++ uintL nr ++ R ++ uintL nv ++ X)) := G7.out.trans g8; clear g8) | (at_builtin; refine wpList_append_keep rfl _ _ rfl B _ _ _ _ rfl G6.out.new _ _ _ _ rfl R6.out (by omega) (Nat.le_trans hB G6.out.grown.size) ?_; intro a7 c7 x7 g7; have G7 : Hid (Gr w x7 B m (m + u1 + u2 + nr + u3) (.slice a m c) (.slice a7 (m + u1 + u2 + nr + u3) c7) acc ([] ++ uintL sh ++ uintL nr ++ R ++ uintL nv)) := G6.out.trans g7; clear g7))
 go_ret
 have e1 : m + u1 + u2 + nr + u3 + nv = m + (recL sh R X).length := by rw [HL.out.2]; omega
 have e2 : [] ++ uintL sh ++ uintL nr ++ R ++ uintL nv ++ X = recL sh R X := by rw [HL.out.1]; simp
 have g := G8.out
 rw [e1, e2] at g
 exact ⟨a8, c8, by rw [← e1]; rfl, g⟩
end Go.Proofs.YtchebhafabhabaaGreatDoor

namespace Go.Proofs.YtchebhafabhabaaGreatDoor
open Go.RowKit
set_option linter.unusedVariables false

theorem wpList_append_lit {w : World} {ops : Array Oper} {rest : List Oper} {o : Oper} {a : Act} {Q : Exit → Act → World → Prop} (hgd : o.guard = none) (s x : Operand)
  (ho : o.op = .call { callee := .builtin .append, args := #[s, x], argTypes := #[36, 36] })
  (B n cp k : Nat) (ap : Option Addr) (xs bs : List Nat) (us : Array Value) (hu : us.toList = bv bs) (hk : k = bs.length) (hk0 : 0 < k) (hs : a.eval s = .slice ap n cp) (hx : a.eval x = .slice (some ⟨w.heap.size, 0, none⟩) k k) (hown : Own w B (.slice ap n cp) n xs) (hl : n + k ≤ 140737488355328) (hB : B ≤ w.heap.size)
  (h : ∀ a' c' w', Gr w w' B n (n + k) (.slice ap n cp) (.slice a' (n + k) c') xs bs → wpList Tryz.prog ops Q rest (a.put o.dst (.slice a' (n + k) c')) w') : wpList Tryz.prog ops Q (o :: rest) a (w.alloc (.cells us 5)) := by
 have hb : Below w.heap.size w (w.alloc (.cells us 5)) := (Below.refl _ _).alloc (Nat.le_refl _) _
 have hnews : ∀ j u, (bv bs)[j]? = some u → (w.alloc (.cells us 5)).cell? ((⟨w.heap.size, 0, none⟩ : Addr).add j) = some u := by
  rw [← hu]
  have := news_new w us.toList 5
  simpa using this
 obtain ⟨v', w', hr, h1, h2, h3, h4⟩ := appendKeep (c := k) o.type (hown.later hb) ⟨w.heap.size, 0, none⟩ (m := k) (bs := bs) hk hnews hk0 hl (by simp; omega)
 obtain ⟨a', c', rfl⟩ := own_form h1.2
 refine wpList_plain hgd fun K hK => ?_
 unfold Oper.wp execOp
 simp only [ho, resolve, invoke, builtin, Sem.run_bind, Sem.run_pure, Result.andThen_ok, List.map_toArray, List.map_cons, List.map_nil, hs, hx, hr]
 refine hK _ _ (h a' c' w' ⟨h1, h3, (World.grownBy_alloc w _ _).trans h2, fun g hg => ?_⟩)
 rcases h4 with h4 | h4
 ·exact .inl (h4 ▸ hg)
 ·rw [h4] at hg
  simp at hg
  omega
theorem rdp_one {w : World} {g : Nat} {u : Value} {L : List Nat} (h : w.cell? ⟨g, 0, none⟩ = some u) (hr : Rd w u L) : RdP w (.slice (some ⟨g, 0, none⟩) 1 1) [L] := by
 refine ⟨by simp, some ⟨g, 0, none⟩, 1, rfl, .inr ⟨g, 0, rfl, fun i hi => ?_⟩⟩
 have : i = 0 := by simpa using hi
 subst this
 exact ⟨u, h, by simpa using hr⟩

set_option maxRecDepth 100000 in
set_option maxHeartbeats 2000000 in
theorem appendSumB_any {w : World} {B m c : Nat} {a : Option Addr} {acc : List Nat} (ho : Own w B (.slice a m c) m acc) (hby : Bys acc) (hB : B ≤ w.heap.size) (hm : m ≤ 1000000000) (ht : Tab w) (hs : sumL acc < 4294967296) :
  Calls Tryz.prog 80 #[.slice a m c] w fun e w' => ∃ a' c', e = .returned (.slice a' (m + 4) c') ∧ Gr w w' B m (m + 4) (.slice a m c) (.slice a' (m + 4) c') acc (le4 (sumL acc)) := by
 have HO : Hid (Own w B (.slice a m c) m acc) := ho
 obtain ⟨S, hS⟩ : ∃ S, S = sumL acc := ⟨_, rfl⟩
 have HSu : Hid (∀ wx : World, wx = w.alloc (.cells #[.slice a m c] 36) → Calls Tryz.prog 62 #[.slice (some ⟨w.heap.size, 0, none⟩) 1 1] wx fun e w' => e = .returned (.int .u32 (S : Int)) ∧ w' = wx) := by
  have h : ∀ wx : World, wx = w.alloc (.cells #[.slice a m c] 36) → Calls Tryz.prog 62 #[.slice (some ⟨w.heap.size, 0, none⟩) 1 1] wx fun e w' => e = .returned (.int .u32 (S : Int)) ∧ w' = wx := fun wx e => by
   have hb : Below w.heap.size w wx := by rw [e]; exact (Below.refl _ _).alloc (Nat.le_refl _) _
   have hc : wx.cell? ⟨w.heap.size, 0, none⟩ = some (.slice a m c) := by rw [e]; simp
   have := sum_any (rdp_one hc ((ho.rd hby (by omega)).later hb)) (ht.later hb)
   rw [hS]
   simpa using this
  exact h
 rw [← hS] at hs ⊢
 clear ho hby ht hS
 go_enter Tryz.func80, Tryz.ntmps80
 go_wp2_with (go_at_call 62; fail)
 refine Calls.mono (HSu.out _ rfl) ?_
 rintro e1 x1 ⟨rfl, hx1⟩
 have G0 : Hid (Gr w x1 B m m (.slice a m c) (.slice a m c) acc []) := by
  rw [hx1]
  exact (Gr.refl HO.out).later ((Below.refl _ _).alloc (Nat.le_refl _) _)
 clear hx1
 go_wp2_with (at_builtin; refine wpList_append_lit rfl _ _ rfl B _ _ 4 _ _ (le4 S) _ (by simp [bv, le4]) rfl (by decide) rfl rfl G0.out.new (by omega) (Nat.le_trans hB G0.out.grown.size) ?_; intro a2 c2 x2 g2; have G1 : Hid (Gr w x2 B m (m + 4) (.slice a m c) (.slice a2 (m + 4) c2) acc ([] ++ le4 S)) := G0.out.trans g2; clear g2)
 go_ret
 exact ⟨a2, c2, rfl, by simpa using G1.out⟩
end Go.Proofs.YtchebhafabhabaaGreatDoor

namespace Go.Proofs.YtchebhafabhabaaGreatDoor
open Go.RowKit
set_option linter.unusedVariables false

def BBox (w : World) (g : Nat) (r n : Int) (ve vp vl : Value) : Prop := w.heap[g]? = some (.cells #[.int .i64 r, .int .i64 n, ve, vp, vl] 89 (0, 0))
theorem BBox.cells {w : World} {g : Nat} {r n : Int} {ve vp vl : Value} (h : BBox w g r n ve vp vl) : w.cell? ⟨g, 0, none⟩ = some (.int .i64 r) ∧ w.cell? ⟨g, 1, none⟩ = some (.int .i64 n) ∧ w.cell? ⟨g, 2, none⟩ = some ve ∧ w.cell? ⟨g, 3, none⟩ = some vp ∧ w.cell? ⟨g, 4, none⟩ = some vl := by
 unfold BBox at h
 simp [World.cell?, h]
theorem BBox.fz {w : World} {g : Nat} {r n : Int} {ve vp vl : Value} (h : BBox w g r n ve vp vl) (i : Nat) : w.frozen? ⟨g, i, none⟩ = false := by
 unfold BBox at h
 simp [World.frozen?, h]
theorem BBox.later {w w' : World} {g : Nat} {r n : Int} {ve vp vl : Value} (h : BBox w g r n ve vp vl) (hb : Below w.heap.size w w') : BBox w' g r n ve vp vl := by
 unfold BBox at *
 rw [hb.block g (Array.getElem?_eq_some_iff.1 h).1]
 exact h

set_option maxRecDepth 100000 in
set_option maxHeartbeats 1000000 in
theorem begin_any (r : Int) (w : World) : Calls Tryz.prog 8 #[.int .i64 r] w fun e w' => Below w.heap.size w w' ∧ ((¬ (1 ≤ r ∧ r ≤ 16) ∧ e = .returned (.tuple #[.pointer none, .int .i64 1])) ∨ ((1 ≤ r ∧ r ≤ 16) ∧ ∃ g, w.heap.size ≤ g ∧ e = .returned (.tuple #[.pointer (some ⟨g, 0, none⟩), .int .i64 0]) ∧ BBox w' g r 0 (.slice none 0 0) (.slice none 0 0) (.slice none 0 0))) := by
 have HM : Hid (∀ wx, Calls Tryz.prog 46 #[.int .i64 r] wx fun e w' => e = .returned (.bool (decide (1 ≤ r ∧ r ≤ 16))) ∧ w' = wx) := fun wx => mayRestart_any r wx
 by_cases h : 1 ≤ r ∧ r ≤ 16
 ·have HH : Hid (1 ≤ r ∧ r ≤ 16) := h
  have hd : decide (1 ≤ r ∧ r ≤ 16) = true := by simp [h]
  rw [hd] at HM
  clear h hd
  go_enter Tryz.func8, Tryz.ntmps8
  go_wp2_with (go_at_call 46; refine Calls.mono (HM.out _) ?_; rintro e1 w1 ⟨rfl, rfl⟩)
  refine bodyPost_ret (v := .tuple #[.pointer (some ⟨w1.heap.size, 0, none⟩), .int .i64 0]) ?_ rfl ⟨(Below.refl _ _).alloc (Nat.le_refl _) _, .inr ⟨HH.out, w1.heap.size, Nat.le_refl _, rfl, heap_alloc_new w1 _⟩⟩
  simp [results, Tryz.results8, go_sem]
 ·have HH : Hid (¬ (1 ≤ r ∧ r ≤ 16)) := h
  have hd : decide (1 ≤ r ∧ r ≤ 16) = false := by simp [h]
  rw [hd] at HM
  clear h hd
  go_enter Tryz.func8, Tryz.ntmps8
  go_wp2_with (go_at_call 46; refine Calls.mono (HM.out _) ?_; rintro e1 w1 ⟨rfl, rfl⟩)
  refine bodyPost_ret (v := .tuple #[.pointer none, .int .i64 1]) ?_ rfl ⟨Below.refl _ _, .inl ⟨HH.out, rfl⟩⟩
  simp [results, Tryz.results8, go_sem]
set_option maxRecDepth 100000 in
set_option maxHeartbeats 1000000 in
theorem size_any {w : World} {g n ne ce np cp : Nat} {r : Int} {ae ap : Option Addr} {vl : Value} (h : BBox w g r (n : Int) (.slice ae ne ce) (.slice ap np cp) vl) (hne : ne ≤ 1000000000) (hnp : np ≤ 1000000000) :
  Calls Tryz.prog 57 #[.pointer (some ⟨g, 0, none⟩)] w fun e w' => e = .returned (.int .i64 (((if n = 0 then 0 else ne + np + 9) : Nat) : Int)) ∧ Below w.heap.size w w' := by
 obtain ⟨c0, c1, c2, c3, c4⟩ := h.cells
 clear h
 by_cases h0 : n = 0
 ·subst h0
  go_enter Tryz.func57, Tryz.ntmps57
  go_wp2
  go_ret
  exact ⟨rfl, Below.refl _ _⟩
 ·have h1 : ¬ ((n : Int) = 0) := by omega
  have h2 : ((n : Int) == 0) = false := by rw [beq_eq_false_iff_ne]; exact h1
  rw [if_neg h0]
  go_enter Tryz.func57, Tryz.ntmps57
  go_wp2
  go_quiet ((go_at_call 55; exact Calls.quiet_of_same (sizeOf_any _ hne hnp)))
  go_wp2
  go_ret
  exact ⟨rfl, below_drewN (Below.refl _ _) _⟩
end Go.Proofs.YtchebhafabhabaaGreatDoor

namespace Go.Proofs.YtchebhafabhabaaGreatDoor
open Go.RowKit
set_option linter.unusedVariables false

def bodyL (E P : List Nat) (n r : Nat) : List Nat := E ++ P ++ be4 n ++ [r]
def blockL (E P : List Nat) (n r : Nat) : List Nat := bodyL E P n r ++ le4 (sumL (bodyL E P n r))
set_option maxRecDepth 100000 in
set_option maxHeartbeats 2000000 in
theorem finish_any {w : World} {g n r ne ce np cp : Nat} {ae ap : Option Addr} {vl : Value} {E P : List Nat} (h : BBox w g (r : Int) (n : Int) (.slice ae ne ce) (.slice ap np cp) vl) (hE : Rd w (.slice ae ne ce) E) (hP : Rd w (.slice ap np cp) P) (hne : ne ≤ 1000000) (hnp : np ≤ 1000000) (hn0 : 0 < n) (hn : n < 4294967296) (hr : r < 256) (ht : Tab w) (hs : ∀ L : List Nat, sumL L < 4294967296) :
  Calls Tryz.prog 41 #[.pointer (some ⟨g, 0, none⟩)] w fun e w' => ∃ a m c, e = .returned (.tuple #[.slice a m c, .int .i64 0]) ∧ Own w' w.heap.size (.slice a m c) m (blockL E P n r) ∧ Below w.heap.size w w' := by
 obtain ⟨i0, hi, hz0, hz1, hz2⟩ := info_parts info_byte
 have HB : Hid (∀ wx, Below w.heap.size w wx → BBox wx g (r : Int) (n : Int) (.slice ae ne ce) (.slice ap np cp) vl) := by
  have h' : ∀ wx, Below w.heap.size w wx → BBox wx g (r : Int) (n : Int) (.slice ae ne ce) (.slice ap np cp) vl := fun wx hx => h.later hx
  exact h'
 have HR : Hid (∀ wx, Below w.heap.size w wx → Rd wx (.slice ae ne ce) E ∧ Rd wx (.slice ap np cp) P ∧ Tab wx) := by
  have h' : ∀ wx, Below w.heap.size w wx → Rd wx (.slice ae ne ce) E ∧ Rd wx (.slice ap np cp) P ∧ Tab wx := fun wx hx => ⟨hE.later hx, hP.later hx, ht.later hx⟩
  exact h'
 have HLn : Hid (ne = E.length ∧ np = P.length) := ⟨(rd_lens hE).1, (rd_lens hP).1⟩
 obtain ⟨c0, c1, c2, c3, c4⟩ := h.cells
 have hn1 : ¬ ((n : Int) = 0) := by omega
 have hn2 : ((n : Int) == 0) = false := by rw [beq_eq_false_iff_ne]; exact hn1
 have HSz : Hid (∀ wx, Below w.heap.size w wx → Calls Tryz.prog 57 #[.pointer (some ⟨g, 0, none⟩)] wx fun e w' => e = .returned (.int .i64 ((ne + np + 9 : Nat) : Int)) ∧ Below wx.heap.size wx w') := by
  have h' : ∀ wx, Below w.heap.size w wx → Calls Tryz.prog 57 #[.pointer (some ⟨g, 0, none⟩)] wx fun e w' => e = .returned (.int .i64 ((ne + np + 9 : Nat) : Int)) ∧ Below wx.heap.size wx w' := fun wx hx => by
   have := size_any (h.later hx) (by omega) (by omega)
   rwa [if_neg (by omega : ¬ n = 0)] at this
  exact h'
 obtain ⟨sz, hsz⟩ : ∃ sz, sz = ne + np + 9 := ⟨_, rfl⟩
 rw [← hsz] at HSz
 have hszl : sz ≤ 3000000 := by omega
 clear h hE hP ht hsz
 go_enter Tryz.func41, Tryz.ntmps41
 go_wp2_with (go_at_call 57; fail)
 refine Calls.mono (HSz.out _ (Below.refl _ _)) ?_
 rintro e1 w1 ⟨rfl, b1⟩
 obtain ⟨q0, q1, q2, q3, q4⟩ := (HB.out _ b1).cells
 go_wp2_with (first
  | (have Y := O4; go_at_call 53; fail)
  | (have Y := O3; at_builtin; refine wpList_append_at rfl _ _ rfl w.heap.size _ _ _ _ rfl O3.out _ _ _ _ rfl (HR.out _ b3).2.1 (by have := hm3.out; omega) b3.size ?_; intro a4 m4 c4 w4 own4 b4'; have O4 : Hid (Own w4 w.heap.size (.slice a4 m4 c4) m4 (E ++ P)) := own4; have b4 := b3.trans b4'; obtain ⟨s0, s1, s2, s3, s4⟩ := (HB.out _ b4).cells; have hm4 : Hid (m4 = ne + np) := own4.1.trans (by rw [List.length_append, HLn.out.1, HLn.out.2]); clear own4 b4')
  | (have Y := O2; at_builtin; refine wpList_append_at rfl _ _ rfl w.heap.size _ _ _ _ rfl O2.out _ _ _ _ rfl (HR.out _ b2).1 (by omega) b2.size ?_; intro a3 m3 c3 w3 own3 b3'; rw [List.nil_append] at own3; have O3 : Hid (Own w3 w.heap.size (.slice a3 m3 c3) m3 E) := own3; have b3 := b2.trans b3'; obtain ⟨p0, p1, p2, p3, p4⟩ := (HB.out _ b3).cells; have hm3 : Hid (m3 = ne) := own3.1.trans HLn.out.1.symm; clear own3 b3')
  | (at_make; refine wpList_make_own _ rfl _ _ 36 rfl w.heap.size 5 i0 (.int .u8 0) 1 und_bytes hi hz0 hz1 .i64 .i64 _ sz rfl rfl rfl (by rw [hz2]; omega) (by unfold maxLen; omega) b1.size ?_; intro w2 own2 gr2; have O2 : Hid (Own w2 w.heap.size (.slice (some ⟨w1.heap.size, 0, none⟩) 0 sz) 0 []) := ⟨rfl, own2⟩; have b2 : Below w.heap.size w w2 := b1.grown gr2 b1.size (fun k hk => by cases hk); obtain ⟨r0, r1, r2, r3, r4⟩ := (HB.out _ b2).cells; clear own2 gr2))
 have hl4 : (E ++ P).length ≤ 70368744177664 := by have := O4.out.1; have := hm4.out; omega
 refine Calls.mono (handed (appendWord_any n hn O4.out.own b4.size hl4)) ?_
 rintro e5 w5 ⟨a5, m5, c5, rfl, own5, b5'⟩
 have O5 : Hid (Own w5 w.heap.size (.slice a5 m5 c5) m5 (E ++ P ++ be4 n)) := own5
 have hm5 : Hid (m5 = ne + np + 4) := own5.1.trans (by rw [List.length_append, ← O4.out.1, hm4.out]; rfl)
 have b5 := b4.trans b5'
 obtain ⟨t0, t1, t2, t3, t4⟩ := (HB.out _ b5).cells
 clear own5 b5'
 go_wp2_with (first | (have Y := O6; go_at_call 80; fail) | (at_builtin; refine wpList_append_lit rfl _ _ rfl w.heap.size _ _ 1 _ _ [r] _ (by simp [bv]) rfl (by decide) rfl rfl O5.out (by have := hm5.out; omega) b5.size ?_; intro a6 c6 w6 g6; have O6 : Hid (Own w6 w.heap.size (.slice a6 (m5 + 1) c6) (m5 + 1) (bodyL E P n r)) := g6.new; have b6 : Below w.heap.size w w6 := b5.grown g6.grown b5.size (fun k hk => (O5.out.2.lt k hk).1); clear g6))
 have hby : Bys (bodyL E P n r) := by
  have h1 := (HR.out _ b6).1.1
  have h2 := (HR.out _ b6).2.1.1
  intro x hx
  simp only [bodyL, be4, List.mem_append, List.mem_cons, List.not_mem_nil, or_false] at hx
  rcases hx with ((hx | hx) | hx) | hx
  ·exact h1 x hx
  ·exact h2 x hx
  ·omega
  ·omega
 refine Calls.mono (appendSumB_any O6.out hby b6.size (by have := hm5.out; omega) (HR.out _ b6).2.2 (hs _)) ?_
 rintro e7 w7 ⟨a7, c7, rfl, g7⟩
 have O7 : Hid (Own w7 w.heap.size (.slice a7 (m5 + 1 + 4) c7) (m5 + 1 + 4) (blockL E P n r)) := g7.new
 have b7 : Below w.heap.size w w7 := b6.grown g7.grown b6.size (fun k hk => (O6.out.2.lt k hk).1)
 clear g7
 go_wp2
 refine bodyPost_ret (v := .tuple #[.slice a7 (m5 + 1 + 4) c7, .int .i64 0]) ?_ rfl ⟨a7, m5 + 1 + 4, c7, rfl, O7.out, b7⟩
 simp [results, Tryz.results41, go_sem]
end Go.Proofs.YtchebhafabhabaaGreatDoor
