import Derived.Test.YthpdlclgiggekaaCell12
import Derived.Test.YthpdlclgiggekaaCell13
import Derived.Lib.Hide
namespace Go.Proofs.Ythpdlclgiggekaa
open Go.RowKit
set_option linter.unusedVariables false

def marks5 : List Nat := [201, 202, 203, 204, 205]
theorem marks5_bys : Bys marks5 := by
  have h : ∀ x ∈ marks5, x < 256 := by decide
  exact h
theorem rep_bys (n m : Nat) (h : m < 256) : Bys (List.replicate n m) := by intro x hx; rw [List.eq_of_mem_replicate hx]; exact h

set_option maxRecDepth 100000 in
set_option maxHeartbeats 1000000 in
theorem copied_any {v : Value} {bs : List Nat} {w : World} (hr : Rd w v bs) (hl : bs.length ≤ 140737488355328) :
    Calls Try.prog 31 #[v] w fun e w' => ∃ a m c, e = .returned (.slice a m c) ∧ Own w' w.heap.size (.slice a m c) m bs ∧ Below w.heap.size w w' := by
  obtain ⟨a, n, cap, rfl⟩ := rd_slice hr
  obtain ⟨hn, hle, hm, hl48⟩ := rd_lens hr
  rw [← hn] at hl
  clear hn
  go_enter Try.func31, Try.ntmps31
  go_wp2_with (at_builtin; refine wpList_append_at rfl _ _ rfl w.heap.size none 0 0 [] rfl ⟨rfl, World.ownsRow_nil _ _ _ _⟩ a n cap bs rfl hr (by omega) (Nat.le_refl _) ?_; intro a5 m5 c5 w5 own5 hb5)
  go_ret
  exact ⟨a5, m5, c5, rfl, by simpa using own5, hb5⟩

/-- Bytes with marks in the room behind them. -/
def Laid (w : World) (B : Nat) (u : Value) (bs : List Nat) : Prop := ∃ g c, u = .slice (some ⟨g, 0, none⟩) bs.length c ∧ bs.length + 75 ≤ c ∧ c ≤ maxLen ∧ Own w B (.slice (some ⟨g, 0, none⟩) (bs.length + 75) c) (bs.length + 75) ((bs ++ marks5) ++ List.replicate 70 206)
theorem Laid.later {w w' : World} {B : Nat} {u : Value} {bs : List Nat} (h : Laid w B u bs) (hb : Below w.heap.size w w') : Laid w' B u bs := by
  obtain ⟨g, c, h1, h2, h3, h4⟩ := h
  exact ⟨g, c, h1, h2, h3, h4.later hb⟩
theorem Laid.all {w : World} {B g c : Nat} {bs : List Nat} (h4 : Own w B (.slice (some ⟨g, 0, none⟩) (bs.length + 75) c) (bs.length + 75) ((bs ++ marks5) ++ List.replicate 70 206)) (hb : Bys bs) (hl : bs.length ≤ 140737488355328) : Rd w (.slice (some ⟨g, 0, none⟩) (bs.length + 75) c) ((bs ++ marks5) ++ List.replicate 70 206) :=
  h4.rd (Bys.app (Bys.app hb marks5_bys) (rep_bys _ _ (by decide))) (by omega)
theorem Laid.rd {w : World} {B : Nat} {u : Value} {bs : List Nat} (h : Laid w B u bs) (hb : Bys bs) (hl : bs.length ≤ 140737488355328) : Rd w u bs := by
  obtain ⟨g, c, rfl, h2, h3, h4⟩ := h
  have := (Laid.all h4 hb hl).upto bs.length (by omega)
  simpa using this

set_option maxRecDepth 100000 in
set_option maxHeartbeats 2000000 in
/-- What laid makes of bytes that it must cut. -/
theorem laid_cut {a : Option Addr} {n cap N : Nat} {bs : List Nat} {w : World} (hr : Rd w (.slice a n cap) bs) (hN : N ≤ 20000) (hcut : N < n) :
    Calls Try.prog 30 #[.slice a n cap, .int .i64 (N : Int)] w fun e w' => ∃ u, e = .returned u ∧ Laid w' w.heap.size u (bs.take N) ∧ Below w.heap.size w w' := by
  obtain ⟨hn, hle, hm, hl48⟩ := rd_lens hr
  have hcut' : (N : Int) < (n : Int) := by omega
  rcases rd_some hr with ⟨_, h1, _⟩ | ⟨b, off, rfl⟩
  · omega
  have r1 := hr.upto N (by omega)
  have i1 : (N : Int) ≤ (cap : Int) := by omega
  have i2 : (0 : Int) ≤ (N : Int) := by omega
  have HK : Hid ((bs.take N).length = N) := by unfold Hid; rw [List.length_take]; omega
  clear hn hr
  go_enter Try.func30, Try.ntmps30
  go_wp2_with fail
  refine (copied_any r1 (by rw [HK.out]; omega)).mono ?_
  rintro e w1 ⟨a1, m1, k1, rfl, own1, hb1⟩
  have hm1 : Hid (m1 = N) := by unfold Hid; rw [own1.1]; exact HK.out
  have hm1b : m1 ≤ 20000 := by have := hm1.out; omega
  go_wp2_with (at_builtin; refine wpList_append_new rfl _ _ rfl w.heap.size a1 m1 k1 _ rfl own1 [_, _, _, _, _] 5 rfl marks5 rfl rfl (by omega) hb1.size ?_; intro a6 m6 k6 w6 own6 hb6; refine Hid.out ?_)
  refine Lib.hid ?_
  have B6 := hb1.trans hb6
  have hm6 : Hid (m6 = N + 5) := by unfold Hid; rw [own6.1, List.length_append, ← own1.1, hm1.out]; rfl
  clear own1 hb1 hb6
  go_wp2
  go_loopw [5, 6] (fun s i wr => ∃ t a m c, t ≤ 70 ∧ i = .int .i64 ((t : Nat) : Int) ∧ s = .slice a m c ∧ Own wr w.heap.size (.slice a m c) m ((bs.take N ++ marks5) ++ List.replicate t 206) ∧ Below w.heap.size w wr) (fun _ i _ => 70 - (intOf i).toNat)
  case atStart => exact ⟨0, a6, m6, k6, by omega, rfl, rfl, by simpa using own6, B6⟩
  case round =>
    obtain ⟨t, a7, m7, k7, ht, rfl, rfl, own7, B7⟩ := hrel
    have hm7 : Hid (m7 = N + 5 + t) := by unfold Hid; rw [own7.1, List.length_append, List.length_append, HK.out, List.length_replicate]; rfl
    have hm7b : m7 ≤ 20100 := by have := hm7.out; omega
    by_cases hlt : t < 70
    · have hlt' : (t : Int) < 70 := by omega
      go_wp2_with (at_builtin; refine wpList_append_new rfl _ _ rfl w.heap.size a7 m7 k7 _ rfl own7 [_] 1 rfl [206] rfl rfl (by omega) B7.size ?_; intro a8 m8 k8 w8 own8 hb8)
      go_roundw
      case rel => exact ⟨t + 1, a8, m8, k8, by omega, by go_num, rfl, by rw [List.append_assoc, ← List.replicate_succ'] at own8; exact own8, B7.trans hb8⟩
      case measure => simp [intOf]; omega
    · have hge : (70 : Int) ≤ (t : Int) := by omega
      obtain rfl : t = 70 := by omega
      obtain ⟨g, he, hc1, hc2⟩ : ∃ g, a7 = some ⟨g, 0, none⟩ ∧ m7 ≤ k7 ∧ k7 ≤ maxLen := by
        rcases own7.2.2 with ⟨h1, h2⟩ | ⟨g, cp, cur, h1, h2, h3, h4, h5, h6⟩
        · have := hm7.out; omega
        · simp only [Value.slice.injEq] at h1
          exact ⟨g, h1.1, by omega, by omega⟩
      subst he
      have j1 : (N : Int) ≤ (k7 : Int) := by have := hm7.out; omega
      have j2 : (0 : Int) ≤ (N : Int) := by omega
      go_wp2
      go_ret
      refine ⟨_, rfl, ?_, B7⟩
      have e7 : m7 = (bs.take N).length + 75 := by rw [hm7.out, HK.out]
      subst e7
      refine ⟨g, k7, by rw [HK.out]; simp, by omega, hc2, own7⟩

set_option maxRecDepth 100000 in
set_option maxHeartbeats 2000000 in
/-- And of bytes that it leaves whole. -/
theorem laid_whole {a : Option Addr} {n cap N : Nat} {bs : List Nat} {w : World} (hr : Rd w (.slice a n cap) bs) (hN : N ≤ 20000) (hcut : n ≤ N) :
    Calls Try.prog 30 #[.slice a n cap, .int .i64 (N : Int)] w fun e w' => ∃ u, e = .returned u ∧ Laid w' w.heap.size u bs ∧ Below w.heap.size w w' := by
  obtain ⟨hn, hle, hm, hl48⟩ := rd_lens hr
  have hcut' : (n : Int) ≤ (N : Int) := by omega
  have HK : Hid (bs.length = n) := hn.symm
  clear hn
  go_enter Try.func30, Try.ntmps30
  go_wp2_with fail
  refine (copied_any hr (by rw [HK.out]; omega)).mono ?_
  rintro e w1 ⟨a1, m1, k1, rfl, own1, hb1⟩
  have hm1 : Hid (m1 = n) := by unfold Hid; rw [own1.1]; exact HK.out
  have hm1b : m1 ≤ 20000 := by have := hm1.out; omega
  go_wp2_with (at_builtin; refine wpList_append_new rfl _ _ rfl w.heap.size a1 m1 k1 _ rfl own1 [_, _, _, _, _] 5 rfl marks5 rfl rfl (by omega) hb1.size ?_; intro a6 m6 k6 w6 own6 hb6; refine Hid.out ?_)
  refine Lib.hid ?_
  have B6 := hb1.trans hb6
  have hm6 : Hid (m6 = n + 5) := by unfold Hid; rw [own6.1, List.length_append, ← own1.1, hm1.out]; rfl
  clear own1 hb1 hb6
  go_wp2
  go_loopw [5, 6] (fun s i wr => ∃ t a m c, t ≤ 70 ∧ i = .int .i64 ((t : Nat) : Int) ∧ s = .slice a m c ∧ Own wr w.heap.size (.slice a m c) m ((bs ++ marks5) ++ List.replicate t 206) ∧ Below w.heap.size w wr) (fun _ i _ => 70 - (intOf i).toNat)
  case atStart => exact ⟨0, a6, m6, k6, by omega, rfl, rfl, by simpa using own6, B6⟩
  case round =>
    obtain ⟨t, a7, m7, k7, ht, rfl, rfl, own7, B7⟩ := hrel
    have hm7 : Hid (m7 = n + 5 + t) := by unfold Hid; rw [own7.1, List.length_append, List.length_append, HK.out, List.length_replicate]; rfl
    have hm7b : m7 ≤ 20100 := by have := hm7.out; omega
    by_cases hlt : t < 70
    · have hlt' : (t : Int) < 70 := by omega
      go_wp2_with (at_builtin; refine wpList_append_new rfl _ _ rfl w.heap.size a7 m7 k7 _ rfl own7 [_] 1 rfl [206] rfl rfl (by omega) B7.size ?_; intro a8 m8 k8 w8 own8 hb8)
      go_roundw
      case rel => exact ⟨t + 1, a8, m8, k8, by omega, by go_num, rfl, by rw [List.append_assoc, ← List.replicate_succ'] at own8; exact own8, B7.trans hb8⟩
      case measure => simp [intOf]; omega
    · have hge : (70 : Int) ≤ (t : Int) := by omega
      obtain rfl : t = 70 := by omega
      obtain ⟨g, he, hc1, hc2⟩ : ∃ g, a7 = some ⟨g, 0, none⟩ ∧ m7 ≤ k7 ∧ k7 ≤ maxLen := by
        rcases own7.2.2 with ⟨h1, h2⟩ | ⟨g, cp, cur, h1, h2, h3, h4, h5, h6⟩
        · have := hm7.out; omega
        · simp only [Value.slice.injEq] at h1
          exact ⟨g, h1.1, by omega, by omega⟩
      subst he
      have j1 : (n : Int) ≤ (k7 : Int) := by have := hm7.out; omega
      have j2 : (0 : Int) ≤ (n : Int) := by omega
      go_wp2
      go_ret
      refine ⟨_, rfl, ?_, B7⟩
      have e7 : m7 = (bs).length + 75 := by rw [hm7.out, HK.out]
      subst e7
      refine ⟨g, k7, by rw [HK.out]; simp, by omega, hc2, own7⟩

theorem laid_any {v : Value} {N : Nat} {bs : List Nat} {w : World} (hr : Rd w v bs) (hN : N ≤ 20000) :
    Calls Try.prog 30 #[v, .int .i64 (N : Int)] w fun e w' => ∃ u, e = .returned u ∧ Laid w' w.heap.size u (bs.take N) ∧ Below w.heap.size w w' := by
  obtain ⟨a, n, cap, rfl⟩ := rd_slice hr
  by_cases h : N < n
  · exact laid_cut hr hN h
  · have e : bs.take N = bs := List.take_of_length_le (by rw [← (rd_lens hr).1]; omega)
    rw [e]
    exact laid_whole hr hN (by omega)

set_option maxRecDepth 100000 in
set_option maxHeartbeats 1000000 in
theorem intact_any {u v : Value} {B : Nat} {bs : List Nat} {w : World} (hl : Laid w B u bs) (hv : Rd w v bs) (h20 : bs.length ≤ 20000) :
    Calls Try.prog 36 #[u, v] w fun e w' => e = .returned (.bool true) ∧ Below w.heap.size w w' := by
  have ru := hl.rd hv.1 (by omega)
  obtain ⟨g, c, rfl, h2, h3, h4⟩ := hl
  have rall := Laid.all h4 hv.1 (by omega)
  obtain ⟨a, n, cap, rfl⟩ := rd_slice hv
  have hn : n = bs.length := (rd_lens hv).1
  have HM : Hid (∀ w', Below w.heap.size w w' → Rd w' (.slice (some ⟨g, n, none⟩) 5 (c - n)) marks5) := fun w' hb => by
    have r1 := ((rall.later hb).upto (bs.length + 5) (by omega)).past bs.length (by omega) (off' := n) (n' := 5) (cap' := c - n) (by omega) (by omega) (by omega)
    have e : (((bs ++ marks5) ++ List.replicate 70 206).take (bs.length + 5)).drop bs.length = marks5 := by
      have e1 : (((bs ++ marks5) ++ List.replicate 70 206).take (bs.length + 5)) = bs ++ marks5 := by
        rw [List.take_append_of_le_length (by simp [marks5]), List.take_of_length_le (by simp [marks5])]
      rw [e1, List.drop_left]
    rw [e] at r1
    exact r1
  have HN : Hid (n = bs.length) := hn
  have q1 : ((n : Int) + 5 ≤ (c : Int)) := by omega
  have q2 : (0 : Int) ≤ (n : Int) := by omega
  have q3 : (n : Int) ≤ 20000 := by omega
  rw [← hn] at ru ⊢
  clear h4 rall hn
  go_enter Try.func36, Try.ntmps36
  go_wp2_with fail
  refine (alike_same ru hv).mono ?_
  rintro e w1 ⟨rfl, hb1⟩
  have hb2 := hb1.trans (((Below.refl w1.heap.size w1).alloc (Nat.le_refl _) (.cells (bv marks5).toArray 5)).mono hb1.size)
  have rm : Rd (w1.alloc (.cells (bv marks5).toArray 5)) (.slice (some ⟨w1.heap.size, 0, none⟩) 5 5) marks5 := by
    have o : Own (w1.alloc (.cells (bv marks5).toArray 5)) w1.heap.size (.slice (some ⟨w1.heap.size, 0, none⟩) 5 5) 5 marks5 := ⟨rfl, rfl, .inr ⟨w1.heap.size, 5, (bv marks5).toArray, rfl, Nat.le_refl _, heap_new w1 _, Nat.le_refl _, by decide, rfl, rfl⟩⟩
    exact o.rd marks5_bys (by decide)
  have rm2 := HM.out _ hb2
  have HRM : Hid (_ ∧ _ ∧ _) := ⟨rm, rm2, hb2⟩
  clear rm rm2 hb2 HM
  simp only [bv, marks5, List.map_cons, List.map_nil] at HRM
  go_wp2_with fail
  refine (alike_same HRM.out.2.1 HRM.out.1).mono ?_
  rintro e w3 ⟨rfl, hb3⟩
  go_wp2
  go_ret
  exact ⟨rfl, HRM.out.2.2.trans (hb3.mono HRM.out.2.2.size)⟩
end Go.Proofs.Ythpdlclgiggekaa
