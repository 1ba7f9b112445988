import Derived.Test.YtncbiohmogmcpaaDoorFrame
namespace Go.Proofs.YtncbiohmogmcpaaDoor
open Go.RowKit
set_option linter.unusedVariables false

theorem RdP.one {w : World} {u : Value} {bs : List Nat} (h : Rd w u bs) : RdP (w.alloc (.cells #[u] 27)) (.slice (some ⟨w.heap.size, 0, none⟩) 1 1) [bs] := by
  refine ⟨by simp, _, 1, rfl, .inr ⟨w.heap.size, 0, rfl, fun i hi => ?_⟩⟩
  have hi0 : i = 0 := by simp at hi; exact hi
  subst hi0
  refine ⟨u, ?_, ?_⟩
  · exact news_new w [u] 27 0 u rfl
  · exact h.later ((Below.refl _ _).alloc (Nat.le_refl _) _)

def frameL (body : List Nat) : List Nat := ((be4 body.length ++ le4 (sumL (be4 body.length))) ++ body) ++ le4 (sumL body)

theorem sumL_lt (bs : List Nat) : sumL bs < 4294967296 := by unfold sumL; omega

theorem be4_bys (n : Nat) (h : n < 4294967296) : Bys (be4 n) := by
  intro x hx; simp [be4] at hx; omega
theorem le4_bys (n : Nat) (h : n < 4294967296) : Bys (le4 n) := by
  intro x hx; simp [le4] at hx; omega
theorem Bys.app {a b : List Nat} (ha : Bys a) (hb : Bys b) : Bys (a ++ b) := by
  intro x hx
  rcases List.mem_append.1 hx with h | h
  · exact ha x h
  · exact hb x h
theorem frameL_bys (body : List Nat) (h : Bys body) (hl : body.length ≤ 1048576) : Bys (frameL body) :=
  (((be4_bys _ (by omega)).app (le4_bys _ (sumL_lt _))).app h).app (le4_bys _ (sumL_lt _))

set_option maxRecDepth 100000 in
set_option maxHeartbeats 400000 in
theorem frame_long {v : Value} {bs : List Nat} {w : World} (hr : Rd w v bs) (hl : 1048576 < bs.length) :
    Calls Tryd.prog 29 #[v] w fun e w' => e = .returned (.tuple #[.slice none 0 0, .int .i64 2]) ∧ w' = w := by
  obtain ⟨hby, a, cap, rfl, hle, hm, hl48, hnone, hat⟩ := hr
  generalize bs.length = n at *
  have h1 : (1048576 : Int) < (n : Int) := by omega
  go_enter Tryd.func29, Tryd.ntmps29
  go_wp2
  go_ret2
  exact ⟨rfl, rfl⟩

theorem own_app {w1 : World} {B n m : Nat} {v : Value} {acc bs : List Nat} (h : w1.ownsRow B 5 1 v (n + m) (bv acc ++ bv bs)) (hn : n = acc.length) (hm : m = bs.length) :
    w1.ownsRow B 5 1 v (acc ++ bs).length (bv (acc ++ bs)) := by
  subst hn; subst hm
  simpa [bv] using h

set_option maxRecDepth 100000 in
set_option maxHeartbeats 1000000 in
theorem frame_ok {v : Value} {bs : List Nat} {w : World} (hr : Rd w v bs) (ht : Tab w) (hl : bs.length ≤ 1048576) :
    Calls Tryd.prog 29 #[v] w fun e w' => ∃ a m c, e = .returned (.tuple #[.slice a m c, .int .i64 0]) ∧ Own w' w.heap.size (.slice a m c) m (frameL bs) ∧ Below w.heap.size w w' := by
  obtain ⟨i0, hi, hz0, hz1, hz2⟩ := info_parts info_byte
  have hr0 := hr
  obtain ⟨hby, a, cap, rfl, hle, hm, hl48, hnone, hat⟩ := hr
  obtain ⟨n, hn⟩ : ∃ n, n = bs.length := ⟨_, rfl⟩
  rw [← hn] at hr0 hl hle hl48 ⊢
  have HN : Hid (n = bs.length) := hn
  clear hn
  have h1 : (n : Int) ≤ 1048576 := by omega
  have HAT : Hid (At w a bs) := hat
  clear hat hnone
  go_enter Tryd.func29, Tryd.ntmps29
  go_wp2_with (at_make; refine wpList_make_own _ rfl _ _ 27 rfl w.heap.size 5 i0 (.int .u8 0) 1 und_bytes hi hz0 hz1 .i64 .i64 _ (8 + n + 4) rfl rfl ?c0 ?c1 ?c2 ?c3 ?_)
  case c0 => omega
  case c1 => rw [hz2]; omega
  case c2 => unfold maxLen; omega
  case c3 => omega
  intro w1 hown1 hg1
  have hb1 : Below w.heap.size w w1 := (Below.refl _ w).grown hg1 (Nat.le_refl _) (fun k hk => by simp at hk)
  have hs1 := hb1.size
  clear hg1
  go_wp2_with fail
  refine (handed (appendLength_any (B := w.heap.size) (acc := []) n (by omega) hown1 hs1 (by simp))).mono ?_
  rintro e w2 ⟨a2, m2, c2, rfl, own2, hb2⟩
  have hb2' := hb1.trans hb2
  have hs2 := hb2'.size
  have hl2 : m2 = 4 := own2.1
  have own2' : Own w2 w.heap.size (.slice a2 m2 c2) m2 (be4 n) := own2
  have HL2 : Hid (m2 = 4) := hl2
  clear hown1 hb1 hb2 own2 hl2
  go_wp2_with fail
  refine (sum_any (RdP.one (own2'.rd (be4_bys n (by omega)) (by rw [HL2.out]; omega))) ((ht.later hb2').later ((Below.refl _ _).alloc (Nat.le_refl _) _))).mono ?_
  rintro e w3 ⟨rfl, rfl⟩
  obtain ⟨q3, hq3⟩ : ∃ q3, q3 = sumL [be4 n].flatten := ⟨_, rfl⟩
  rw [← hq3]
  have HQ3 : Hid (q3 = sumL (be4 n)) := by rw [hq3]; simp [Hid]
  have lq3 : q3 < 4294967296 := hq3 ▸ sumL_lt _
  clear hq3
  go_wp2_with fail
  refine (handed (appendSum_any (B := w.heap.size) (acc := be4 n) q3 lq3 (own2'.own.alloc _) (by simp; omega) (by simp [be4]))).mono ?_
  rintro e w4 ⟨a4, m4, c4, rfl, own4, hb4⟩
  have hb4' := (hb2'.alloc hs2 _).trans hb4
  have hs4 := hb4'.size
  have HL4 : Hid (m4 = 8) := own4.1
  have bd4 : m4 ≤ 8 := by rw [HL4.out]; omega
  clear hb4 own2' hb2'
  go_wp2_with (at_builtin; refine wpList_append_at rfl _ _ rfl w.heap.size a4 m4 c4 _ rfl own4 a n cap bs rfl (hr0.later hb4') (by omega) hs4 ?_; intro a5 m5 c5 w5 own5 hb5)
  have hb5' := hb4'.trans hb5
  have hs5 := hb5'.size
  have HL5 : Hid (m5 = 8 + n) := by rw [own5.1, HN.out]; simp [be4, le4, Hid]; omega
  have bd5 : m5 ≤ 8 + n := by rw [HL5.out]; omega
  clear own4 hb5
  refine (sum_any (RdP.one (hr0.later hb5')) ((ht.later hb5').later ((Below.refl _ _).alloc (Nat.le_refl _) _))).mono ?_
  rintro e w6 ⟨rfl, rfl⟩
  obtain ⟨q6, hq6⟩ : ∃ q6, q6 = sumL [bs].flatten := ⟨_, rfl⟩
  rw [← hq6]
  have HQ6 : Hid (q6 = sumL bs) := by rw [hq6]; simp [Hid]
  have lq6 : q6 < 4294967296 := hq6 ▸ sumL_lt _
  clear hq6
  go_wp2_with fail
  refine (handed (appendSum_any (B := w.heap.size) q6 lq6 (own5.own.alloc _) (by simp; omega) (by rw [← own5.1]; omega))).mono ?_
  rintro e w7 ⟨a7, m7, c7, rfl, own7, hb7⟩
  have hb7' := (hb5'.alloc hs5 _).trans hb7
  clear hb7 own5 hb5'
  go_wp2
  go_ret2
  refine ⟨a7, m7, c7, rfl, ?_, hb7'⟩
  have e3 := HQ3.out
  have e6 := HQ6.out
  have en := HN.out
  subst e3 e6 en
  exact own7

end Go.Proofs.YtncbiohmogmcpaaDoor
