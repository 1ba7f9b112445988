import Derived.Test.YtbfeecnhmlcfaaaDoorCutsM
import Derived.OpenShut
import Derived.Deep.DeepCutAuto
namespace Go.Proofs.YtbfeecnhmlcfaaaDoor
open Go.RowKit
set_option linter.unusedVariables false

/-- Where the cut lies. -/
theorem cut_place (z : Int) (n : Nat) (hn : 0 < n) : ∃ k : Nat, k < n ∧ ((0 ≤ z.tmod (n : Int) ∧ z.tmod (n : Int) = (k : Int)) ∨ (z.tmod (n : Int) < 0 ∧ z.tmod (n : Int) + (n : Int) = (k : Int))) := by
  have h1 : z.tmod (n : Int) < (n : Int) := Int.tmod_lt_of_pos z (by omega)
  have h2 : -(n : Int) < z.tmod (n : Int) := by
    have := Int.tmod_lt_of_pos (-z) (show (0 : Int) < (n : Int) by omega)
    rw [Int.neg_tmod] at this
    omega
  by_cases h : z.tmod (n : Int) < 0
  · obtain ⟨k, hk⟩ := Int.eq_ofNat_of_zero_le (show 0 ≤ z.tmod (n : Int) + (n : Int) by omega)
    exact ⟨k, by omega, .inr ⟨h, hk⟩⟩
  · obtain ⟨k, hk⟩ := Int.eq_ofNat_of_zero_le (show 0 ≤ z.tmod (n : Int) by omega)
    exact ⟨k, by omega, .inl ⟨by omega, hk⟩⟩

theorem readBytes_at {v : Value} {bs : List Nat} {w : World} (hr : Rd w v bs) (z y : Int) (k most : Nat) (hz : z = (k : Int)) (hy : y = (most : Int)) (hk : k ≤ bs.length) (hmost : most < 9223372036854775808) (h47 : bs.length ≤ 140737488355328) {L : List Nat} {P E : Nat} (h : bytesR bs k most = (L, P, E)) :
    Calls Tryd.prog 26 #[v, .int .i64 z, .int .i64 y] w fun e w' => ∃ a m c, e = .returned (.tuple #[.slice a m c, .int .i64 ((P : Nat) : Int), .int .i64 ((E : Nat) : Int)]) ∧ Own w' w.heap.size (.slice a m c) m L ∧ Below w.heap.size w w' := by
  subst hz hy
  have := readBytes_in hr k most hk hmost h47
  rw [h] at this
  exact this
theorem readOrdered_at {v : Value} {bs : List Nat} {w : World} (hr : Rd w v bs) (z : Int) (k : Nat) (hz : z = (k : Int)) (hk : k ≤ bs.length) (h47 : bs.length ≤ 140737488355328) {L : List Nat} {P E : Nat} (h : ordR bs k = (L, P, E)) :
    Calls Tryd.prog 32 #[v, .int .i64 z] w fun e w' => ∃ a m c, e = .returned (.tuple #[.slice a m c, .int .i64 ((P : Nat) : Int), .int .i64 ((E : Nat) : Int)]) ∧ Own w' w.heap.size (.slice a m c) m L ∧ Below w.heap.size w w' := by
  subst hz
  have := readOrdered_in hr k hk h47
  rw [h] at this
  exact this
theorem readFalling_at {v : Value} {bs : List Nat} {w : World} (hr : Rd w v bs) (z : Int) (k : Nat) (hz : z = (k : Int)) (hk : k ≤ bs.length) {V P E : Nat} (h : fallR bs k = (V, P, E)) :
    Calls Tryd.prog 34 #[v, .int .i64 z] w fun e w' => e = .returned (.tuple #[.int .i64 ((V : Nat) : Int), .int .i64 ((P : Nat) : Int), .int .i64 ((E : Nat) : Int)]) ∧ w' = w := by
  subst hz
  have := readFalling_in hr k hk
  rw [h] at this
  exact this

set_option maxRecDepth 100000 in
set_option maxHeartbeats 8000000 in
theorem cuts_walk {v : Nat} (hv : v < 18446744073709551616) {vb : Value} {bs : List Nat} {w : World} (z : Int) (hb : Rd w vb bs) (ht : Tab w) (hl : bs.length ≤ 1048576) :
    Calls Tryd.prog 9 #[.int .u64 (v : Int), vb, .int .i64 z] w fun e w' => e = .returned (.bool true) ∧ Below w.heap.size w w' := by
  obtain ⟨a, n, cap, rfl⟩ := rd_slice hb
  obtain ⟨hn, hle, hm, hl48⟩ := rd_lens hb
  rw [← hn] at hl
  have HN : Hid (n = bs.length) := hn
  have HORD : Hid ((ordL bs).length ≤ 4194304) := by
    unfold Hid
    have h1 := ordL_len bs
    have h2 : bs.count 0 ≤ bs.length := List.count_le_length
    omega
  clear hn
  go_enter Tryd.func9, Tryd.ntmps9
  go_wp2_with fail
  refine (written_any v hv hb ht (by rw [← HN.out]; exact hl)).mono ?_
  rintro e w1 ⟨g, c, rfl, ⟨u0, u1, u2, u3, u4, u5, hcell, r0, r1, r2, r3, r4, r5⟩, hb1⟩
  have hs1 := hb1.size
  have HC : Hid (∀ (j : Nat) (x : Value), [u0, Value.int IntKind.i64 2, u1, Value.int IntKind.i64 6, u2, Value.int IntKind.i64 8, u3, Value.int IntKind.i64 4, u4, Value.int IntKind.i64 10, u5, Value.int IntKind.i64 13][j]? = some x → w1.cell? { block := g, off := j } = some x) := hcell
  clear hcell
  have ht1 := ht.later hb1
  go_wp2
  go_loopw [8] (fun i wr => ∃ t : Nat, t ≤ 6 ∧ i = .int .i64 (t : Int) ∧ Below w1.heap.size w1 wr) (fun i _ => 6 - (intOf i).toNat)
  case atStart => exact ⟨0, Nat.zero_le _, rfl, Below.refl _ _⟩
  case round =>
    obtain ⟨t, ht6, rfl, hbr⟩ := hrel
    by_cases hlt : t < 6
    · have cellr : ∀ (j : Nat) (x : Value), w1.cell? ⟨g, j, none⟩ = some x → wr.cell? ⟨g, j, none⟩ = some x := by
        intro j x h
        rw [hbr.cell (p := ⟨g, j, none⟩) (World.block_lt_of_cell? w1 _ h)]; exact h
      have hsr := hbr.size
      have htr := ht1.later hbr
      rcases (show t = 0 ∨ t = 1 ∨ t = 2 ∨ t = 3 ∨ t = 4 ∨ t = 5 by omega) with rfl | rfl | rfl | rfl | rfl | rfl
      · have hlen : 1 ≤ (uintL v).length ∧ (uintL v).length ≤ 1048600 := by have := uintL_len v; omega
        obtain ⟨au, nu, cu, rfl⟩ := rd_slice r0
        obtain ⟨hnu, hleu, hmu, hl48u⟩ := rd_lens r0
        unfold maxLen at hmu
        rw [← hnu] at hlen
        have HNU : Hid (nu = (uintL v).length) := hnu
        clear hnu
        have hc0 := cellr _ _ (HC.out 0 _ rfl)
        have hc1 := cellr _ _ (HC.out 1 _ rfl)
        obtain ⟨b0, o0, rfl⟩ : ∃ b o, au = some ⟨b, o, none⟩ := by
          rcases rd_some r0 with ⟨h0, _⟩ | h
          · omega
          · exact h
        have ru := r0.later hbr
        have hnz : ¬ ((nu : Int) = 0) := by omega
        have hnz2 : ¬ (nu = 0) := by omega
        obtain ⟨kk, hkk, hcase⟩ := cut_place z nu (by omega)
        have HCUT : Hid (uintR ((uintL v).take kk) 0 = (0, 0, 10)) := uint_cut v kk (by rw [← HNU.out]; exact hkk)
        have hkc : (kk : Int) ≤ (cu : Int) := by omega
        clear r0 r1 r2 r3 r4 r5 cellr
        rcases hcase with ⟨hq, hq2⟩ | ⟨hq, hq2⟩
        all_goals (
          go_wp2_with fail
          refine (readUint_at (ru.upto kk (by omega)) _ 0 rfl (Nat.zero_le _) HCUT.out).mono ?_
          rintro e w2 ⟨rfl, rfl⟩
          go_wp2_with fail
          refine (num_any _ _).mono ?_
          rintro e w3 ⟨rfl, rfl⟩
          go_wp2
          go_roundw
          case rel => exact ⟨1, by omega, by go_num, hbr⟩
          case measure => simp [intOf])
      · have hlen : 1 ≤ (be8 (v / 2)).length ∧ (be8 (v / 2)).length ≤ 1048600 := by simp [be8]
        obtain ⟨au, nu, cu, rfl⟩ := rd_slice r1
        obtain ⟨hnu, hleu, hmu, hl48u⟩ := rd_lens r1
        unfold maxLen at hmu
        rw [← hnu] at hlen
        have HNU : Hid (nu = (be8 (v / 2)).length) := hnu
        clear hnu
        have hc0 := cellr _ _ (HC.out 2 _ rfl)
        have hc1 := cellr _ _ (HC.out 3 _ rfl)
        obtain ⟨b0, o0, rfl⟩ : ∃ b o, au = some ⟨b, o, none⟩ := by
          rcases rd_some r1 with ⟨h0, _⟩ | h
          · omega
          · exact h
        have ru := r1.later hbr
        have hnz : ¬ ((nu : Int) = 0) := by omega
        have hnz2 : ¬ (nu = 0) := by omega
        obtain ⟨kk, hkk, hcase⟩ := cut_place z nu (by omega)
        have HCUT : Hid (riseR ((be8 (v / 2)).take kk) 0 = (0, 0, 10)) := rise_cut _ kk (by have := HNU.out; simp [be8] at this; omega)
        have hkc : (kk : Int) ≤ (cu : Int) := by omega
        clear r0 r1 r2 r3 r4 r5 cellr
        rcases hcase with ⟨hq, hq2⟩ | ⟨hq, hq2⟩
        all_goals (
          go_wp2_with fail
          refine (readRising_at (ru.upto kk (by omega)) _ 0 rfl (Nat.zero_le _) HCUT.out).mono ?_
          rintro e w2 ⟨rfl, rfl⟩
          go_wp2_with fail
          refine (num_any _ _).mono ?_
          rintro e w3 ⟨rfl, rfl⟩
          go_wp2
          go_roundw
          case rel => exact ⟨2, by omega, by go_num, hbr⟩
          case measure => simp [intOf])
      · have hlen : 1 ≤ (be8 (9223372036854775807 - v / 2)).length ∧ (be8 (9223372036854775807 - v / 2)).length ≤ 1048600 := by simp [be8]
        obtain ⟨au, nu, cu, rfl⟩ := rd_slice r2
        obtain ⟨hnu, hleu, hmu, hl48u⟩ := rd_lens r2
        unfold maxLen at hmu
        rw [← hnu] at hlen
        have HNU : Hid (nu = (be8 (9223372036854775807 - v / 2)).length) := hnu
        clear hnu
        have hc0 := cellr _ _ (HC.out 4 _ rfl)
        have hc1 := cellr _ _ (HC.out 5 _ rfl)
        obtain ⟨b0, o0, rfl⟩ : ∃ b o, au = some ⟨b, o, none⟩ := by
          rcases rd_some r2 with ⟨h0, _⟩ | h
          · omega
          · exact h
        have ru := r2.later hbr
        have hnz : ¬ ((nu : Int) = 0) := by omega
        have hnz2 : ¬ (nu = 0) := by omega
        obtain ⟨kk, hkk, hcase⟩ := cut_place z nu (by omega)
        have HCUT : Hid (fallR ((be8 (9223372036854775807 - v / 2)).take kk) 0 = (0, 0, 10)) := fall_cut _ kk (by have := HNU.out; simp [be8] at this; omega)
        have hkc : (kk : Int) ≤ (cu : Int) := by omega
        clear r0 r1 r2 r3 r4 r5 cellr
        rcases hcase with ⟨hq, hq2⟩ | ⟨hq, hq2⟩
        all_goals (
          go_wp2_with fail
          refine (readFalling_at (ru.upto kk (by omega)) _ 0 rfl (Nat.zero_le _) HCUT.out).mono ?_
          rintro e w2 ⟨rfl, rfl⟩
          go_wp2_with fail
          refine (num_any _ _).mono ?_
          rintro e w3 ⟨rfl, rfl⟩
          go_wp2
          go_roundw
          case rel => exact ⟨3, by omega, by go_num, hbr⟩
          case measure => simp [intOf])
      · have hlen : 1 ≤ (bytesL bs).length ∧ (bytesL bs).length ≤ 1048600 := by have := uintL_len bs.length; have := HN.out; unfold bytesL; rw [List.length_append]; omega
        obtain ⟨au, nu, cu, rfl⟩ := rd_slice r3
        obtain ⟨hnu, hleu, hmu, hl48u⟩ := rd_lens r3
        unfold maxLen at hmu
        rw [← hnu] at hlen
        have HNU : Hid (nu = (bytesL bs).length) := hnu
        clear hnu
        have hc0 := cellr _ _ (HC.out 6 _ rfl)
        have hc1 := cellr _ _ (HC.out 7 _ rfl)
        obtain ⟨b0, o0, rfl⟩ : ∃ b o, au = some ⟨b, o, none⟩ := by
          rcases rd_some r3 with ⟨h0, _⟩ | h
          · omega
          · exact h
        have ru := r3.later hbr
        have hnz : ¬ ((nu : Int) = 0) := by omega
        have hnz2 : ¬ (nu = 0) := by omega
        obtain ⟨kk, hkk, hcase⟩ := cut_place z nu (by omega)
        have HCUT : Hid (bytesR ((bytesL bs).take kk) 0 bs.length = ([], 0, 10)) := bytes_cut bs (by rw [← HN.out]; omega) kk (by rw [← HNU.out]; exact hkk)
        have hkc : (kk : Int) ≤ (cu : Int) := by omega
        clear r0 r1 r2 r3 r4 r5 cellr
        rcases hcase with ⟨hq, hq2⟩ | ⟨hq, hq2⟩
        all_goals (
          go_wp2_with fail
          refine (readBytes_at (ru.upto kk (by omega)) _ _ 0 bs.length rfl (by rw [← HN.out]) (Nat.zero_le _) (by rw [← HN.out]; omega) (by rw [List.length_take]; omega) HCUT.out).mono ?_
          rintro e w2 ⟨a2, m2, c2, rfl, own2, hb2⟩
          clear own2
          go_wp2_with fail
          refine (num_any _ _).mono ?_
          rintro e w3 ⟨rfl, rfl⟩
          go_wp2
          go_roundw
          case rel => exact ⟨4, by omega, by go_num, hbr.trans (hb2.mono hsr)⟩
          case measure => simp [intOf])
      · have hlen : 1 ≤ (ordL bs).length ∧ (ordL bs).length ≤ 4194304 := by have := HORD.out; refine ⟨?_, this⟩; unfold ordL; simp
        obtain ⟨au, nu, cu, rfl⟩ := rd_slice r4
        obtain ⟨hnu, hleu, hmu, hl48u⟩ := rd_lens r4
        unfold maxLen at hmu
        rw [← hnu] at hlen
        have HNU : Hid (nu = (ordL bs).length) := hnu
        clear hnu
        have hc0 := cellr _ _ (HC.out 8 _ rfl)
        have hc1 := cellr _ _ (HC.out 9 _ rfl)
        obtain ⟨b0, o0, rfl⟩ : ∃ b o, au = some ⟨b, o, none⟩ := by
          rcases rd_some r4 with ⟨h0, _⟩ | h
          · omega
          · exact h
        have ru := r4.later hbr
        have hnz : ¬ ((nu : Int) = 0) := by omega
        have hnz2 : ¬ (nu = 0) := by omega
        obtain ⟨kk, hkk, hcase⟩ := cut_place z nu (by omega)
        have HCUT : Hid (ordR ((ordL bs).take kk) 0 = ([], 0, 10)) := ord_cut bs kk (by rw [← HNU.out]; exact hkk)
        have hkc : (kk : Int) ≤ (cu : Int) := by omega
        clear r0 r1 r2 r3 r4 r5 cellr
        rcases hcase with ⟨hq, hq2⟩ | ⟨hq, hq2⟩
        all_goals (
          go_wp2_with fail
          refine (readOrdered_at (ru.upto kk (by omega)) _ 0 rfl (Nat.zero_le _) (by rw [List.length_take]; omega) HCUT.out).mono ?_
          rintro e w2 ⟨a2, m2, c2, rfl, own2, hb2⟩
          clear own2
          go_wp2_with fail
          refine (num_any _ _).mono ?_
          rintro e w3 ⟨rfl, rfl⟩
          go_wp2
          go_roundw
          case rel => exact ⟨5, by omega, by go_num, hbr.trans (hb2.mono hsr)⟩
          case measure => simp [intOf])
      · have hlen : 1 ≤ (frameL bs).length ∧ (frameL bs).length ≤ 1048600 := by have := HN.out; simp [frameL, be4, le4]; omega
        obtain ⟨au, nu, cu, rfl⟩ := rd_slice r5
        obtain ⟨hnu, hleu, hmu, hl48u⟩ := rd_lens r5
        unfold maxLen at hmu
        rw [← hnu] at hlen
        have HNU : Hid (nu = (frameL bs).length) := hnu
        clear hnu
        have hc0 := cellr _ _ (HC.out 10 _ rfl)
        have hc1 := cellr _ _ (HC.out 11 _ rfl)
        obtain ⟨b0, o0, rfl⟩ : ∃ b o, au = some ⟨b, o, none⟩ := by
          rcases rd_some r5 with ⟨h0, _⟩ | h
          · omega
          · exact h
        have ru := r5.later hbr
        have hnz : ¬ ((nu : Int) = 0) := by omega
        have hnz2 : ¬ (nu = 0) := by omega
        obtain ⟨kk, hkk, hcase⟩ := cut_place z nu (by omega)
        have HCUT : Hid (frameR ((frameL bs).take kk) 0 = ([], 0, 10)) := frame_cut bs (by rw [← HN.out]; exact hl) kk (by rw [← HNU.out]; exact hkk)
        have hkc : (kk : Int) ≤ (cu : Int) := by omega
        clear r0 r1 r2 r3 r4 r5 cellr
        rcases hcase with ⟨hq, hq2⟩ | ⟨hq, hq2⟩
        all_goals (
          go_wp2_with fail
          refine (readFrame_at (ru.upto kk (by omega)) htr _ 0 rfl (Nat.zero_le _) (by rw [List.length_take]; omega) HCUT.out).mono ?_
          rintro e w2 ⟨a2, m2, c2, rfl, own2, hb2⟩
          clear own2
          go_wp2_with fail
          refine (num_any _ _).mono ?_
          rintro e w3 ⟨rfl, rfl⟩
          go_wp2
          go_roundw
          case rel => exact ⟨6, by omega, by go_num, hbr.trans (hb2.mono hsr)⟩
          case measure => simp [intOf])
    · have ht66 : t = 6 := by omega
      subst ht66
      go_wp2_with fail
      refine (started_any (ht1.later hbr)).mono ?_
      rintro e w9 ⟨rfl, hb9⟩
      have hb9' := hb1.trans ((hbr.trans (hb9.mono hbr.size)).mono hs1)
      clear hb9
      go_wp2
      go_ret
      exact ⟨rfl, hb9'⟩

theorem cuts_walk2 (x z : Int) {vb : Value} {bs : List Nat} {w : World} (wx : (Lit.int .u64 x).wf = true) (hb : Rd w vb bs) (ht : Tab w) (hl : bs.length ≤ 1048576) :
    Calls Tryd.prog 9 #[.int .u64 x, vb, .int .i64 z] w fun e w' => e = .returned (.bool true) ∧ Below w.heap.size w w' := by
  have h2 := bounds_u64 wx
  obtain ⟨s, rfl⟩ := Int.eq_ofNat_of_zero_le h2.1
  exact cuts_walk (by omega) z hb ht hl

end Go.Proofs.YtbfeecnhmlcfaaaDoor
