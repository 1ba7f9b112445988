import Derived.Test.YtbfeecnhmlcfaaaDoorBackM
import Derived.Deep.DeepCutAuto
namespace Go.Proofs.YtbfeecnhmlcfaaaDoor
open Go.RowKit
set_option linter.unusedVariables false

theorem readBytes_atB {v : Value} {bs : List Nat} {w : World} (hr : Rd w v bs) (z y : Int) (k most : Nat) (hz : z = (k : Int)) (hy : y = (most : Int)) (hk : k ≤ bs.length) (hmost : most < 9223372036854775808) (h47 : bs.length ≤ 140737488355328) {L : List Nat} {P E : Nat} (h : bytesR bs k most = (L, P, E)) :
    Calls Tryd.prog 26 #[v, .int .i64 z, .int .i64 y] w fun e w' => ∃ a m c, e = .returned (.tuple #[.slice a m c, .int .i64 ((P : Nat) : Int), .int .i64 ((E : Nat) : Int)]) ∧ Own w' w.heap.size (.slice a m c) m L ∧ Below w.heap.size w w' := by
  subst hz hy
  have := readBytes_in hr k most hk hmost h47
  rw [h] at this
  exact this
theorem readOrdered_atB {v : Value} {bs : List Nat} {w : World} (hr : Rd w v bs) (z : Int) (k : Nat) (hz : z = (k : Int)) (hk : k ≤ bs.length) (h47 : bs.length ≤ 140737488355328) {L : List Nat} {P E : Nat} (h : ordR bs k = (L, P, E)) :
    Calls Tryd.prog 32 #[v, .int .i64 z] w fun e w' => ∃ a m c, e = .returned (.tuple #[.slice a m c, .int .i64 ((P : Nat) : Int), .int .i64 ((E : Nat) : Int)]) ∧ Own w' w.heap.size (.slice a m c) m L ∧ Below w.heap.size w w' := by
  subst hz
  have := readOrdered_in hr k hk h47
  rw [h] at this
  exact this
theorem readFalling_atB {v : Value} {bs : List Nat} {w : World} (hr : Rd w v bs) (z : Int) (k : Nat) (hz : z = (k : Int)) (hk : k ≤ bs.length) {V P E : Nat} (h : fallR bs k = (V, P, E)) :
    Calls Tryd.prog 34 #[v, .int .i64 z] w fun e w' => e = .returned (.tuple #[.int .i64 ((V : Nat) : Int), .int .i64 ((P : Nat) : Int), .int .i64 ((E : Nat) : Int)]) ∧ w' = w := by
  subst hz
  have := readFalling_in hr k hk
  rw [h] at this
  exact this

set_option maxRecDepth 100000 in
set_option maxHeartbeats 2000000 in
theorem reads_uint {va vb : Value} {A : List Nat} {w : World} (ra : Rd w va A) (k : Nat) (hk : k ≤ A.length) {V P : Nat} (h : uintR A k = (V, P, 0)) (n : Int) :
    Calls Tryd.prog 36 #[va, .int .i64 (k : Int), .int .u64 (V : Int), .int .i64 n, vb, .int .i64 2, .int .i64 (P : Int)] w fun e w' => e = .returned (.bool true) ∧ Below w.heap.size w w' := by
  have HR : Hid (uintR A k = (V, P, 0)) := h
  have HK : Hid (k ≤ A.length) := hk
  clear h hk
  go_enter Tryd.func36, Tryd.ntmps36
  go_wp2_with fail
  refine (readUint_at ra _ k rfl HK.out HR.out).mono ?_
  rintro e w1 ⟨rfl, rfl⟩
  go_wp2_with fail
  refine (num_any _ _).mono ?_
  rintro e w2 ⟨rfl, rfl⟩
  go_wp2
  go_ret
  exact ⟨rfl, Below.refl _ _⟩

theorem same_self {a b : Value} {xs : List Nat} {w : World} (ha : Rd w a xs) (hb : Rd w b xs) :
    Calls Tryd.prog 19 #[a, b] w fun e w' => e = .returned (.bool true) ∧ w' = w := by
  have := same_any ha hb
  rw [decide_eq_true rfl] at this
  exact this

set_option maxRecDepth 100000 in
set_option maxHeartbeats 2000000 in
theorem reads_rise {va vb : Value} {A : List Nat} {w : World} (ra : Rd w va A) (k : Nat) (hk : k ≤ A.length) {V P : Nat} (h : riseR A k = (V, P, 0)) (v n : Int) (hn : n = (V : Int)) :
    Calls Tryd.prog 36 #[va, .int .i64 (k : Int), .int .u64 v, .int .i64 n, vb, .int .i64 6, .int .i64 (P : Int)] w fun e w' => e = .returned (.bool true) ∧ Below w.heap.size w w' := by
  subst hn
  have HR : Hid (riseR A k = (V, P, 0)) := h
  have HK : Hid (k ≤ A.length) := hk
  clear h hk
  go_enter Tryd.func36, Tryd.ntmps36
  go_wp2_with fail
  refine (readRising_at ra _ k rfl HK.out HR.out).mono ?_
  rintro e w1 ⟨rfl, rfl⟩
  go_wp2_with fail
  refine (num_any _ _).mono ?_
  rintro e w2 ⟨rfl, rfl⟩
  go_wp2
  go_ret
  exact ⟨rfl, Below.refl _ _⟩

set_option maxRecDepth 100000 in
set_option maxHeartbeats 2000000 in
theorem reads_fall {va vb : Value} {A : List Nat} {w : World} (ra : Rd w va A) (k : Nat) (hk : k ≤ A.length) {V P : Nat} (h : fallR A k = (V, P, 0)) (v n : Int) (hn : n = (V : Int)) :
    Calls Tryd.prog 36 #[va, .int .i64 (k : Int), .int .u64 v, .int .i64 n, vb, .int .i64 8, .int .i64 (P : Int)] w fun e w' => e = .returned (.bool true) ∧ Below w.heap.size w w' := by
  subst hn
  have HR : Hid (fallR A k = (V, P, 0)) := h
  have HK : Hid (k ≤ A.length) := hk
  clear h hk
  go_enter Tryd.func36, Tryd.ntmps36
  go_wp2_with fail
  refine (readFalling_atB ra _ k rfl HK.out HR.out).mono ?_
  rintro e w1 ⟨rfl, rfl⟩
  go_wp2_with fail
  refine (num_any _ _).mono ?_
  rintro e w2 ⟨rfl, rfl⟩
  go_wp2
  go_ret
  exact ⟨rfl, Below.refl _ _⟩

set_option maxRecDepth 100000 in
set_option maxHeartbeats 2000000 in
theorem reads_bytes {va vb : Value} {A bs : List Nat} {w : World} (ra : Rd w va A) (rb : Rd w vb bs) (k : Nat) (hk : k ≤ A.length) (hl : bs.length ≤ 1048576) (hA : A.length ≤ 140737488355328) {P : Nat} (h : bytesR A k bs.length = (bs, P, 0)) (v n : Int) :
    Calls Tryd.prog 36 #[va, .int .i64 (k : Int), .int .u64 v, .int .i64 n, vb, .int .i64 4, .int .i64 (P : Int)] w fun e w' => e = .returned (.bool true) ∧ Below w.heap.size w w' := by
  have HR : Hid (bytesR A k bs.length = (bs, P, 0)) := h
  have HK : Hid (k ≤ A.length) := hk
  have HA : Hid (A.length ≤ 140737488355328) := hA
  clear h hk hA
  obtain ⟨a, m, cap, rfl⟩ := rd_slice rb
  obtain ⟨hn, hle, hm, hl48⟩ := rd_lens rb
  rw [← hn] at hl
  have HN : Hid (m = bs.length) := hn
  clear hn
  go_enter Tryd.func36, Tryd.ntmps36
  go_wp2_with fail
  refine (readBytes_atB ra _ _ k bs.length rfl (by rw [← HN.out]) HK.out (by rw [← HN.out]; omega) HA.out HR.out).mono ?_
  rintro e w1 ⟨a1, m1, c1, rfl, own1, hb1⟩
  have r1 := own1.rd rb.1 (by rw [own1.1, ← HN.out]; omega)
  have rb1 := rb.later hb1
  have hs1 := hb1.size
  clear own1
  go_wp2_with fail
  refine (same_self r1 rb1).mono ?_
  rintro e w2 ⟨rfl, rfl⟩
  go_wp2_with fail
  refine (num_any _ _).mono ?_
  rintro e w3 ⟨rfl, rfl⟩
  go_wp2
  go_ret
  exact ⟨rfl, hb1⟩

set_option maxRecDepth 100000 in
set_option maxHeartbeats 2000000 in
theorem reads_ord {va vb : Value} {A bs : List Nat} {w : World} (ra : Rd w va A) (rb : Rd w vb bs) (k : Nat) (hk : k ≤ A.length) (hl : bs.length ≤ 1048576) (hA : A.length ≤ 140737488355328) {P : Nat} (h : ordR A k = (bs, P, 0)) (v n : Int) :
    Calls Tryd.prog 36 #[va, .int .i64 (k : Int), .int .u64 v, .int .i64 n, vb, .int .i64 10, .int .i64 (P : Int)] w fun e w' => e = .returned (.bool true) ∧ Below w.heap.size w w' := by
  have HR : Hid (ordR A k = (bs, P, 0)) := h
  have HK : Hid (k ≤ A.length) := hk
  have HA : Hid (A.length ≤ 140737488355328) := hA
  clear h hk hA
  obtain ⟨a, m, cap, rfl⟩ := rd_slice rb
  obtain ⟨hn, hle, hm, hl48⟩ := rd_lens rb
  rw [← hn] at hl
  have HN : Hid (m = bs.length) := hn
  clear hn
  go_enter Tryd.func36, Tryd.ntmps36
  go_wp2_with fail
  refine (readOrdered_atB ra _ k rfl HK.out HA.out HR.out).mono ?_
  rintro e w1 ⟨a1, m1, c1, rfl, own1, hb1⟩
  have r1 := own1.rd rb.1 (by rw [own1.1, ← HN.out]; omega)
  have rb1 := rb.later hb1
  have hs1 := hb1.size
  clear own1
  go_wp2_with fail
  refine (same_self r1 rb1).mono ?_
  rintro e w2 ⟨rfl, rfl⟩
  go_wp2_with fail
  refine (num_any _ _).mono ?_
  rintro e w3 ⟨rfl, rfl⟩
  go_wp2
  go_ret
  exact ⟨rfl, hb1⟩

set_option maxRecDepth 100000 in
set_option maxHeartbeats 2000000 in
theorem reads_frame {va vb : Value} {A bs : List Nat} {w : World} (ra : Rd w va A) (rb : Rd w vb bs) (ht : Tab w) (k : Nat) (hk : k ≤ A.length) (hl : bs.length ≤ 1048576) (hA : A.length ≤ 140737488355328) {P : Nat} (h : frameR A k = (bs, P, 0)) (v n : Int) :
    Calls Tryd.prog 36 #[va, .int .i64 (k : Int), .int .u64 v, .int .i64 n, vb, .int .i64 13, .int .i64 (P : Int)] w fun e w' => e = .returned (.bool true) ∧ Below w.heap.size w w' := by
  have HR : Hid (frameR A k = (bs, P, 0)) := h
  have HK : Hid (k ≤ A.length) := hk
  have HA : Hid (A.length ≤ 140737488355328) := hA
  clear h hk hA
  obtain ⟨a, m, cap, rfl⟩ := rd_slice rb
  obtain ⟨hn, hle, hm, hl48⟩ := rd_lens rb
  rw [← hn] at hl
  have HN : Hid (m = bs.length) := hn
  clear hn
  go_enter Tryd.func36, Tryd.ntmps36
  go_wp2_with fail
  refine (readFrame_at ra ht _ k rfl HK.out HA.out HR.out).mono ?_
  rintro e w1 ⟨a1, m1, c1, rfl, own1, hb1⟩
  have r1 := own1.rd rb.1 (by rw [own1.1, ← HN.out]; omega)
  have rb1 := rb.later hb1
  have hs1 := hb1.size
  clear own1
  go_wp2_with fail
  refine (same_self r1 rb1).mono ?_
  rintro e w2 ⟨rfl, rfl⟩
  go_wp2_with fail
  refine (num_any _ _).mono ?_
  rintro e w3 ⟨rfl, rfl⟩
  go_wp2
  go_ret
  exact ⟨rfl, hb1⟩

end Go.Proofs.YtbfeecnhmlcfaaaDoor
