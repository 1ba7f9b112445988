import Derived.Test.YtledfniedoapiaaDoorJ02
import Derived.Test.YtledfniedoapiaaDoorJ04
import Derived.Test.YtledfniedoapiaaDoorJ01
namespace Go.Proofs.YtledfniedoapiaaDoor
open Go.RowKit
set_option linter.unusedVariables false

theorem uintF_len (f v : Nat) : 1 ≤ (uintF f v).length ∧ (uintF f v).length ≤ f + 1 := by
  induction f generalizing v with
  | zero => simp [uintF]
  | succ f ih =>
    unfold uintF
    split
    · have := ih (v / 128); simp; omega
    · simp
theorem uintL_len (v : Nat) : 1 ≤ (uintL v).length ∧ (uintL v).length ≤ 10 := uintF_len 9 v
theorem uintF_bys (f v : Nat) (h : v < 128 ^ (f + 1)) : Bys (uintF f v) := by
  induction f generalizing v with
  | zero => intro x hx; simp [uintF] at hx; simp at h; omega
  | succ f ih =>
    unfold uintF
    split
    · intro x hx
      simp only [List.mem_cons] at hx
      rcases hx with rfl | hx
      · omega
      · exact ih (v / 128) (by rw [Nat.pow_succ] at h; exact Nat.div_lt_of_lt_mul (by rw [Nat.mul_comm]; exact h)) x hx
    · intro x hx; simp at hx; omega
theorem uintL_bys (v : Nat) (h : v < 18446744073709551616) : Bys (uintL v) := uintF_bys 9 v (Nat.lt_of_lt_of_le h (by decide))

def bytesL (bs : List Nat) : List Nat := uintL bs.length ++ bs

theorem own_le10 {w : World} {B : Nat} {v : Value} {m n k : Nat} (h : Own w B v m ([] ++ uintL k)) (hl : n ≤ 140737488355312) : m + n ≤ 140737488355328 := by
  have h1 := h.1
  have h2 := uintL_len k
  rw [List.nil_append] at h1
  omega

set_option maxRecDepth 100000 in
set_option maxHeartbeats 1000000 in
theorem bytes_any {v : Value} {bs : List Nat} {w : World} (hr : Rd w v bs) (hl : bs.length ≤ 140737488355312) :
    Calls Tryd.prog 46 #[v] w fun e w' => ∃ a m c, e = .returned (.slice a m c) ∧ Own w' w.heap.size (.slice a m c) m (bytesL bs) ∧ Below w.heap.size w w' := by
  obtain ⟨i0, hi, hz0, hz1, hz2⟩ := info_parts info_byte
  obtain ⟨a, n, cap, rfl⟩ := rd_slice hr
  obtain ⟨hn, hle, hm, hl48⟩ := rd_lens hr
  rw [← hn] at hl
  have HN : Hid (n = bs.length) := hn
  clear hn hm
  have hem : (n : Int) % 18446744073709551616 = (n : Int) := by omega
  go_enter Tryd.func46, Tryd.ntmps46
  go_wp2_with fail
  refine (uint_at _ n rfl (by omega) _ rfl).mono ?_
  rintro e w1 ⟨a1, m1, c1, rfl, own1, hb1⟩
  have hl1 := uintL_len n
  rw [← own1.1] at hl1
  have r1 := own1.rd (uintL_bys n (by omega)) (by omega)
  have hs1 := hb1.size
  clear own1
  go_wp2_with (at_make; refine wpList_make_own _ rfl _ _ 23 rfl w.heap.size 5 i0 (.int .u8 0) 1 und_bytes hi hz0 hz1 .i64 .i64 _ (m1 + n) rfl rfl ?c0 ?c1 ?c2 ?c3 ?_)
  case c0 => omega
  case c1 => rw [hz2]; omega
  case c2 => unfold maxLen; omega
  case c3 => omega
  intro w2 hown2 hg2
  have hb2 : Below w1.heap.size w1 w2 := (Below.refl _ w1).grown hg2 (Nat.le_refl _) (fun k hk => by simp at hk)
  have hb2' := hb1.trans (hb2.mono hs1)
  have own2 : Own w2 w.heap.size (.slice (some ⟨w1.heap.size, 0, none⟩) 0 (m1 + n)) 0 [] := ⟨rfl, hown2⟩
  have r2 := r1.later hb2
  have hs2 := hb2'.size
  clear hg2 hb2 hown2 r1
  go_wp2_with (first
    | (at_builtin; refine wpList_append_at rfl (.tmp 15) _ rfl w.heap.size _ _ _ _ rfl own2 _ _ _ _ rfl r2 (by omega) hs2 ?_; intro a5 m5 c5 w5 own5 hb5)
    | (at_builtin; refine wpList_append_at rfl (.tmp 18) _ rfl w.heap.size _ _ _ _ rfl own5 _ _ _ _ rfl (hr.later (hb2'.trans hb5)) (own_le10 own5 hl) (hb2'.trans hb5).size ?_; intro a6 m6 c6 w6 own6 hb6))
  go_ret
  refine ⟨a6, m6, c6, rfl, ?_, (hb2'.trans hb5).trans hb6⟩
  have e := HN.out
  subst e
  simpa [bytesL] using own6

theorem ruint_ok : ∀ (f : Nat) (l : List Nat) (i v V c : Nat), ruint f l i v = (V, c, 0) → i + f = 9 → v < 128 ^ i → i < c ∧ c ≤ i + l.length ∧ V < 18446744073709551616 := by
  intro f
  induction f with
  | zero =>
    intro l i v V c h hi hv
    cases l with
    | nil => simp [ruint] at h
    | cons x r =>
      unfold ruint at h
      split at h
      · simp at h
      · split at h
        · simp at h
        · split at h
          · simp at h
          · rename_i h1 h2 h3
            simp only [Prod.mk.injEq, and_true] at h
            obtain ⟨rfl, rfl⟩ := h
            refine ⟨by omega, by simp, ?_⟩
            have hi9 : i = 9 := by omega
            subst hi9
            have hx : x ≤ 1 := by
              by_cases hx : 1 < x
              · exact absurd ⟨rfl, hx⟩ h1
              · omega
            have : x % 128 * 128 ^ 9 ≤ 1 * 128 ^ 9 := Nat.mul_le_mul_right _ (by omega)
            have e : (128 : Nat) ^ 9 = 9223372036854775808 := by decide
            rw [e] at this hv ⊢
            omega
  | succ f ih =>
    intro l i v V c h hi hv
    cases l with
    | nil => simp [ruint] at h
    | cons x r =>
      unfold ruint at h
      split at h
      · simp at h
      · split at h
        · have := ih r (i + 1) _ V c h (by omega) (next_lt v x i hv)
          simp only [List.length_cons]
          omega
        · split at h
          · simp at h
          · rename_i h1 h2 h3
            simp only [Prod.mk.injEq, and_true] at h
            obtain ⟨rfl, rfl⟩ := h
            refine ⟨by omega, by simp, ?_⟩
            have h8 : 128 ^ (i + 1) ≤ 128 ^ 9 := Nat.pow_le_pow_right (by omega) (by omega)
            have e : (128 : Nat) ^ 9 = 9223372036854775808 := by decide
            have := next_lt v x i hv
            rw [e] at h8
            omega
theorem uintR_ok {bs : List Nat} {k V P : Nat} (h : uintR bs k = (V, P, 0)) (hk : k ≤ bs.length) : k < P ∧ P ≤ bs.length ∧ V < 18446744073709551616 := by
  unfold uintR at h
  simp only [Prod.mk.injEq] at h
  obtain ⟨h1, h2, h3⟩ := h
  rw [if_pos h3] at h2
  have := ruint_ok 9 (bs.drop k) 0 0 V (ruint 9 (bs.drop k) 0 0).2.1 (Prod.ext h1 (Prod.ext rfl h3)) rfl (by simp)
  rw [List.length_drop] at this
  omega
theorem ruint_err : ∀ (f : Nat) (l : List Nat) (i v : Nat), (ruint f l i v).2.2 ≠ 0 → (ruint f l i v).1 = 0 := by
  intro f
  induction f with
  | zero =>
    intro l i v h
    cases l with
    | nil => rfl
    | cons x r =>
      unfold ruint at h ⊢
      split
      · rfl
      · split
        · rfl
        · split
          · rfl
          · rename_i h1 h2 h3; simp [h1, h2, h3] at h
  | succ f ih =>
    intro l i v h
    cases l with
    | nil => rfl
    | cons x r =>
      unfold ruint at h ⊢
      split
      · rfl
      · split
        · rename_i h1 h2; rw [if_neg h1, if_pos h2] at h; exact ih _ _ _ h
        · split
          · rfl
          · rename_i h1 h2 h3; simp [h1, h2, h3] at h
theorem ruint_e : ∀ (f : Nat) (l : List Nat) (i v : Nat), (ruint f l i v).2.2 ≤ 13 := by
  intro f
  induction f with
  | zero =>
    intro l i v
    cases l with
    | nil => simp [ruint]
    | cons x r =>
      unfold ruint
      split
      · simp
      · split
        · simp
        · split <;> simp
  | succ f ih =>
    intro l i v
    cases l with
    | nil => simp [ruint]
    | cons x r =>
      unfold ruint
      split
      · simp
      · split
        · exact ih _ _ _
        · split <;> simp

/-- What ReadBytes answers. -/
def bytesR (bs : List Nat) (k most : Nat) : List Nat × Nat × Nat :=
  if (uintR bs k).2.2 ≠ 0 then ([], 0, (uintR bs k).2.2)
  else if most < (uintR bs k).1 then ([], 0, 13)
  else if bs.length < (uintR bs k).2.1 + (uintR bs k).1 then ([], 0, 10)
  else ((bs.drop (uintR bs k).2.1).take (uintR bs k).1, (uintR bs k).2.1 + (uintR bs k).1, 0)

set_option maxRecDepth 100000 in
set_option maxHeartbeats 1000000 in
theorem readBytes_out {v : Value} {bs : List Nat} {w : World} (hr : Rd w v bs) (at_ most : Int) (h : at_ < 0 ∨ (bs.length : Int) < at_ ∨ most < 0) :
    Calls Tryd.prog 22 #[v, .int .i64 at_, .int .i64 most] w fun e w' => e = .returned (.tuple #[.slice none 0 0, .int .i64 0, .int .i64 1]) ∧ w' = w := by
  obtain ⟨a, n, cap, rfl⟩ := rd_slice hr
  obtain ⟨hn, hle, hm, hl48⟩ := rd_lens hr
  rw [← hn] at h
  clear hn hr
  by_cases ho : at_ < 0 ∨ (n : Int) < at_
  · have hd : decide (at_ < 0 ∨ (n : Int) < at_) = true := by simpa using ho
    clear h ho
    go_enter Tryd.func22, Tryd.ntmps22
    go_wp2_with fail
    refine (outside_any at_ hl48).mono ?_
    rintro e w1 ⟨rfl, rfl⟩
    rw [hd]
    go_wp2
    go_ret3
    exact ⟨rfl, rfl⟩
  · have hd : decide (at_ < 0 ∨ (n : Int) < at_) = false := by simpa using ho
    have hmost : most < 0 := by omega
    clear h ho
    go_enter Tryd.func22, Tryd.ntmps22
    go_wp2_with fail
    refine (outside_any at_ hl48).mono ?_
    rintro e w1 ⟨rfl, rfl⟩
    rw [hd]
    go_wp2
    go_ret3
    exact ⟨rfl, rfl⟩

set_option maxRecDepth 100000 in
set_option maxHeartbeats 1000000 in
theorem readBytes_in {v : Value} {bs : List Nat} {w : World} (hr : Rd w v bs) (k most : Nat) (hk : k ≤ bs.length) (hmost : most < 9223372036854775808) (h47 : bs.length ≤ 140737488355328) :
    Calls Tryd.prog 22 #[v, .int .i64 (k : Int), .int .i64 (most : Int)] w fun e w' => ∃ a m c, e = .returned (.tuple #[.slice a m c, .int .i64 (((bytesR bs k most).2.1 : Nat) : Int), .int .i64 (((bytesR bs k most).2.2 : Nat) : Int)]) ∧ Own w' w.heap.size (.slice a m c) m (bytesR bs k most).1 ∧ Below w.heap.size w w' := by
  obtain ⟨a, n, cap, rfl⟩ := rd_slice hr
  obtain ⟨hn, hle, hm, hl48⟩ := rd_lens hr
  have hk' := hk
  rw [← hn] at hk h47
  have HN : Hid (n = bs.length) := hn
  clear hn
  unfold maxLen at hm
  have hk2 : (k : Int) ≤ (n : Int) := by omega
  have hk0 : (0 : Int) ≤ (k : Int) := by omega
  have hd : decide ((k : Int) < 0 ∨ (n : Int) < (k : Int)) = false := by simp; omega
  have hm0 : (0 : Int) ≤ (most : Int) := by omega
  have hemm : (most : Int) % 18446744073709551616 = (most : Int) := by omega
  obtain ⟨R, hR⟩ : ∃ R, R = uintR bs k := ⟨_, rfl⟩
  obtain ⟨V, P, E⟩ := R
  have hEb : E ≤ 13 := by
    have := ruint_e 9 (bs.drop k) 0 0
    have h2 : E = (uintR bs k).2.2 := by rw [← hR]
    rw [h2]
    exact this
  have HK : Hid (k ≤ bs.length) := hk'
  have HRR : Hid (uintR bs k = (V, P, E)) := hR.symm
  clear hk'
  by_cases hE : E = 0
  · subst hE
    obtain ⟨hkp, hpn, hV⟩ := uintR_ok hR.symm HK.out
    rw [← HN.out] at hpn
    have hsub : ((n : Int) - (P : Int)) % 18446744073709551616 = (n : Int) - (P : Int) := by omega
    by_cases hbig : most < V
    · have hf : bytesR bs k most = ([], 0, 13) := by unfold bytesR; rw [← hR]; simp [hbig]
      rw [hf]
      have e1 : (most : Int) < (V : Int) := by omega
      clear hf hR
      go_enter Tryd.func22, Tryd.ntmps22
      go_wp2_with fail
      refine (outside_any _ hl48).mono ?_
      rintro e w1 ⟨rfl, rfl⟩
      rw [hd]
      go_wp2_with fail
      refine (readUint_at hr _ k rfl HK.out HRR.out).mono ?_
      rintro e w2 ⟨rfl, rfl⟩
      go_wp2
      go_ret3
      exact ⟨_, _, _, rfl, ⟨rfl, World.ownsRow_nil _ _ _ _⟩, Below.refl _ _⟩
    · have e1 : (V : Int) ≤ (most : Int) := by omega
      by_cases htorn : n < P + V
      · have hf : bytesR bs k most = ([], 0, 10) := by unfold bytesR; rw [← hR, ← HN.out]; simp [hbig, htorn]
        rw [hf]
        have e2 : (n : Int) - (P : Int) < (V : Int) := by omega
        clear hf hR
        go_enter Tryd.func22, Tryd.ntmps22
        go_wp2_with fail
        refine (outside_any _ hl48).mono ?_
        rintro e w1 ⟨rfl, rfl⟩
        rw [hd]
        go_wp2_with fail
        refine (readUint_at hr _ k rfl HK.out HRR.out).mono ?_
        rintro e w2 ⟨rfl, rfl⟩
        go_wp2
        go_ret3
        exact ⟨_, _, _, rfl, ⟨rfl, World.ownsRow_nil _ _ _ _⟩, Below.refl _ _⟩
      · have hf : bytesR bs k most = ((bs.drop P).take V, P + V, 0) := by unfold bytesR; rw [← hR, ← HN.out]; simp [hbig, htorn]
        rw [hf]
        have e2 : (V : Int) ≤ (n : Int) - (P : Int) := by omega
        have hVm : IntKind.i64.wrap (V : Int) = (V : Int) := by simp only [IntKind.wrap, IntKind.bits, IntKind.signed]; simp; omega
        clear hf hR
        by_cases hcP : cap = P
        · have hV0 : V = 0 := by omega
          have hnP : n = P := by omega
          have HDR : Hid ((bs.drop P).take V = []) := by unfold Hid; rw [hV0]; simp
          have HRP : Hid (uintR bs k = (0, P, 0)) := by unfold Hid; rw [HRR.out, hV0]
          rw [HDR.out]
          clear HRR HDR
          subst hV0 hcP hnP
          go_enter Tryd.func22, Tryd.ntmps22
          go_wp2_with fail
          refine (outside_any _ hl48).mono ?_
          rintro e w1 ⟨rfl, rfl⟩
          rw [hd]
          go_wp2_with fail
          refine (readUint_at hr _ k rfl HK.out HRP.out).mono ?_
          rintro e w2 ⟨rfl, rfl⟩
          go_wp2_with fail
          refine (handed (clone_any (Rd.zero _ a) (by simp))).mono ?_
          rintro e w5 ⟨a5, m5, c5, rfl, own5, hb5⟩
          go_wp2
          go_ret3
          exact ⟨a5, m5, c5, rfl, own5, hb5⟩
        · rcases rd_some hr with ⟨h0, _⟩ | ⟨b, off, rfl⟩
          · omega
          have rb := hr.sub P (P + V) (by omega) (by omega) (off' := off + P) (n' := V) (cap' := cap - P) (by omega) (by omega) (by omega)
          have eb : (bs.take (P + V)).drop P = (bs.drop P).take V := by rw [List.drop_take]; congr 1; omega
          rw [eb] at rb
          have HBL : Hid (((bs.drop P).take V).length ≤ 140737488355328) := by unfold Hid; rw [List.length_take]; omega
          clear eb htorn hbig
          go_enter Tryd.func22, Tryd.ntmps22
          go_wp2_with fail
          refine (outside_any _ hl48).mono ?_
          rintro e w1 ⟨rfl, rfl⟩
          rw [hd]
          go_wp2_with fail
          refine (readUint_at hr _ k rfl HK.out HRR.out).mono ?_
          rintro e w2 ⟨rfl, rfl⟩
          go_wp2_with fail
          refine (handed (clone_any rb HBL.out)).mono ?_
          rintro e w5 ⟨a5, m5, c5, rfl, own5, hb5⟩
          go_wp2
          go_ret3
          refine ⟨a5, m5, c5, ?_, own5, hb5⟩
          have e9 : (P : Int) + (V : Int) = ((P + V : Nat) : Int) := by omega
          exact congrArg (fun z : Int => Ending.returned (Value.tuple #[Value.slice a5 m5 c5, Value.int .i64 z, Value.int .i64 0])) e9
  · have hf : bytesR bs k most = ([], 0, E) := by unfold bytesR; rw [← hR]; simp [hE]
    rw [hf]
    have e1 : ((E : Int) != 0) = true := by simp; omega
    clear hf hR
    go_enter Tryd.func22, Tryd.ntmps22
    go_wp2_with fail
    refine (outside_any _ hl48).mono ?_
    rintro e w1 ⟨rfl, rfl⟩
    rw [hd]
    go_wp2_with fail
    refine (readUint_at hr _ k rfl HK.out HRR.out).mono ?_
    rintro e w2 ⟨rfl, rfl⟩
    go_wp2
    go_ret3
    exact ⟨_, _, _, rfl, ⟨rfl, World.ownsRow_nil _ _ _ _⟩, Below.refl _ _⟩

end Go.Proofs.YtledfniedoapiaaDoor

namespace Go.Proofs.YtledfniedoapiaaDoor
open Go.RowKit
set_option linter.unusedVariables false

set_option maxRecDepth 100000 in
set_option maxHeartbeats 1000000 in
theorem refUint_any (v : Nat) (hv : v < 18446744073709551616) (w : World) :
    Calls Tryd.prog 35 #[.int .u64 (v : Int)] w fun e w' => ∃ a m c, e = .returned (.slice a m c) ∧ Own w' w.heap.size (.slice a m c) m (uintL v) ∧ Below w.heap.size w w' := by
  go_enter Tryd.func35, Tryd.ntmps35
  go_wp2
  go_loopw [0, 3] (fun x s wr => ∃ (u f : Nat) (acc : List Nat) (a : Option Addr) (m c : Nat), x = .int .u64 (u : Int) ∧ u < 128 ^ (f + 1) ∧ u < 18446744073709551616 ∧ acc.length + f = 9 ∧ uintL v = acc ++ uintF f u ∧ s = .slice a m c ∧ Own wr w.heap.size (.slice a m c) m acc ∧ m ≤ 9 ∧ Below w.heap.size w wr)
    (fun x _ _ => (intOf x).toNat)
  case atStart => exact ⟨v, 9, [], _, _, _, rfl, by omega, hv, rfl, rfl, rfl, ⟨rfl, World.ownsRow_nil _ _ _ _⟩, by omega, Below.refl _ _⟩
  case round =>
    obtain ⟨u, f, acc, a1, m1, c1, rfl, hu, hu2, hacc, hl, rfl, own1, hm9, hb⟩ := hrel
    have HL : Hid (uintL v = acc ++ uintF f u) := hl
    have HU : Hid (u < 128 ^ (f + 1)) := hu
    have HA : Hid (acc.length + f = 9) := hacc
    clear hl hu hacc
    have hbs := hb.size
    by_cases hgt : 127 < u
    · have hgt2 : (127 : Int) < (u : Int) := by omega
      obtain ⟨f', hf'⟩ : ∃ f', f = f' + 1 := ⟨f - 1, by
        have h1 : f ≠ 0 := by
          intro h0
          have := HU.out
          rw [h0] at this
          omega
        omega⟩
      have HF : Hid (f = f' + 1) := hf'
      clear hf'
      go_wp2_with (at_builtin; refine wpList_append_new rfl (.tmp 6) _ rfl w.heap.size a1 m1 c1 _ rfl own1 [_] 1 rfl [u % 128 + 128] (by first | rfl | (simp [bv]; done) | (simp [bv]; omega)) rfl (by omega) hbs ?_; intro a3 m3 c3 w3 own3 hb3)
      go_roundw
      case rel =>
        refine ⟨u / 128, f', acc ++ [u % 128 + 128], a3, m3, c3, by go_num, ?_, by omega, by have := HA.out; have := HF.out; simp; omega, ?_, rfl, own3, by have := HA.out; have := HF.out; rw [own3.1]; simp; omega, hb.trans hb3⟩
        · have := HU.out
          rw [HF.out, Nat.pow_succ] at this
          exact Nat.div_lt_of_lt_mul (by rw [Nat.mul_comm]; exact this)
        · rw [HL.out, HF.out, uintF_go f' u hgt]; simp
      case measure => simp [intOf]; omega
    · have hgt2 : (u : Int) ≤ 127 := by omega
      go_wp2_with (at_builtin; refine wpList_append_new rfl (.tmp 15) _ rfl w.heap.size a1 m1 c1 _ rfl own1 [_] 1 rfl [u] (by first | rfl | (simp [bv]; done) | (simp [bv]; omega)) rfl (by omega) hbs ?_; intro a3 m3 c3 w3 own3 hb3)
      go_ret
      refine ⟨a3, m3, c3, rfl, ?_, hb.trans hb3⟩
      rw [HL.out, uintF_stop f u (by omega)]
      exact own3

set_option maxRecDepth 100000 in
set_option maxHeartbeats 1000000 in
theorem refBytes_any {v : Value} {bs : List Nat} {w : World} (hr : Rd w v bs) (hl : bs.length ≤ 140737488355312) :
    Calls Tryd.prog 36 #[v] w fun e w' => ∃ a m c, e = .returned (.slice a m c) ∧ Own w' w.heap.size (.slice a m c) m (bytesL bs) ∧ Below w.heap.size w w' := by
  obtain ⟨a, n, cap, rfl⟩ := rd_slice hr
  obtain ⟨hn, hle, hm, hl48⟩ := rd_lens hr
  rw [← hn] at hl
  have HN : Hid (n = bs.length) := hn
  clear hn
  have hn64 : n < 18446744073709551616 := by omega
  have hem : (n : Int) % 18446744073709551616 = (n : Int) := by omega
  have HU : ∀ m : Nat, m = (uintL n).length → m ≤ 10 := fun m h => by have := (uintL_len n).2; omega
  go_enter Tryd.func36, Tryd.ntmps36
  go_wp2_with fail
  refine (refUint_any n hn64 _).mono ?_
  rintro e w1 ⟨a1, m1, c1, rfl, own1, hb1⟩
  go_wp2_with (at_builtin; refine wpList_append_at rfl _ _ rfl w.heap.size a1 m1 c1 _ rfl own1 a n cap bs rfl (hr.later hb1) (by have := HU m1 own1.1; omega) hb1.size ?_; intro a5 m5 c5 w5 own5 hb5)
  go_ret
  refine ⟨a5, m5, c5, rfl, ?_, hb1.trans hb5⟩
  unfold bytesL
  rw [← HN.out]
  exact own5

set_option maxRecDepth 100000 in
set_option maxHeartbeats 1000000 in
theorem refPart_any {b off n cap : Nat} {bs : List Nat} {w : World} (hr : Rd w (.slice (some ⟨b, off, none⟩) n cap) bs) (i j : Nat) (hij : i ≤ j) (hj : j ≤ n) (h47 : n ≤ 140737488355328) :
    Calls Tryd.prog 63 #[.slice (some ⟨b, off, none⟩) n cap, .int .i64 (i : Int), .int .i64 (j : Int)] w fun e w' => ∃ a m c, e = .returned (.slice a m c) ∧ Own w' w.heap.size (.slice a m c) m ((bs.take j).drop i) ∧ Below w.heap.size w w' := by
  obtain ⟨hn, hle, hm, hl48⟩ := rd_lens hr
  have hi0 : (0 : Int) ≤ (i : Int) := by omega
  have hij2 : (i : Int) ≤ (j : Int) := by omega
  have hjc : (j : Int) ≤ (cap : Int) := by omega
  by_cases hc : cap = i
  · have hji : j = i := by omega
    subst hji
    have HE : Hid ((bs.take j).drop j = []) := by unfold Hid; simp
    subst hc
    clear hn
    go_enter Tryd.func63, Tryd.ntmps63
    go_wp2_with (at_builtin; refine wpList_append_at rfl _ _ rfl w.heap.size none 0 0 [] rfl ⟨rfl, World.ownsRow_nil _ _ _ _⟩ _ _ _ [] rfl (by first | exact Rd.zero _ _ | (simp; exact Rd.zero _ _)) (by omega) (Nat.le_refl _) ?_; intro a5 m5 c5 w5 own5 hb5)
    go_ret
    exact ⟨a5, m5, c5, rfl, by rw [HE.out]; simpa using own5, hb5⟩
  · have rp := hr.sub i j hij hj (off' := off + i) (n' := j - i) (cap' := cap - i) rfl rfl rfl
    clear hn
    go_enter Tryd.func63, Tryd.ntmps63
    go_wp2_with (at_builtin; refine wpList_append_at rfl _ _ rfl w.heap.size none 0 0 [] rfl ⟨rfl, World.ownsRow_nil _ _ _ _⟩ _ _ _ _ rfl rp (by omega) (Nat.le_refl _) ?_; intro a5 m5 c5 w5 own5 hb5)
    go_ret
    exact ⟨a5, m5, c5, rfl, by simpa using own5, hb5⟩

theorem pow_le9 (i : Nat) (hi : i ≤ 9) : 128 ^ i ≤ 9223372036854775808 := Nat.le_trans (Nat.pow_le_pow_right (by omega) hi) (by decide)
theorem sum_lt (q c i : Nat) (hi : i ≤ 9) (hq : q < 128 ^ i) (h9 : i = 9 → c ≤ 1) : q + c % 128 * 128 ^ i < 18446744073709551616 := by
  by_cases h : i = 9
  · subst h
    have := h9 rfl
    have e : (128 : Nat) ^ 9 = 9223372036854775808 := by decide
    rw [e] at hq ⊢
    have : c % 128 ≤ 1 := by omega
    omega
  · have h1 := next_lt q c i hq
    have h2 := pow_le9 (i + 1) (by omega)
    omega
theorem wrapV (q c i U : Nat) (hi : i ≤ 9) (hU : U = 128 ^ i) (hq : q < 128 ^ i) (h9 : i = 9 → c ≤ 1) : IntKind.u64.wrap ((q : Int) + IntKind.u64.wrap ((U : Int) * ((c : Int) % 128))) = ((q + c % 128 * 128 ^ i : Nat) : Int) := by
  have e1 : (U : Int) * ((c : Int) % 128) = ((c % 128 * 128 ^ i : Nat) : Int) := by
    rw [hU, Int.natCast_mul, Int.mul_comm]; simp
  have h1 := shl_lt c i hi h9
  have h2 := sum_lt q c i hi hq h9
  rw [e1, IntKind.wrap_u64, IntKind.wrap_u64]
  omega
theorem wrapU (i U : Nat) (hi : i ≤ 8) (hU : U = 128 ^ i) : IntKind.u64.wrap ((U : Int) * 128) = ((128 ^ (i + 1) : Nat) : Int) := by
  have h := pow_le9 (i + 1) (by omega)
  have e : (U : Int) * 128 = ((128 ^ (i + 1) : Nat) : Int) := by rw [hU, Nat.pow_succ, Int.natCast_mul]; simp
  rw [e, IntKind.wrap_u64]
  omega
set_option maxRecDepth 100000 in
theorem refReadUint_out {v : Value} {bs : List Nat} {w : World} (hr : Rd w v bs) (at_ : Int) (h : at_ < 0 ∨ (bs.length : Int) < at_) :
    Calls Tryd.prog 56 #[v, .int .i64 at_] w fun e w' => e = .returned (.tuple #[.int .u64 0, .int .i64 0, .int .i64 1]) ∧ w' = w := by
  obtain ⟨a, n, cap, rfl⟩ := rd_slice hr
  obtain ⟨hn, hle, hm, hl48⟩ := rd_lens hr
  rw [← hn] at h
  clear hn hr
  have hd : decide (at_ < 0 ∨ (n : Int) < at_) = true := by simpa using h
  clear h
  go_enter Tryd.func56, Tryd.ntmps56
  go_wp2_with fail
  refine (refOutside_any at_ hl48).mono ?_
  rintro e w1 ⟨rfl, rfl⟩
  rw [hd]
  go_wp2
  go_ret3
  exact ⟨rfl, rfl⟩

set_option maxHeartbeats 2000000 in
set_option maxRecDepth 100000 in
theorem refReadUint_in {v : Value} {bs : List Nat} {w : World} (hr : Rd w v bs) (k : Nat) (hk : k ≤ bs.length) :
    Calls Tryd.prog 56 #[v, .int .i64 (k : Int)] w fun e w' => e = .returned (.tuple #[.int .u64 (((uintR bs k).1 : Nat) : Int), .int .i64 (((uintR bs k).2.1 : Nat) : Int), .int .i64 (((uintR bs k).2.2 : Nat) : Int)]) ∧ w' = w := by
  obtain ⟨a, n, cap, rfl⟩ := rd_slice hr
  obtain ⟨hn, hle, hm, hl48⟩ := rd_lens hr
  rw [← hn] at hk
  have HN : Hid (n = bs.length) := hn
  clear hn
  unfold maxLen at hm
  have hk2 : (k : Int) ≤ (n : Int) := by omega
  have hk0 : (0 : Int) ≤ (k : Int) := by omega
  have hd : decide ((k : Int) < 0 ∨ (n : Int) < (k : Int)) = false := by simp; omega
  go_enter Tryd.func56, Tryd.ntmps56
  go_wp2_with fail
  refine (refOutside_any _ hl48).mono ?_
  rintro e w1 ⟨rfl, rfl⟩
  rw [hd]
  go_wp2
  go_loop [7, 8, 9, 10] (fun x u y g => ∃ i q U : Nat, i ≤ 9 ∧ k + i ≤ n ∧ x = .int .u64 (q : Int) ∧ u = .int .u64 (U : Int) ∧ U = 128 ^ i ∧ y = .int .i64 (i : Int) ∧ q < 128 ^ i ∧ ruint 9 (bs.drop k) 0 0 = ruint (9 - i) (bs.drop (k + i)) i q) (fun _ _ y _ => 10 - (intOf y).toNat)
  case atStart => exact ⟨0, 0, 1, by omega, by omega, rfl, rfl, rfl, rfl, by simp, rfl⟩
  case round =>
    obtain ⟨i, q, U, hi, hki, rfl, rfl, hU, rfl, hq, hru⟩ := hrel
    have HQ : Hid (q < 128 ^ i) := hq
    have HP : Hid (U = 128 ^ i) := hU
    have HR : Hid (ruint 9 (bs.drop k) 0 0 = ruint (9 - i) (bs.drop (k + i)) i q) := hru
    clear hq hru hU
    have hi10 : (i : Int) < 10 := by omega
    by_cases hend : k + i = n
    · have hge : (n : Int) ≤ (k : Int) + (i : Int) := by omega
      have hdr : bs.drop (k + i) = [] := by rw [hend, HN.out]; simp
      have HU : Hid (uintR bs k = (0, 0, 10)) := by
        unfold Hid uintR; rw [HR.out, hdr]; cases (9 - i) <;> rfl
      clear hend hdr
      go_wp2
      go_ret3
      rw [HU.out]
      exact ⟨rfl, rfl⟩
    · have hkn : (k : Int) + (i : Int) < (n : Int) := by omega
      rcases rd_some hr with ⟨_, h0, _⟩ | ⟨b, off, rfl⟩
      · omega
      obtain ⟨hc, hcl⟩ := rd_cell hr (k + i) (by omega)
      have hdr : bs.drop (k + i) = bs.getD (k + i) 0 :: bs.drop (k + i + 1) := by
        rw [List.drop_eq_getElem_cons (by rw [← HN.out]; omega)]
        simp [List.getD, List.getElem?_eq_getElem (show k + i < bs.length by rw [← HN.out]; omega)]
      obtain ⟨c, hcd⟩ : ∃ c, c = bs.getD (k + i) 0 := ⟨_, rfl⟩
      rw [← hcd] at hc hcl hdr
      have HD : Hid (bs.drop (k + i) = c :: bs.drop (k + i + 1)) := hdr
      clear hdr hcd
      by_cases hA : i = 9 ∧ 1 < c
      · have HU : Hid (uintR bs k = (0, 0, 13)) := by
          unfold Hid uintR; rw [HR.out, HD.out, hA.1]
          simp [ruint, hA.2]
        have e2 : ((i : Int) == 9) = true := by simp; omega
        have e3 : (1 : Int) < (c : Int) := by omega
        clear hA
        go_wp2
        go_ret3
        rw [HU.out]
        exact ⟨rfl, rfl⟩
      · have hA9 : i = 9 → c ≤ 1 := fun h => by
          by_cases hc1 : 1 < c
          · exact absurd ⟨h, hc1⟩ hA
          · omega
        by_cases hB : 128 ≤ c
        · have hi8 : i ≤ 8 := by
            by_cases h : i = 9
            · have := hA9 h; omega
            · omega
          have e2 : ((i : Int) == 9) = false := by simp; omega
          have e4 : (128 : Int) ≤ (c : Int) := by omega
          have hnx := next_lt q c i HQ.out
          have HV := wrapV q c i U (by omega) HP.out HQ.out hA9
          have HW := wrapU i U hi8 HP.out
          obtain ⟨V, hV⟩ : ∃ V, V = q + c % 128 * 128 ^ i := ⟨_, rfl⟩
          rw [← hV] at HV hnx
          have HV2 : Hid (V = q + c % 128 * 128 ^ i) := hV
          have HX : Hid (V < 128 ^ (i + 1)) := hnx
          have HN2 : Hid (ruint 9 (bs.drop k) 0 0 = ruint (9 - (i + 1)) (bs.drop (k + (i + 1))) (i + 1) V) := by
            unfold Hid
            rw [HR.out, HD.out, show 9 - i = (9 - (i + 1)) + 1 by omega]
            conv => lhs; unfold ruint
            rw [if_neg hA, if_pos hB, ← HV2.out]
            rfl
          have HVH : Hid (IntKind.u64.wrap ((q : Int) + IntKind.u64.wrap ((U : Int) * ((c : Int) % 128))) = ((V : Nat) : Int)) := HV
          have HWH : Hid (IntKind.u64.wrap ((U : Int) * 128) = ((128 ^ (i + 1) : Nat) : Int)) := HW
          clear hA hA9 hV hnx HV HW
          go_wp2
          go_round
          case rel => exact ⟨i + 1, V, 128 ^ (i + 1), by omega, by omega, by rw [HVH.out], by rw [HWH.out], rfl, by go_num, HX.out, HN2.out⟩
          case measure => simp [intOf]; omega
        · have e4 : (c : Int) < 128 := by omega
          have HV := wrapV q c i U hi HP.out HQ.out hA9
          obtain ⟨V, hV⟩ : ∃ V, V = q + c % 128 * 128 ^ i := ⟨_, rfl⟩
          rw [← hV] at HV
          have HV2 : Hid (V = q + c % 128 * 128 ^ i) := hV
          have HVH : Hid (IntKind.u64.wrap ((q : Int) + IntKind.u64.wrap ((U : Int) * ((c : Int) % 128))) = ((V : Nat) : Int)) := HV
          clear hV HV
          have H9 : Hid (i = 9 → c ≤ 1) := hA9
          by_cases hC : c = 0 ∧ 0 < i
          · have HU : Hid (uintR bs k = (0, 0, 11)) := by
              unfold Hid uintR
              have : ruint (9 - i) (c :: bs.drop (k + i + 1)) i q = (0, 0, 11) := by
                cases h9 : 9 - i with
                | zero => unfold ruint; rw [if_neg hA, if_neg hB, if_pos hC]
                | succ f => unfold ruint; rw [if_neg hA, if_neg hB, if_pos hC]
              rw [HR.out, HD.out, this]
              rfl
            have e5 : ((c : Int) == 0) = true := by simp; omega
            have e6 : (0 : Int) < (i : Int) := by omega
            have e7 : (c : Int) ≤ 1 := by omega
            clear hA hA9 hC
            go_wp2
            all_goals go_ret3
            all_goals rw [HU.out]
            all_goals exact ⟨rfl, rfl⟩
          · have HU : Hid (uintR bs k = (V, k + i + 1, 0)) := by
              unfold Hid uintR
              have : ruint (9 - i) (c :: bs.drop (k + i + 1)) i q = (V, i + 1, 0) := by
                cases h9 : 9 - i with
                | zero => unfold ruint; rw [if_neg hA, if_neg hB, if_neg hC, HV2.out]
                | succ f => unfold ruint; rw [if_neg hA, if_neg hB, if_neg hC, HV2.out]
              rw [HR.out, HD.out, this]
              rfl
            have HE8 : Hid (((k : Int) + (i : Int) + 1) = ((k + i + 1 : Nat) : Int)) := by unfold Hid; omega
            clear hA
            by_cases h9 : i = 9
            · have := hA9 h9
              have e2 : ((i : Int) == 9) = true := by simp; omega
              have e7 : (c : Int) ≤ 1 := by omega
              have e5 : ((c : Int) == 0) = false := by simp; omega
              have H99 : Hid (i = 9) := h9
              clear hA9 hC h9 this
              go_wp2
              all_goals go_ret3
              all_goals rw [HU.out]
              all_goals exact ⟨tup3 (by first | rfl | exact HVH.out) HE8.out, rfl⟩
            · have e2 : ((i : Int) == 9) = false := by simp; omega
              clear hA9
              by_cases hc0 : c = 0
              · have e5 : ((c : Int) == 0) = true := by simp; omega
                have e6 : (i : Int) ≤ 0 := by omega
                have H0 : Hid (c = 0) := hc0
                clear hC hc0
                go_wp2
                all_goals go_ret3
                all_goals rw [HU.out]
                all_goals exact ⟨tup3 (by first | rfl | exact HVH.out) HE8.out, rfl⟩
              · have e5 : ((c : Int) == 0) = false := by simp; omega
                clear hC
                go_wp2
                all_goals go_ret3
                all_goals rw [HU.out]
                all_goals exact ⟨tup3 (by first | rfl | exact HVH.out) HE8.out, rfl⟩

set_option maxRecDepth 100000 in
theorem refReadBytes_out {v : Value} {bs : List Nat} {w : World} (hr : Rd w v bs) (at_ most : Int) (h : at_ < 0 ∨ (bs.length : Int) < at_ ∨ most < 0) :
    Calls Tryd.prog 39 #[v, .int .i64 at_, .int .i64 most] w fun e w' => e = .returned (.tuple #[.slice none 0 0, .int .i64 0, .int .i64 1]) ∧ w' = w := by
  obtain ⟨a, n, cap, rfl⟩ := rd_slice hr
  obtain ⟨hn, hle, hm, hl48⟩ := rd_lens hr
  rw [← hn] at h
  clear hn hr
  by_cases h1 : at_ < 0 ∨ (n : Int) < at_
  · have hd : decide (at_ < 0 ∨ (n : Int) < at_) = true := by simpa using h1
    clear h h1
    go_enter Tryd.func39, Tryd.ntmps39
    go_wp2_with fail
    refine (refOutside_any at_ hl48).mono ?_
    rintro e w1 ⟨rfl, rfl⟩
    rw [hd]
    go_wp2
    go_ret3
    exact ⟨rfl, rfl⟩
  · have hd : decide (at_ < 0 ∨ (n : Int) < at_) = false := by simpa using h1
    have h2 : most < 0 := by omega
    clear h h1
    go_enter Tryd.func39, Tryd.ntmps39
    go_wp2_with fail
    refine (refOutside_any at_ hl48).mono ?_
    rintro e w1 ⟨rfl, rfl⟩
    rw [hd]
    go_wp2
    go_ret3
    exact ⟨rfl, rfl⟩

end Go.Proofs.YtledfniedoapiaaDoor

namespace Go.Proofs.YtledfniedoapiaaDoor
open Go.RowKit
set_option linter.unusedVariables false

theorem heap_new (w : World) (o : Obj) : (w.alloc o).heap[w.heap.size]? = some o := by
  show (w.heap.push o)[w.heap.size]? = some o
  simp

theorem own_one (w : World) (B x : Nat) (hB : B ≤ w.heap.size) : Own (w.alloc (.cells #[.int .u8 (x : Int)] 5)) B (.slice (some ⟨w.heap.size, 0, none⟩) 1 1) 1 [x] := by
  refine ⟨rfl, rfl, .inr ⟨w.heap.size, 1, #[.int .u8 (x : Int)], rfl, hB, heap_new w _, Nat.le_refl _, by decide, rfl, rfl⟩⟩

end Go.Proofs.YtledfniedoapiaaDoor
