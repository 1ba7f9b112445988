import Derived.Test.YthpdlclgiggekaaStarted
namespace Go.Proofs.Ythpdlclgiggekaa
open Go.RowKit
set_option linter.unusedVariables false

theorem uintF_len (f v : Nat) : 1 ≤ (uintF f v).length ∧ (uintF f v).length ≤ f + 1 := by
  induction f generalizing v with
  | zero => simp [uintF]
  | succ f ih =>
    unfold uintF
    split
    · have := ih (v / 128); simp; omega
    · simp
theorem uintL_len (v : Nat) : 1 ≤ (uintL v).length ∧ (uintL v).length ≤ 10 := uintF_len 9 v
theorem uintF_bys (f v : Nat) (h : v < 128 ^ (f + 1)) : Bys (uintF f v) := by
  induction f generalizing v with
  | zero => intro x hx; simp [uintF] at hx; simp at h; omega
  | succ f ih =>
    unfold uintF
    split
    · intro x hx
      simp only [List.mem_cons] at hx
      rcases hx with rfl | hx
      · omega
      · exact ih (v / 128) (by rw [Nat.pow_succ] at h; exact Nat.div_lt_of_lt_mul (by rw [Nat.mul_comm]; exact h)) x hx
    · intro x hx; simp at hx; omega
theorem uintL_bys (v : Nat) (h : v < 18446744073709551616) : Bys (uintL v) := uintF_bys 9 v (Nat.lt_of_lt_of_le h (by decide))

def bytesL (bs : List Nat) : List Nat := uintL bs.length ++ bs

theorem own_le10 {w : World} {B : Nat} {v : Value} {m n k : Nat} (h : Own w B v m ([] ++ uintL k)) (hl : n ≤ 140737488355312) : m + n ≤ 140737488355328 := by
  have h1 := h.1
  have h2 := uintL_len k
  rw [List.nil_append] at h1
  omega

set_option maxRecDepth 100000 in
set_option maxHeartbeats 1000000 in
theorem bytes_any {v : Value} {bs : List Nat} {w : World} (hr : Rd w v bs) (hl : bs.length ≤ 140737488355312) :
    Calls Try.prog 64 #[v] w fun e w' => ∃ a m c, e = .returned (.slice a m c) ∧ Own w' w.heap.size (.slice a m c) m (bytesL bs) ∧ Below w.heap.size w w' := by
  obtain ⟨i0, hi, hz0, hz1, hz2⟩ := info_parts info_byte
  obtain ⟨a, n, cap, rfl⟩ := rd_slice hr
  obtain ⟨hn, hle, hm, hl48⟩ := rd_lens hr
  rw [← hn] at hl
  have HN : Hid (n = bs.length) := hn
  clear hn hm
  have hem : (n : Int) % 18446744073709551616 = (n : Int) := by omega
  go_enter Try.func64, Try.ntmps64
  go_wp2_with fail
  refine (uint_at _ n rfl (by omega) _ rfl).mono ?_
  rintro e w1 ⟨a1, m1, c1, rfl, own1, hb1⟩
  have hl1 := uintL_len n
  rw [← own1.1] at hl1
  have r1 := own1.rd (uintL_bys n (by omega)) (by omega)
  have hs1 := hb1.size
  clear own1
  go_wp2_with (at_make; refine wpList_make_own _ rfl _ _ 33 rfl w.heap.size 5 i0 (.int .u8 0) 1 und_bytes hi hz0 hz1 .i64 .i64 _ (m1 + n) rfl rfl ?c0 ?c1 ?c2 ?c3 ?_)
  case c0 => omega
  case c1 => rw [hz2]; omega
  case c2 => unfold maxLen; omega
  case c3 => omega
  intro w2 hown2 hg2
  have hb2 : Below w1.heap.size w1 w2 := (Below.refl _ w1).grown hg2 (Nat.le_refl _) (fun k hk => by simp at hk)
  have hb2' := hb1.trans (hb2.mono hs1)
  have own2 : Own w2 w.heap.size (.slice (some ⟨w1.heap.size, 0, none⟩) 0 (m1 + n)) 0 [] := ⟨rfl, hown2⟩
  have r2 := r1.later hb2
  have hs2 := hb2'.size
  clear hg2 hb2 hown2 r1
  go_wp2_with (first
    | (at_builtin; refine wpList_append_at rfl (.tmp 15) _ rfl w.heap.size _ _ _ _ rfl own2 _ _ _ _ rfl r2 (by omega) hs2 ?_; intro a5 m5 c5 w5 own5 hb5)
    | (at_builtin; refine wpList_append_at rfl (.tmp 18) _ rfl w.heap.size _ _ _ _ rfl own5 _ _ _ _ rfl (hr.later (hb2'.trans hb5)) (own_le10 own5 hl) (hb2'.trans hb5).size ?_; intro a6 m6 c6 w6 own6 hb6))
  go_ret
  refine ⟨a6, m6, c6, rfl, ?_, (hb2'.trans hb5).trans hb6⟩
  have e := HN.out
  subst e
  simpa [bytesL] using own6

theorem ruint_ok : ∀ (f : Nat) (l : List Nat) (i v V c : Nat), ruint f l i v = (V, c, 0) → i + f = 9 → v < 128 ^ i → i < c ∧ c ≤ i + l.length ∧ V < 18446744073709551616 := by
  intro f
  induction f with
  | zero =>
    intro l i v V c h hi hv
    cases l with
    | nil => simp [ruint] at h
    | cons x r =>
      unfold ruint at h
      split at h
      · simp at h
      · split at h
        · simp at h
        · split at h
          · simp at h
          · rename_i h1 h2 h3
            simp only [Prod.mk.injEq, and_true] at h
            obtain ⟨rfl, rfl⟩ := h
            refine ⟨by omega, by simp, ?_⟩
            have hi9 : i = 9 := by omega
            subst hi9
            have hx : x ≤ 1 := by
              by_cases hx : 1 < x
              · exact absurd ⟨rfl, hx⟩ h1
              · omega
            have : x % 128 * 128 ^ 9 ≤ 1 * 128 ^ 9 := Nat.mul_le_mul_right _ (by omega)
            have e : (128 : Nat) ^ 9 = 9223372036854775808 := by decide
            rw [e] at this hv ⊢
            omega
  | succ f ih =>
    intro l i v V c h hi hv
    cases l with
    | nil => simp [ruint] at h
    | cons x r =>
      unfold ruint at h
      split at h
      · simp at h
      · split at h
        · have := ih r (i + 1) _ V c h (by omega) (next_lt v x i hv)
          simp only [List.length_cons]
          omega
        · split at h
          · simp at h
          · rename_i h1 h2 h3
            simp only [Prod.mk.injEq, and_true] at h
            obtain ⟨rfl, rfl⟩ := h
            refine ⟨by omega, by simp, ?_⟩
            have h8 : 128 ^ (i + 1) ≤ 128 ^ 9 := Nat.pow_le_pow_right (by omega) (by omega)
            have e : (128 : Nat) ^ 9 = 9223372036854775808 := by decide
            have := next_lt v x i hv
            rw [e] at h8
            omega
theorem uintR_ok {bs : List Nat} {k V P : Nat} (h : uintR bs k = (V, P, 0)) (hk : k ≤ bs.length) : k < P ∧ P ≤ bs.length ∧ V < 18446744073709551616 := by
  unfold uintR at h
  simp only [Prod.mk.injEq] at h
  obtain ⟨h1, h2, h3⟩ := h
  rw [if_pos h3] at h2
  have := ruint_ok 9 (bs.drop k) 0 0 V (ruint 9 (bs.drop k) 0 0).2.1 (Prod.ext h1 (Prod.ext rfl h3)) rfl (by simp)
  rw [List.length_drop] at this
  omega
theorem ruint_err : ∀ (f : Nat) (l : List Nat) (i v : Nat), (ruint f l i v).2.2 ≠ 0 → (ruint f l i v).1 = 0 := by
  intro f
  induction f with
  | zero =>
    intro l i v h
    cases l with
    | nil => rfl
    | cons x r =>
      unfold ruint at h ⊢
      split
      · rfl
      · split
        · rfl
        · split
          · rfl
          · rename_i h1 h2 h3; simp [h1, h2, h3] at h
  | succ f ih =>
    intro l i v h
    cases l with
    | nil => rfl
    | cons x r =>
      unfold ruint at h ⊢
      split
      · rfl
      · split
        · rename_i h1 h2; rw [if_neg h1, if_pos h2] at h; exact ih _ _ _ h
        · split
          · rfl
          · rename_i h1 h2 h3; simp [h1, h2, h3] at h
theorem ruint_e : ∀ (f : Nat) (l : List Nat) (i v : Nat), (ruint f l i v).2.2 ≤ 13 := by
  intro f
  induction f with
  | zero =>
    intro l i v
    cases l with
    | nil => simp [ruint]
    | cons x r =>
      unfold ruint
      split
      · simp
      · split
        · simp
        · split <;> simp
  | succ f ih =>
    intro l i v
    cases l with
    | nil => simp [ruint]
    | cons x r =>
      unfold ruint
      split
      · simp
      · split
        · exact ih _ _ _
        · split <;> simp

/-- What ReadBytes answers. -/
def bytesR (bs : List Nat) (k most : Nat) : List Nat × Nat × Nat :=
  if (uintR bs k).2.2 ≠ 0 then ([], 0, (uintR bs k).2.2)
  else if most < (uintR bs k).1 then ([], 0, 13)
  else if bs.length < (uintR bs k).2.1 + (uintR bs k).1 then ([], 0, 10)
  else ((bs.drop (uintR bs k).2.1).take (uintR bs k).1, (uintR bs k).2.1 + (uintR bs k).1, 0)

set_option maxRecDepth 100000 in
set_option maxHeartbeats 1000000 in
theorem readBytes_out {v : Value} {bs : List Nat} {w : World} (hr : Rd w v bs) (at_ most : Int) (h : at_ < 0 ∨ (bs.length : Int) < at_ ∨ most < 0) :
    Calls Try.prog 65 #[v, .int .i64 at_, .int .i64 most] w fun e w' => e = .returned (.tuple #[.slice none 0 0, .int .i64 0, .int .i64 1]) ∧ w' = w := by
  obtain ⟨a, n, cap, rfl⟩ := rd_slice hr
  obtain ⟨hn, hle, hm, hl48⟩ := rd_lens hr
  rw [← hn] at h
  clear hn hr
  by_cases ho : at_ < 0 ∨ (n : Int) < at_
  · have hd : decide (at_ < 0 ∨ (n : Int) < at_) = true := by simpa using ho
    clear h ho
    go_enter Try.func65, Try.ntmps65
    go_wp2_with fail
    refine (outside_any at_ hl48).mono ?_
    rintro e w1 ⟨rfl, rfl⟩
    rw [hd]
    go_wp2
    go_ret3
    exact ⟨rfl, rfl⟩
  · have hd : decide (at_ < 0 ∨ (n : Int) < at_) = false := by simpa using ho
    have hmost : most < 0 := by omega
    clear h ho
    go_enter Try.func65, Try.ntmps65
    go_wp2_with fail
    refine (outside_any at_ hl48).mono ?_
    rintro e w1 ⟨rfl, rfl⟩
    rw [hd]
    go_wp2
    go_ret3
    exact ⟨rfl, rfl⟩

set_option maxRecDepth 100000 in
set_option maxHeartbeats 1000000 in
theorem readBytes_in {v : Value} {bs : List Nat} {w : World} (hr : Rd w v bs) (k most : Nat) (hk : k ≤ bs.length) (hmost : most < 9223372036854775808) (h47 : bs.length ≤ 140737488355328) :
    Calls Try.prog 65 #[v, .int .i64 (k : Int), .int .i64 (most : Int)] w fun e w' => ∃ a m c, e = .returned (.tuple #[.slice a m c, .int .i64 (((bytesR bs k most).2.1 : Nat) : Int), .int .i64 (((bytesR bs k most).2.2 : Nat) : Int)]) ∧ Own w' w.heap.size (.slice a m c) m (bytesR bs k most).1 ∧ Below w.heap.size w w' := by
  obtain ⟨a, n, cap, rfl⟩ := rd_slice hr
  obtain ⟨hn, hle, hm, hl48⟩ := rd_lens hr
  have hk' := hk
  rw [← hn] at hk h47
  have HN : Hid (n = bs.length) := hn
  clear hn
  unfold maxLen at hm
  have hk2 : (k : Int) ≤ (n : Int) := by omega
  have hk0 : (0 : Int) ≤ (k : Int) := by omega
  have hd : decide ((k : Int) < 0 ∨ (n : Int) < (k : Int)) = false := by simp; omega
  have hm0 : (0 : Int) ≤ (most : Int) := by omega
  have hemm : (most : Int) % 18446744073709551616 = (most : Int) := by omega
  obtain ⟨R, hR⟩ : ∃ R, R = uintR bs k := ⟨_, rfl⟩
  obtain ⟨V, P, E⟩ := R
  have hEb : E ≤ 13 := by
    have := ruint_e 9 (bs.drop k) 0 0
    have h2 : E = (uintR bs k).2.2 := by rw [← hR]
    rw [h2]
    exact this
  have HK : Hid (k ≤ bs.length) := hk'
  have HRR : Hid (uintR bs k = (V, P, E)) := hR.symm
  clear hk'
  by_cases hE : E = 0
  · subst hE
    obtain ⟨hkp, hpn, hV⟩ := uintR_ok hR.symm HK.out
    rw [← HN.out] at hpn
    have hsub : ((n : Int) - (P : Int)) % 18446744073709551616 = (n : Int) - (P : Int) := by omega
    by_cases hbig : most < V
    · have hf : bytesR bs k most = ([], 0, 13) := by unfold bytesR; rw [← hR]; simp [hbig]
      rw [hf]
      have e1 : (most : Int) < (V : Int) := by omega
      clear hf hR
      go_enter Try.func65, Try.ntmps65
      go_wp2_with fail
      refine (outside_any _ hl48).mono ?_
      rintro e w1 ⟨rfl, rfl⟩
      rw [hd]
      go_wp2_with fail
      refine (readUint_at hr _ k rfl HK.out HRR.out).mono ?_
      rintro e w2 ⟨rfl, rfl⟩
      go_wp2
      go_ret3
      exact ⟨_, _, _, rfl, ⟨rfl, World.ownsRow_nil _ _ _ _⟩, Below.refl _ _⟩
    · have e1 : (V : Int) ≤ (most : Int) := by omega
      by_cases htorn : n < P + V
      · have hf : bytesR bs k most = ([], 0, 10) := by unfold bytesR; rw [← hR, ← HN.out]; simp [hbig, htorn]
        rw [hf]
        have e2 : (n : Int) - (P : Int) < (V : Int) := by omega
        clear hf hR
        go_enter Try.func65, Try.ntmps65
        go_wp2_with fail
        refine (outside_any _ hl48).mono ?_
        rintro e w1 ⟨rfl, rfl⟩
        rw [hd]
        go_wp2_with fail
        refine (readUint_at hr _ k rfl HK.out HRR.out).mono ?_
        rintro e w2 ⟨rfl, rfl⟩
        go_wp2
        go_ret3
        exact ⟨_, _, _, rfl, ⟨rfl, World.ownsRow_nil _ _ _ _⟩, Below.refl _ _⟩
      · have hf : bytesR bs k most = ((bs.drop P).take V, P + V, 0) := by unfold bytesR; rw [← hR, ← HN.out]; simp [hbig, htorn]
        rw [hf]
        have e2 : (V : Int) ≤ (n : Int) - (P : Int) := by omega
        have hVm : IntKind.i64.wrap (V : Int) = (V : Int) := by simp only [IntKind.wrap, IntKind.bits, IntKind.signed]; simp; omega
        clear hf hR
        by_cases hcP : cap = P
        · have hV0 : V = 0 := by omega
          have hnP : n = P := by omega
          have HDR : Hid ((bs.drop P).take V = []) := by unfold Hid; rw [hV0]; simp
          have HRP : Hid (uintR bs k = (0, P, 0)) := by unfold Hid; rw [HRR.out, hV0]
          rw [HDR.out]
          clear HRR HDR
          subst hV0 hcP hnP
          go_enter Try.func65, Try.ntmps65
          go_wp2_with fail
          refine (outside_any _ hl48).mono ?_
          rintro e w1 ⟨rfl, rfl⟩
          rw [hd]
          go_wp2_with fail
          refine (readUint_at hr _ k rfl HK.out HRP.out).mono ?_
          rintro e w2 ⟨rfl, rfl⟩
          go_wp2_with fail
          refine (handed (clone_any (Rd.zero _ a) (by simp))).mono ?_
          rintro e w5 ⟨a5, m5, c5, rfl, own5, hb5⟩
          go_wp2
          go_ret3
          exact ⟨a5, m5, c5, rfl, own5, hb5⟩
        · rcases rd_some hr with ⟨h0, _⟩ | ⟨b, off, rfl⟩
          · omega
          have rb := hr.sub P (P + V) (by omega) (by omega) (off' := off + P) (n' := V) (cap' := cap - P) (by omega) (by omega) (by omega)
          have eb : (bs.take (P + V)).drop P = (bs.drop P).take V := by rw [List.drop_take]; congr 1; omega
          rw [eb] at rb
          have HBL : Hid (((bs.drop P).take V).length ≤ 140737488355328) := by unfold Hid; rw [List.length_take]; omega
          clear eb htorn hbig
          go_enter Try.func65, Try.ntmps65
          go_wp2_with fail
          refine (outside_any _ hl48).mono ?_
          rintro e w1 ⟨rfl, rfl⟩
          rw [hd]
          go_wp2_with fail
          refine (readUint_at hr _ k rfl HK.out HRR.out).mono ?_
          rintro e w2 ⟨rfl, rfl⟩
          go_wp2_with fail
          refine (handed (clone_any rb HBL.out)).mono ?_
          rintro e w5 ⟨a5, m5, c5, rfl, own5, hb5⟩
          go_wp2
          go_ret3
          refine ⟨a5, m5, c5, ?_, own5, hb5⟩
          have e9 : (P : Int) + (V : Int) = ((P + V : Nat) : Int) := by omega
          exact congrArg (fun z : Int => Ending.returned (Value.tuple #[Value.slice a5 m5 c5, Value.int .i64 z, Value.int .i64 0])) e9
  · have hf : bytesR bs k most = ([], 0, E) := by unfold bytesR; rw [← hR]; simp [hE]
    rw [hf]
    have e1 : ((E : Int) != 0) = true := by simp; omega
    clear hf hR
    go_enter Try.func65, Try.ntmps65
    go_wp2_with fail
    refine (outside_any _ hl48).mono ?_
    rintro e w1 ⟨rfl, rfl⟩
    rw [hd]
    go_wp2_with fail
    refine (readUint_at hr _ k rfl HK.out HRR.out).mono ?_
    rintro e w2 ⟨rfl, rfl⟩
    go_wp2
    go_ret3
    exact ⟨_, _, _, rfl, ⟨rfl, World.ownsRow_nil _ _ _ _⟩, Below.refl _ _⟩

end Go.Proofs.Ythpdlclgiggekaa
