import Derived.Test.YtnjopfdeapclhaaJ00
import Derived.Shelf.Bytes.SlCountOne
namespace Go.Proofs.Ytnjopfdeapclhaa
open Go.RowKit
set_option linter.unusedVariables false

theorem st1 : uintR [9, 172, 2] 1 = (300, 3, 0) := by decide
theorem st2 : (frameL [7]).length = 13 := by decide
theorem st3 : frameR (frameL [7]) 0 = ([7], 13, 0) := by decide
theorem st4 : uintL 300 = [172, 2] := by decide

theorem rd_new (w : World) (g : Nat) (hg : g = w.heap.size) (bs : List Nat) (vs : List Value) (hv : vs = bv bs) (hb : Bys bs) (hl : bs.length ≤ 1000) (n : Nat) (hn : n = bs.length) :
    Rd (w.alloc (.cells vs.toArray 5)) (.slice (some ⟨g, 0, none⟩) n n) bs := by
  subst hv hn hg
  refine ⟨hb, _, _, rfl, Nat.le_refl _, by unfold maxLen; omega, by omega, .inr ⟨w.heap.size, 0, rfl⟩, .inr ⟨w.heap.size, 0, rfl, fun i hi => ?_⟩⟩
  have := news_new w (bv bs) 5 i (.int .u8 ((bs.getD i 0 : Nat) : Int)) (by simp [bv, List.getElem?_eq_getElem hi])
  have e : (⟨w.heap.size, 0, none⟩ : Addr).add i = ⟨w.heap.size, 0 + i, none⟩ := by unfold Addr.add; split <;> simp_all
  rwa [e] at this

theorem uint_at (z : Int) (v : Nat) (hz : z = (v : Int)) (hv : v < 18446744073709551616) (w : World) {L : List Nat} (hL : uintL v = L) :
    Calls Try.prog 63 #[.int .u64 z] w fun e w' => ∃ a m c, e = .returned (.slice a m c) ∧ Own w' w.heap.size (.slice a m c) m L ∧ Below w.heap.size w w' := by
  subst hz hL
  exact handed (uint_any v hv w)
theorem bys7 : Bys [7] := by intro x hx; simp at hx; omega

end Go.Proofs.Ytnjopfdeapclhaa

namespace Go.Proofs.Ytnjopfdeapclhaa
open Go.RowKit
set_option linter.unusedVariables false

/-- Eight bytes, the highest first. -/
def be8 (n : Nat) : List Nat := [n / 2 ^ 56 % 256, n / 2 ^ 48 % 256, n / 2 ^ 40 % 256, n / 2 ^ 32 % 256, n / 2 ^ 24 % 256, n / 2 ^ 16 % 256, n / 2 ^ 8 % 256, n % 256]
theorem be8_bys (n : Nat) : Bys (be8 n) := by intro x hx; simp [be8] at hx; omega
theorem be8_get (n t : Nat) (h : t < 8) : (be8 n).getD t 0 = n / 2 ^ (8 * (7 - t)) % 256 := by
  match t, h with
  | 0, _ => rfl
  | 1, _ => rfl
  | 2, _ => rfl
  | 3, _ => rfl
  | 4, _ => rfl
  | 5, _ => rfl
  | 6, _ => rfl
  | 7, _ => simp [be8]
def fill8 (n t : Nat) : List Nat := (be8 n).take t ++ List.replicate (8 - t) 0
theorem fill8_len (n t : Nat) (h : t ≤ 8) : (fill8 n t).length = 8 := by simp [fill8, be8]; omega
theorem fill8_next (n t : Nat) (h : t < 8) : (fill8 n t).set t ((be8 n).getD t 0) = fill8 n (t + 1) := by
  match t, h with
  | 0, _ => rfl
  | 1, _ => rfl
  | 2, _ => rfl
  | 3, _ => rfl
  | 4, _ => rfl
  | 5, _ => rfl
  | 6, _ => rfl
  | 7, _ => rfl

set_option maxRecDepth 100000 in
set_option maxHeartbeats 400000 in
theorem rising_neg (z : Int) (hz : z < 0) (w : World) : Calls Try.prog 96 #[.int .i64 z] w fun e w' => e = .returned (.tuple #[.slice none 0 0, .int .i64 1]) ∧ w' = w := by
  go_enter Try.func96, Try.ntmps96
  go_wp2
  go_ret2
  exact ⟨rfl, rfl⟩

set_option maxRecDepth 100000 in
set_option maxHeartbeats 1000000 in
theorem rising_any (n : Nat) (hn : n < 9223372036854775808) (w : World) :
    Calls Try.prog 96 #[.int .i64 (n : Int)] w fun e w' => ∃ a m c, e = .returned (.tuple #[.slice a m c, .int .i64 0]) ∧ Own w' w.heap.size (.slice a m c) m (be8 n) ∧ Below w.heap.size w w' := by
  have h0 : (0 : Int) ≤ (n : Int) := by omega
  have hmk : ∀ w, (Instr.makeSlice 28 (.int .i64 8) (.int .i64 8)).run Try.prog w = .ok (.slice (some ⟨w.heap.size, 0, none⟩) 8 8) (w.alloc (.cells #[.int .u8 0, .int .u8 0, .int .u8 0, .int .u8 0, .int .u8 0, .int .u8 0, .int .u8 0, .int .u8 0] 5)) := fun _ => by kernel_rfl
  go_enter Try.func96, Try.ntmps96
  go_wp2
  go_loopw [11] (fun i wr => ∃ t, t ≤ 8 ∧ i = .int .i64 ((t : Nat) : Int) ∧ Own wr w.heap.size (.slice (some ⟨w.heap.size, 0, none⟩) 8 8) 8 (fill8 n t) ∧ Below w.heap.size w wr) (fun i _ => 8 - (intOf i).toNat)
  case atStart =>
    refine ⟨0, by omega, rfl, ⟨rfl, ?_⟩, (Below.refl _ _).alloc (Nat.le_refl _) _⟩
    exact ⟨rfl, .inr ⟨w.heap.size, 8, _, rfl, Nat.le_refl _, heap_alloc_new w _, by omega, by unfold maxLen; omega, rfl, rfl⟩⟩
  case round =>
    obtain ⟨t, htl, rfl, ownk, hbk⟩ := hrel
    by_cases hlt : t < 8
    · have hlt2 : (t : Int) < 8 := by omega
      have hfz := ownk.2.frozenAt t
      have hcell : wr.cell? ⟨w.heap.size, t, none⟩ = some (.int .u8 (((fill8 n t).getD t 0 : Nat) : Int)) := by
        rw [ownk.2.cellAt t (by omega)]
        simp [bv, List.getElem?_eq_getElem (show t < (fill8 n t).length by rw [fill8_len n t (by omega)]; exact hlt)]
      obtain ⟨y, hy⟩ : ∃ y, y = (fill8 n t).getD t 0 := ⟨_, rfl⟩
      rw [← hy] at hcell
      clear hy
      have HOWN : Hid (Own wr w.heap.size (.slice (some ⟨w.heap.size, 0, none⟩) 8 8) 8 (fill8 n t)) := ownk
      have HBK : Hid (Below w.heap.size w wr) := hbk
      clear ownk hbk
      have hvv : ((n : Int) / 2 ^ (8 * (7 - t)) % 256) = (((be8 n).getD t 0 : Nat) : Int) := by
        rw [be8_get n t hlt]; simp
      have HVV : Hid (((n : Int) / 2 ^ (8 * (7 - t)) % 256) = (((be8 n).getD t 0 : Nat) : Int)) := hvv
      clear hvv
      go_wp2
      go_roundw
      case rel =>
        have st := HOWN.out.2.stored t (.int .u8 ((n : Int) / 2 ^ (8 * (7 - t)) % 256))
        refine ⟨t + 1, by omega, by go_num, ⟨by rw [fill8_len n (t + 1) (by omega)], ?_⟩, HBK.out.setCell (p := ⟨w.heap.size, t, none⟩) (Nat.le_refl _) _⟩
        have := st.1
        rw [HVV.out] at this ⊢
        have e : bv (fill8 n (t + 1)) = (bv (fill8 n t)).set t (.int .u8 (((be8 n).getD t 0 : Nat) : Int)) := by
          rw [← fill8_next n t hlt]
          simp [bv, List.map_set]
        rw [e]
        exact this
      case measure => simp [intOf]; omega
    · have hge : (8 : Int) ≤ (t : Int) := by omega
      obtain rfl : t = 8 := by omega
      have e : fill8 n 8 = be8 n := rfl
      rw [e] at ownk
      go_wp2
      go_ret2
      exact ⟨_, _, _, rfl, ownk, hbk⟩

theorem rising_at (z : Int) (n : Nat) (hz : z = (n : Int)) (hn : n < 9223372036854775808) (w : World) :
    Calls Try.prog 96 #[.int .i64 z] w fun e w' => ∃ a m c, e = .returned (.tuple #[.slice a m c, .int .i64 0]) ∧ Own w' w.heap.size (.slice a m c) m (be8 n) ∧ Below w.heap.size w w' := by
  subst hz; exact rising_any n hn w

set_option maxRecDepth 100000 in
set_option maxHeartbeats 400000 in
theorem falling_neg (z : Int) (hz : z < 0) (w : World) : Calls Try.prog 85 #[.int .i64 z] w fun e w' => e = .returned (.tuple #[.slice none 0 0, .int .i64 1]) ∧ w' = w := by
  go_enter Try.func85, Try.ntmps85
  go_wp2
  go_ret2
  exact ⟨rfl, rfl⟩
set_option maxRecDepth 100000 in
set_option maxHeartbeats 400000 in
theorem falling_any (n : Nat) (hn : n < 9223372036854775808) (w : World) :
    Calls Try.prog 85 #[.int .i64 (n : Int)] w fun e w' => ∃ a m c, e = .returned (.tuple #[.slice a m c, .int .i64 0]) ∧ Own w' w.heap.size (.slice a m c) m (be8 (9223372036854775807 - n)) ∧ Below w.heap.size w w' := by
  have h0 : (0 : Int) ≤ (n : Int) := by omega
  have h1 : (n : Int) ≤ 9223372036854775807 := by omega
  obtain ⟨q, hq⟩ : ∃ q, q = 9223372036854775807 - n := ⟨_, rfl⟩
  have HQ : Hid (((9223372036854775807 : Int) - (n : Int)) = (q : Int)) := by unfold Hid; omega
  have HQ2 : Hid (q < 9223372036854775808) := by unfold Hid; omega
  rw [← hq]
  clear hq
  go_enter Try.func85, Try.ntmps85
  go_wp2_with fail
  refine (rising_at _ q HQ.out HQ2.out _).mono ?_
  rintro e w1 ⟨a1, m1, c1, rfl, own1, hb1⟩
  go_wp2
  go_ret2
  exact ⟨a1, m1, c1, rfl, own1, hb1⟩

/-- What eight bytes say. -/
def num8 (l : List Nat) : Nat := l.foldl (fun v c => v * 256 + c) 0
theorem num8_lt (l : List Nat) (h : Bys l) : num8 l < 256 ^ l.length := by
  have key : ∀ (l : List Nat) (v k : Nat), Bys l → v < 256 ^ k → l.foldl (fun v c => v * 256 + c) v < 256 ^ (k + l.length) := by
    intro l
    induction l with
    | nil => intro v k _ hv; simpa using hv
    | cons c l ih =>
      intro v k hb hv
      have := ih (v * 256 + c) (k + 1) (fun x hx => hb x (by simp [hx])) (by have := hb c (by simp); rw [Nat.pow_succ]; omega)
      rw [show k + (c :: l).length = k + 1 + l.length by simp; omega]
      exact this
  have := key l 0 0 h (by simp)
  rw [Nat.zero_add] at this
  exact this
theorem num8_snoc (l : List Nat) (t : Nat) (h : t < l.length) : num8 (l.take (t + 1)) = num8 (l.take t) * 256 + l.getD t 0 := by
  rw [take_succ_getD l t h]
  simp [num8, List.foldl_append]
/-- What ReadRising answers. -/
def riseR (bs : List Nat) (k : Nat) : Nat × Nat × Nat :=
  if bs.length < k + 8 then (0, 0, 10)
  else if 9223372036854775807 < num8 ((bs.drop k).take 8) then (0, 0, 13)
  else (num8 ((bs.drop k).take 8), k + 8, 0)

/-- What ReadFalling answers. -/
def fallR (bs : List Nat) (k : Nat) : Nat × Nat × Nat :=
  if (riseR bs k).2.2 ≠ 0 then (0, 0, (riseR bs k).2.2) else (9223372036854775807 - (riseR bs k).1, (riseR bs k).2.1, 0)
theorem riseR_lt (bs : List Nat) (k : Nat) : (riseR bs k).1 ≤ 9223372036854775807 ∧ (riseR bs k).2.2 ≤ 13 ∧ ((riseR bs k).2.2 ≠ 0 → (riseR bs k).2.1 = 0) ∧ (riseR bs k).2.1 ≤ k + 8 := by
  unfold riseR
  split
  · simp
  · split
    · simp
    · rename_i h1 h2
      refine ⟨by show num8 _ ≤ _; omega, by simp, by simp, by simp⟩

end Go.Proofs.Ytnjopfdeapclhaa

namespace Go.Proofs.Ytnjopfdeapclhaa
open Go.RowKit
set_option linter.unusedVariables false

theorem ints_at {w : World} {x : Addr} {bs : List Nat} (h : At w (some x) bs) : ∀ i, i < bs.length → w.cell? (x.add i) = some (.int .u8 ((bs.map fun n : Nat => (n : Int)).getD i 0)) := by
  intro i hi
  have := h.add i (.int .u8 ((bs.getD i 0 : Nat) : Int)) (by simp [bv, List.getElem?_eq_getElem hi])
  rw [this]
  simp [List.getElem?_eq_getElem hi]

theorem count_eq (bs : List Nat) (h : Bys bs) : Lib.countByte (Lib.bytesOf (bs.map fun n : Nat => (n : Int))) (0 : Int).toNat.toUInt8 = bs.count 0 := by
  unfold Lib.countByte Lib.bytesOf
  induction bs with
  | nil => rfl
  | cons c r ih =>
    have hc := h c (by simp)
    have ih' := ih (fun x hx => h x (by simp [hx]))
    simp only [List.map_cons, List.count_cons]
    rw [ih']
    congr 1
    have e : (UInt8.ofNat ((c : Int)).toNat == (0 : Int).toNat.toUInt8) = (c == 0) := by
      rw [Int.toNat_natCast]
      by_cases h0 : c = 0
      · subst h0; rfl
      · have : UInt8.ofNat c ≠ (0 : Int).toNat.toUInt8 := by
          intro hh
          have h2 := congrArg UInt8.toNat hh
          simp at h2
          omega
        rw [beq_eq_false_iff_ne.2 this, beq_eq_false_iff_ne.2 h0]
    rw [e]

set_option maxRecDepth 100000 in
set_option maxHeartbeats 1000000 in
theorem count_any {v : Value} {bs : List Nat} {w : World} (hr : Rd w v bs) (g : Nat) (hg : w.cell? ⟨g, 0, none⟩ = some (.int .u8 0)) :
    Calls Try.prog 84 #[v, .slice (some ⟨g, 0, none⟩) 1 1] w fun e w' => e = .returned (.int .i64 ((bs.count 0 : Nat) : Int)) ∧ w' = w := by
  obtain ⟨hby, a, cap, rfl, hle, hm, hl48, hnone, hat⟩ := hr
  cases a with
  | none =>
    have hb0 : bs = [] ∧ cap = 0 := by
      rcases hnone with h | ⟨b, off, h⟩
      · exact ⟨List.eq_nil_of_length_eq_zero (by omega), h⟩
      · cases h
    obtain ⟨rfl, rfl⟩ := hb0
    go_enter Try.func84, Try.ntmps84
    go_wp2
    rw [run_callFunc_extern Try.func94 (by kernel_rfl) (by kernel_rfl) (by kernel_rfl) (e := Extern.BytealgCount.count) (by kernel_rfl), Lib.run_countNil w 0 0 0]
    simp only [Result.andThen]
    rw [Oper.upon_value]
    go_wp2
    go_ret
    exact ⟨rfl, rfl⟩
  | some x =>
    have hi := ints_at hat
    obtain ⟨n, hn⟩ : ∃ n, n = bs.length := ⟨_, rfl⟩
    have hc := Lib.run_countAt (P := Try.prog) w x n cap (bs.map fun n : Nat => (n : Int)) (by simp [hn]) (by rw [hn]; exact hi) 0
    rw [← hn]
    have HN : Hid (n = bs.length) := hn
    have HCT : Hid (Lib.countByte (Lib.bytesOf (bs.map fun n : Nat => (n : Int))) (0 : Int).toNat.toUInt8 = bs.count 0) := count_eq bs hby
    obtain ⟨C, hC⟩ : ∃ C, C = Lib.countByte (Lib.bytesOf (bs.map fun n : Nat => (n : Int))) (0 : Int).toNat.toUInt8 := ⟨_, rfl⟩
    rw [← hC] at hc
    have HC : Hid (C = bs.count 0) := by unfold Hid; rw [hC]; exact HCT.out
    clear hn hi hat hnone hle hl48 hC HCT
    go_enter Try.func84, Try.ntmps84
    go_wp2
    rw [run_callFunc_extern Try.func94 (by kernel_rfl) (by kernel_rfl) (by kernel_rfl) (e := Extern.BytealgCount.count) (by kernel_rfl), hc]
    simp only [Result.andThen]
    rw [Oper.upon_value]
    go_wp2
    go_ret
    rw [← HC.out]
    exact ⟨rfl, rfl⟩

def escL : List Nat → List Nat
  | [] => []
  | c :: r => if c = 0 then 0 :: 255 :: escL r else c :: escL r
def ordL (bs : List Nat) : List Nat := escL bs ++ [0, 1]
theorem escL_append (a b : List Nat) : escL (a ++ b) = escL a ++ escL b := by
  induction a with
  | nil => rfl
  | cons c a ih =>
    simp only [List.cons_append, escL]
    split <;> simp [ih]
theorem escL_len (bs : List Nat) : (escL bs).length = bs.length + bs.count 0 := by
  induction bs with
  | nil => rfl
  | cons c r ih =>
    simp only [escL, List.count_cons]
    by_cases h : c = 0
    · subst h; simp [ih]; omega
    · simp [h, ih]; omega
theorem ordL_len (bs : List Nat) : (ordL bs).length = bs.length + bs.count 0 + 2 := by unfold ordL; rw [List.length_append, escL_len]; rfl
theorem escL_bys (bs : List Nat) (h : Bys bs) : Bys (escL bs) := by
  induction bs with
  | nil => intro x hx; simp [escL] at hx
  | cons c r ih =>
    have ih' := ih (fun x hx => h x (by simp [hx]))
    have hc := h c (by simp)
    simp only [escL]
    split
    · intro x hx
      simp only [List.mem_cons] at hx
      rcases hx with rfl | rfl | hx
      · omega
      · omega
      · exact ih' x hx
    · intro x hx
      simp only [List.mem_cons] at hx
      rcases hx with rfl | hx
      · exact hc
      · exact ih' x hx
theorem ordL_bys (bs : List Nat) (h : Bys bs) : Bys (ordL bs) := (escL_bys bs h).app (by intro x hx; simp at hx; omega)
theorem escL_le (bs : List Nat) (t : Nat) : (escL (bs.take t)).length ≤ (escL bs).length := by
  conv => rhs; rw [← List.take_append_drop t bs, escL_append]
  simp

theorem own_room {w : World} {B : Nat} {v : Value} {m n C m1 : Nat} {xs : List Nat} (h : Own w B v m (xs ++ [0])) (hm : m1 ≤ n + C) (hs : n + C + 2 ≤ 140737488355328) (h1 : m1 = xs.length) : m + 1 ≤ 140737488355328 := by
  have := h.1
  rw [List.length_append] at this
  simp at this
  omega

set_option maxRecDepth 100000 in
set_option maxHeartbeats 1000000 in
theorem ordered_any {v : Value} {bs : List Nat} {w : World} (hr : Rd w v bs) (hl : (ordL bs).length ≤ 140737488355328) :
    Calls Try.prog 60 #[v] w fun e w' => ∃ a m c, e = .returned (.slice a m c) ∧ Own w' w.heap.size (.slice a m c) m (ordL bs) ∧ Below w.heap.size w w' := by
  obtain ⟨i0, hi, hz0, hz1, hz2⟩ := info_parts info_byte
  obtain ⟨a, n, cap, rfl⟩ := rd_slice hr
  obtain ⟨hn, hle, hm, hl48⟩ := rd_lens hr
  have HN : Hid (n = bs.length) := hn
  have hol := ordL_len bs
  rw [← hn] at hol
  obtain ⟨C, hC⟩ : ∃ C, C = bs.count 0 := ⟨_, rfl⟩
  rw [← hC] at hol
  have hsum : n + C + 2 ≤ 140737488355328 := by omega
  have HC : Hid (C = bs.count 0) := hC
  have HOL : Hid ((ordL bs).length = n + C + 2) := hol
  clear hn hC hm hol hl
  have A1 := (Below.refl w.heap.size w).alloc (Nat.le_refl _) (.cells #[.int .u8 0] 5)
  have hg : (w.alloc (.cells #[.int .u8 0] 5)).cell? ⟨w.heap.size, 0, none⟩ = some (.int .u8 0) := news_new w [.int .u8 0] 5 0 _ rfl
  go_enter Try.func60, Try.ntmps60
  go_wp2_with fail
  refine (count_any (hr.later A1) _ hg).mono ?_
  rintro e w1 ⟨rfl, rfl⟩
  rw [← HC.out]
  have hs1 := A1.size
  clear hg
  go_wp2_with (at_make; refine wpList_make_own _ rfl _ _ 28 rfl w.heap.size 5 i0 (.int .u8 0) 1 und_bytes hi hz0 hz1 .i64 .i64 _ (n + C + 2) rfl rfl ?c0 ?c1 ?c2 ?c3 ?_)
  case c0 => omega
  case c1 => rw [hz2]; omega
  case c2 => unfold maxLen; omega
  case c3 => exact hs1
  intro w2 hown2 hg2
  have hb2 : Below w.heap.size w w2 := A1.grown hg2 hs1 (fun k hk => by simp at hk)
  clear hg2 A1 hs1
  have own2 : Own w2 w.heap.size (.slice (some ⟨w.heap.size + 1, 0, none⟩) 0 (n + C + 2)) 0 [] := ⟨rfl, hown2⟩
  clear hown2
  go_wp2
  go_loopw [3, 16] (fun s i wr => ∃ t a m c, t ≤ n ∧ i = .int .i64 ((t : Nat) : Int) ∧ s = .slice a m c ∧ Own wr w.heap.size (.slice a m c) m (escL (bs.take t)) ∧ Below w.heap.size w wr) (fun _ i _ => n - (intOf i).toNat)
  case atStart => exact ⟨0, _, _, _, Nat.zero_le _, rfl, rfl, own2, hb2⟩
  case round =>
    obtain ⟨t, a1, m1, c1, htl, rfl, rfl, own1, hb1⟩ := hrel
    have hs1 := hb1.size
    have hme := escL_le bs t
    have hm1 : m1 ≤ n + C := by
      rw [own1.1]
      have := HOL.out
      unfold ordL at this
      rw [List.length_append] at this
      simp at this
      omega
    clear hme
    by_cases hlt : t < n
    · have hlt2 : (t : Int) < (n : Int) := by omega
      rcases rd_some hr with ⟨_, h0, _⟩ | ⟨b, off, rfl⟩
      · omega
      obtain ⟨hcell0, hcl⟩ := rd_cell hr t hlt
      have hcell : wr.cell? ⟨b, off + t, none⟩ = some (.int .u8 ((bs.getD t 0 : Nat) : Int)) := by
        rw [hb1.cell (p := ⟨b, off + t, none⟩) (World.block_lt_of_cell? w _ hcell0)]; exact hcell0
      have htk := take_succ_getD bs t (by rw [← HN.out]; exact hlt)
      obtain ⟨c, hcd⟩ : ∃ c, c = bs.getD t 0 := ⟨_, rfl⟩
      rw [← hcd] at hcell hcl htk
      have HTK : Hid (bs.take (t + 1) = bs.take t ++ [c]) := htk
      clear hcd htk hcell0
      by_cases hc0 : c = 0
      · subst hc0
        have HE : Hid (escL (bs.take (t + 1)) = (escL (bs.take t) ++ [0]) ++ [255]) := by
          unfold Hid; rw [HTK.out, escL_append]; simp [escL]
        go_wp2_with (first
          | (at_builtin; refine wpList_append_new rfl (.tmp 20) _ rfl w.heap.size a1 m1 c1 _ rfl own1 [_] 1 rfl [0] rfl rfl (by omega) hs1 ?_; intro a3 m3 c3 w3 own3 hb3)
          | (at_builtin; refine wpList_append_new rfl (.tmp 26) _ rfl w.heap.size a3 m3 c3 _ rfl own3 [_] 1 rfl [255] rfl rfl (own_room own3 hm1 hsum own1.1) (hb1.trans hb3).size ?_; intro a4 m4 c4 w4 own4 hb4))
        go_roundw
        case rel => exact ⟨t + 1, a4, m4, c4, by omega, by go_num, rfl, by rw [HE.out]; exact own4, (hb1.trans hb3).trans hb4⟩
        case measure => simp [intOf]; omega
      · have HE : Hid (escL (bs.take (t + 1)) = escL (bs.take t) ++ [c]) := by
          unfold Hid; rw [HTK.out, escL_append]; simp [escL, hc0]
        have hcb : ((c : Int) == 0) = false := by simp; omega
        clear hc0
        go_wp2_with (at_builtin; refine wpList_append_new rfl (.tmp 20) _ rfl w.heap.size a1 m1 c1 _ rfl own1 [_] 1 rfl [c] rfl rfl (by omega) hs1 ?_; intro a3 m3 c3 w3 own3 hb3)
        go_roundw
        case rel => exact ⟨t + 1, a3, m3, c3, by omega, by go_num, rfl, by rw [HE.out]; exact own3, hb1.trans hb3⟩
        case measure => simp [intOf]; omega
    · have hge : (n : Int) ≤ (t : Int) := by omega
      have HE : Hid (escL (bs.take t) = escL bs) := by unfold Hid; rw [List.take_of_length_le (by rw [← HN.out]; omega)]
      go_wp2_with (at_builtin; refine wpList_append_new rfl (.tmp 30) _ rfl w.heap.size a1 m1 c1 _ rfl own1 [_, _] 2 rfl [0, 1] rfl rfl (by omega) hs1 ?_; intro a3 m3 c3 w3 own3 hb3)
      go_ret
      refine ⟨a3, m3, c3, rfl, ?_, hb1.trans hb3⟩
      unfold ordL
      rw [← HE.out]
      exact own3

/-- The place of the first nought. -/
def zi : List Nat → Int
  | [] => -1
  | b :: l => if b = 0 then 0 else if zi l = -1 then -1 else zi l + 1
theorem zi_eq (bs : List Nat) (h : Bys bs) : Lib.indexByte (Lib.bytesOf (bs.map fun n : Nat => (n : Int))) (0 : Int).toNat.toUInt8 = zi bs := by
  induction bs with
  | nil => rfl
  | cons c r ih =>
    have hc := h c (by simp)
    have ih' := ih (fun x hx => h x (by simp [hx]))
    have hd : Lib.bytesOf ((c :: r).map fun n : Nat => (n : Int)) = UInt8.ofNat c :: Lib.bytesOf (r.map fun n : Nat => (n : Int)) := by simp [Lib.bytesOf]
    rw [hd]
    simp only [Lib.indexByte, zi]
    rw [ih']
    have e : (UInt8.ofNat c == (0 : Int).toNat.toUInt8) = (c == 0) := by
      by_cases h0 : c = 0
      · subst h0; rfl
      · have : UInt8.ofNat c ≠ (0 : Int).toNat.toUInt8 := by
          intro hh
          have h2 := congrArg UInt8.toNat hh
          simp at h2
          omega
        rw [beq_eq_false_iff_ne.2 this, beq_eq_false_iff_ne.2 h0]
    rw [e]
    by_cases h0 : c = 0
    · simp [h0]
    · simp [h0]
theorem run_index_any {P : Program} (w : World) (a : Addr) (n c : Nat) (xs : List Int) (hx : xs.length = n) (hc : ∀ i, i < n → w.cell? (a.add i) = some (.int .u8 (xs.getD i 0))) (cv : Int) :
    (Extern.BytealgIndexByte.indexByte #[.slice (some a) n c, .int .u8 cv]).run P w = .ok (.int .i64 (Lib.indexByte (Lib.bytesOf xs) cv.toNat.toUInt8)) w := by
  by_cases hn : n = 0
  · subst hn
    have hx0 : xs = [] := List.eq_nil_of_length_eq_zero hx
    subst hx0
    have h1 := Lib.run_indexByteString (P := P) .empty cv w
    have hl := Lib.run_loadBytesX (P := P) w [] a .empty (fun j x hj => by simp at hj)
    change Sem.run P (do
      let b ← Extern.Bytes.bytesOf (.slice (some a) 0 c)
      let c ← Extern.Bytes.asByte (.int .u8 cv)
      match (List.range b.size).find? fun i => b[i]! == c with
      | some i => pure (goInt i)
      | none => pure (goInt (-1))) w = _
    rfl
  · obtain ⟨b, off, spot⟩ := a
    have h0 := hc 0 (by omega)
    have hspot : spot = none := by simpa [Addr.add] using World.cell?_spot h0
    subst hspot
    refine Lib.run_indexByteSlice w b off n c xs hx (fun i hi => ?_) cv
    have e : (⟨b, off, none⟩ : Addr).add i = ⟨b, off + i, none⟩ := by unfold Addr.add; split <;> simp_all
    rw [← e]
    exact hc i hi

set_option maxRecDepth 100000 in
set_option maxHeartbeats 1000000 in
theorem indexByte_any {v : Value} {bs : List Nat} {w : World} (hr : Rd w v bs) :
    Calls Try.prog 100 #[v, .int .u8 0] w fun e w' => e = .returned (.int .i64 (zi bs)) ∧ w' = w := by
  obtain ⟨hby, a, cap, rfl, hle, hm, hl48, hnone, hat⟩ := hr
  cases a with
  | none =>
    have hb0 : bs = [] ∧ cap = 0 := by
      rcases hnone with h | ⟨b, off, h⟩
      · exact ⟨List.eq_nil_of_length_eq_zero (by omega), h⟩
      · cases h
    obtain ⟨rfl, rfl⟩ := hb0
    go_enter Try.func100, Try.ntmps100
    go_wp2
    rw [run_callFunc_extern Try.func106 (by kernel_rfl) (by kernel_rfl) (by kernel_rfl) (e := Extern.BytealgIndexByte.indexByte) (by kernel_rfl), Lib.run_indexByteNil w 0 0 0]
    simp only [Result.andThen]
    rw [Oper.upon_value]
    go_wp2
    go_ret
    exact ⟨rfl, rfl⟩
  | some x =>
    have hi := ints_at hat
    obtain ⟨n, hn⟩ : ∃ n, n = bs.length := ⟨_, rfl⟩
    have hc := run_index_any (P := Try.prog) w x n cap (bs.map fun n : Nat => (n : Int)) (by simp [hn]) (by rw [hn]; exact hi) 0
    rw [zi_eq bs hby] at hc
    rw [← hn]
    clear hn hi hat hnone hle hl48
    obtain ⟨Z, hZ⟩ : ∃ Z, Z = zi bs := ⟨_, rfl⟩
    rw [← hZ] at hc ⊢
    clear hZ
    go_enter Try.func100, Try.ntmps100
    go_wp2
    rw [run_callFunc_extern Try.func106 (by kernel_rfl) (by kernel_rfl) (by kernel_rfl) (e := Extern.BytealgIndexByte.indexByte) (by kernel_rfl), hc]
    simp only [Result.andThen]
    rw [Oper.upon_value]
    go_wp2
    go_ret
    exact ⟨rfl, rfl⟩

end Go.Proofs.Ytnjopfdeapclhaa

namespace Go.Proofs.Ytnjopfdeapclhaa
open Go.RowKit
set_option linter.unusedVariables false

theorem flat_le (ps : List (List Nat)) (k : Nat) : (ps.take k).flatten.length ≤ ps.flatten.length := by
  conv => rhs; rw [← List.take_append_drop k ps, List.flatten_append]
  simp

end Go.Proofs.Ytnjopfdeapclhaa

namespace Go.Proofs.Ytnjopfdeapclhaa
open Go.RowKit
set_option linter.unusedVariables false

/-- What ReadOrdered reads of the bytes from a place on: what was gathered, how many bytes. -/
def rord : List Nat → List Nat → Nat → List Nat × Nat × Nat
  | [], _, _ => ([], 0, 10)
  | [c], acc, i => ([], 0, 10)
  | c :: d :: r, acc, i => if c ≠ 0 then rord (d :: r) (acc ++ [c]) (i + 1) else if d = 1 then (acc, i + 2, 0) else if d = 255 then rord r (acc ++ [0]) (i + 2) else ([], 0, 11)
def ordR (bs : List Nat) (k : Nat) : List Nat × Nat × Nat :=
  ((rord (bs.drop k) [] 0).1, if (rord (bs.drop k) [] 0).2.2 = 0 then k + (rord (bs.drop k) [] 0).2.1 else 0, (rord (bs.drop k) [] 0).2.2)

/-- No nought: it ends too early. -/
theorem zi_neg (l : List Nat) : zi l < 0 → zi l = -1 ∧ ∀ acc i, rord l acc i = ([], 0, 10) := by
  induction l with
  | nil => intro _; exact ⟨rfl, fun _ _ => rfl⟩
  | cons c l ih =>
    intro h
    simp only [zi] at h ⊢
    by_cases hc : c = 0
    · rw [if_pos hc] at h; omega
    · rw [if_neg hc] at h ⊢
      by_cases hz : zi l = -1
      · rw [if_pos hz] at h ⊢
        refine ⟨rfl, fun acc i => ?_⟩
        have := (ih (by omega)).2
        cases l with
        | nil => rfl
        | cons d r => unfold rord; rw [if_pos hc]; exact this _ _
      · rw [if_neg hz] at h
        have : zi l = -1 := (ih (by omega)).1
        exact absurd this hz
/-- A nought at place z: what stands ahead of it is gathered. -/
theorem zi_pos (l : List Nat) (z : Nat) (h : zi l = (z : Int)) : z < l.length ∧ l.getD z 0 = 0 ∧ (∀ acc i, rord l acc i = rord (l.drop z) (acc ++ l.take z) (i + z)) := by
  induction l generalizing z with
  | nil => simp [zi] at h
  | cons c l ih =>
    simp only [zi] at h
    by_cases hc : c = 0
    · rw [if_pos hc] at h
      have hz : z = 0 := by omega
      subst hz
      exact ⟨by simp, by simp [hc], fun acc i => by simp⟩
    · rw [if_neg hc] at h
      by_cases hz : zi l = -1
      · rw [if_pos hz] at h; omega
      · rw [if_neg hz] at h
        have hz0 : ¬ zi l < 0 := fun hh => hz (zi_neg l hh).1
        obtain ⟨y, hy⟩ := Int.eq_ofNat_of_zero_le (show 0 ≤ zi l by omega)
        have hzy : z = y + 1 := by omega
        subst hzy
        obtain ⟨h1, h2, h3⟩ := ih y hy
        refine ⟨by simp; omega, by simpa using h2, fun acc i => ?_⟩
        cases l with
        | nil => simp at h1
        | cons d r =>
          have := h3 (acc ++ [c]) (i + 1)
          conv => lhs; unfold rord
          rw [if_pos hc, this]
          simp
          rw [show i + 1 + y = i + (y + 1) by omega]

theorem drop_cons' (l : List Nat) (t : Nat) (h : t < l.length) : l.drop t = l.getD t 0 :: l.drop (t + 1) := by
  rw [List.drop_eq_getElem_cons h]; simp [List.getD, List.getElem?_eq_getElem h]

theorem own_room2 {w : World} {B : Nat} {v : Value} {m m1 p z n : Nat} {xs ys : List Nat} (h : Own w B v m (xs ++ ys)) (hl : xs.length = m1 ∧ ys.length = z) (hmp : m1 ≤ p) (hp : (p : Int) + ((z : Int) + 2) ≤ (n : Int)) (hn : n ≤ 140737488355328) : m + 1 ≤ 140737488355328 := by
  have := h.1
  rw [List.length_append, hl.1, hl.2] at this
  omega

end Go.Proofs.Ytnjopfdeapclhaa
