import Derived.Test.YtemdhpjoakldhaaJ00
import Derived.Shelf.Bytes.SlCountOne
import Derived.Deep.RegionHeld3
namespace Go.Proofs.Ytemdhpjoakldhaa
open Go.RowKit
set_option linter.unusedVariables false

/-- Eight bytes, the highest first. -/
def be8 (n : Nat) : List Nat := [n / 2 ^ 56 % 256, n / 2 ^ 48 % 256, n / 2 ^ 40 % 256, n / 2 ^ 32 % 256, n / 2 ^ 24 % 256, n / 2 ^ 16 % 256, n / 2 ^ 8 % 256, n % 256]
theorem be8_bys (n : Nat) : Bys (be8 n) := by intro x hx; simp [be8] at hx; omega
theorem be8_get (n t : Nat) (h : t < 8) : (be8 n).getD t 0 = n / 2 ^ (8 * (7 - t)) % 256 := by
  match t, h with
  | 0, _ => rfl
  | 1, _ => rfl
  | 2, _ => rfl
  | 3, _ => rfl
  | 4, _ => rfl
  | 5, _ => rfl
  | 6, _ => rfl
  | 7, _ => simp [be8]
def fill8 (n t : Nat) : List Nat := (be8 n).take t ++ List.replicate (8 - t) 0
theorem fill8_len (n t : Nat) (h : t ≤ 8) : (fill8 n t).length = 8 := by simp [fill8, be8]; omega
theorem fill8_next (n t : Nat) (h : t < 8) : (fill8 n t).set t ((be8 n).getD t 0) = fill8 n (t + 1) := by
  match t, h with
  | 0, _ => rfl
  | 1, _ => rfl
  | 2, _ => rfl
  | 3, _ => rfl
  | 4, _ => rfl
  | 5, _ => rfl
  | 6, _ => rfl
  | 7, _ => rfl

/-- What eight bytes say. -/
def num8 (l : List Nat) : Nat := l.foldl (fun v c => v * 256 + c) 0
theorem num8_lt (l : List Nat) (h : Bys l) : num8 l < 256 ^ l.length := by
  have key : ∀ (l : List Nat) (v k : Nat), Bys l → v < 256 ^ k → l.foldl (fun v c => v * 256 + c) v < 256 ^ (k + l.length) := by
    intro l
    induction l with
    | nil => intro v k _ hv; simpa using hv
    | cons c l ih =>
      intro v k hb hv
      have := ih (v * 256 + c) (k + 1) (fun x hx => hb x (by simp [hx])) (by have := hb c (by simp); rw [Nat.pow_succ]; omega)
      rw [show k + (c :: l).length = k + 1 + l.length by simp; omega]
      exact this
  have := key l 0 0 h (by simp)
  rw [Nat.zero_add] at this
  exact this
theorem num8_snoc (l : List Nat) (t : Nat) (h : t < l.length) : num8 (l.take (t + 1)) = num8 (l.take t) * 256 + l.getD t 0 := by
  rw [take_succ_getD l t h]
  simp [num8, List.foldl_append]
/-- What ReadRising answers. -/
def riseR (bs : List Nat) (k : Nat) : Nat × Nat × Nat :=
  if bs.length < k + 8 then (0, 0, 10)
  else if 9223372036854775807 < num8 ((bs.drop k).take 8) then (0, 0, 13)
  else (num8 ((bs.drop k).take 8), k + 8, 0)

/-- What ReadFalling answers. -/
def fallR (bs : List Nat) (k : Nat) : Nat × Nat × Nat :=
  if (riseR bs k).2.2 ≠ 0 then (0, 0, (riseR bs k).2.2) else (9223372036854775807 - (riseR bs k).1, (riseR bs k).2.1, 0)
theorem riseR_lt (bs : List Nat) (k : Nat) : (riseR bs k).1 ≤ 9223372036854775807 ∧ (riseR bs k).2.2 ≤ 13 ∧ ((riseR bs k).2.2 ≠ 0 → (riseR bs k).2.1 = 0) ∧ (riseR bs k).2.1 ≤ k + 8 := by
  unfold riseR
  split
  · simp
  · split
    · simp
    · rename_i h1 h2
      refine ⟨by show num8 _ ≤ _; omega, by simp, by simp, by simp⟩

end Go.Proofs.Ytemdhpjoakldhaa

namespace Go.Proofs.Ytemdhpjoakldhaa
open Go.RowKit
set_option linter.unusedVariables false

theorem ints_at {w : World} {x : Addr} {bs : List Nat} (h : At w (some x) bs) : ∀ i, i < bs.length → w.cell? (x.add i) = some (.int .u8 ((bs.map fun n : Nat => (n : Int)).getD i 0)) := by
  intro i hi
  have := h.add i (.int .u8 ((bs.getD i 0 : Nat) : Int)) (by simp [bv, List.getElem?_eq_getElem hi])
  rw [this]
  simp [List.getElem?_eq_getElem hi]

theorem count_eq (bs : List Nat) (h : Bys bs) : Lib.countByte (Lib.bytesOf (bs.map fun n : Nat => (n : Int))) (0 : Int).toNat.toUInt8 = bs.count 0 := by
  unfold Lib.countByte Lib.bytesOf
  induction bs with
  | nil => rfl
  | cons c r ih =>
    have hc := h c (by simp)
    have ih' := ih (fun x hx => h x (by simp [hx]))
    simp only [List.map_cons, List.count_cons]
    rw [ih']
    congr 1
    have e : (UInt8.ofNat ((c : Int)).toNat == (0 : Int).toNat.toUInt8) = (c == 0) := by
      rw [Int.toNat_natCast]
      by_cases h0 : c = 0
      · subst h0; rfl
      · have : UInt8.ofNat c ≠ (0 : Int).toNat.toUInt8 := by
          intro hh
          have h2 := congrArg UInt8.toNat hh
          simp at h2
          omega
        rw [beq_eq_false_iff_ne.2 this, beq_eq_false_iff_ne.2 h0]
    rw [e]

def escL : List Nat → List Nat
  | [] => []
  | c :: r => if c = 0 then 0 :: 255 :: escL r else c :: escL r
def ordL (bs : List Nat) : List Nat := escL bs ++ [0, 1]
theorem escL_append (a b : List Nat) : escL (a ++ b) = escL a ++ escL b := by
  induction a with
  | nil => rfl
  | cons c a ih =>
    simp only [List.cons_append, escL]
    split <;> simp [ih]
theorem escL_len (bs : List Nat) : (escL bs).length = bs.length + bs.count 0 := by
  induction bs with
  | nil => rfl
  | cons c r ih =>
    simp only [escL, List.count_cons]
    by_cases h : c = 0
    · subst h; simp [ih]; omega
    · simp [h, ih]; omega
theorem ordL_len (bs : List Nat) : (ordL bs).length = bs.length + bs.count 0 + 2 := by unfold ordL; rw [List.length_append, escL_len]; rfl
theorem escL_bys (bs : List Nat) (h : Bys bs) : Bys (escL bs) := by
  induction bs with
  | nil => intro x hx; simp [escL] at hx
  | cons c r ih =>
    have ih' := ih (fun x hx => h x (by simp [hx]))
    have hc := h c (by simp)
    simp only [escL]
    split
    · intro x hx
      simp only [List.mem_cons] at hx
      rcases hx with rfl | rfl | hx
      · omega
      · omega
      · exact ih' x hx
    · intro x hx
      simp only [List.mem_cons] at hx
      rcases hx with rfl | hx
      · exact hc
      · exact ih' x hx
theorem ordL_bys (bs : List Nat) (h : Bys bs) : Bys (ordL bs) := (escL_bys bs h).app (by intro x hx; simp at hx; omega)
theorem escL_le (bs : List Nat) (t : Nat) : (escL (bs.take t)).length ≤ (escL bs).length := by
  conv => rhs; rw [← List.take_append_drop t bs, escL_append]
  simp

theorem own_room {w : World} {B : Nat} {v : Value} {m n C m1 : Nat} {xs : List Nat} (h : Own w B v m (xs ++ [0])) (hm : m1 ≤ n + C) (hs : n + C + 2 ≤ 140737488355328) (h1 : m1 = xs.length) : m + 1 ≤ 140737488355328 := by
  have := h.1
  rw [List.length_append] at this
  simp at this
  omega

/-- The place of the first nought. -/
def zi : List Nat → Int
  | [] => -1
  | b :: l => if b = 0 then 0 else if zi l = -1 then -1 else zi l + 1
theorem zi_eq (bs : List Nat) (h : Bys bs) : Lib.indexByte (Lib.bytesOf (bs.map fun n : Nat => (n : Int))) (0 : Int).toNat.toUInt8 = zi bs := by
  induction bs with
  | nil => rfl
  | cons c r ih =>
    have hc := h c (by simp)
    have ih' := ih (fun x hx => h x (by simp [hx]))
    have hd : Lib.bytesOf ((c :: r).map fun n : Nat => (n : Int)) = UInt8.ofNat c :: Lib.bytesOf (r.map fun n : Nat => (n : Int)) := by simp [Lib.bytesOf]
    rw [hd]
    simp only [Lib.indexByte, zi]
    rw [ih']
    have e : (UInt8.ofNat c == (0 : Int).toNat.toUInt8) = (c == 0) := by
      by_cases h0 : c = 0
      · subst h0; rfl
      · have : UInt8.ofNat c ≠ (0 : Int).toNat.toUInt8 := by
          intro hh
          have h2 := congrArg UInt8.toNat hh
          simp at h2
          omega
        rw [beq_eq_false_iff_ne.2 this, beq_eq_false_iff_ne.2 h0]
    rw [e]
    by_cases h0 : c = 0
    · simp [h0]
    · simp [h0]
theorem run_index_any {P : Program} (w : World) (a : Addr) (n c : Nat) (xs : List Int) (hx : xs.length = n) (hc : ∀ i, i < n → w.cell? (a.add i) = some (.int .u8 (xs.getD i 0))) (cv : Int) :
    (Extern.BytealgIndexByte.indexByte #[.slice (some a) n c, .int .u8 cv]).run P w = .ok (.int .i64 (Lib.indexByte (Lib.bytesOf xs) cv.toNat.toUInt8)) w := by
  by_cases hn : n = 0
  · subst hn
    have hx0 : xs = [] := List.eq_nil_of_length_eq_zero hx
    subst hx0
    have h1 := Lib.run_indexByteString (P := P) .empty cv w
    have hl := Lib.run_loadBytesX (P := P) w [] a .empty (fun j x hj => by simp at hj)
    change Sem.run P (do
      let b ← Extern.Bytes.bytesOf (.slice (some a) 0 c)
      let c ← Extern.Bytes.asByte (.int .u8 cv)
      match (List.range b.size).find? fun i => b[i]! == c with
      | some i => pure (goInt i)
      | none => pure (goInt (-1))) w = _
    rfl
  · obtain ⟨b, off, spot⟩ := a
    have h0 := hc 0 (by omega)
    have hspot : spot = none := by simpa [Addr.add] using World.cell?_spot h0
    subst hspot
    refine Lib.run_indexByteSlice w b off n c xs hx (fun i hi => ?_) cv
    have e : (⟨b, off, none⟩ : Addr).add i = ⟨b, off + i, none⟩ := by unfold Addr.add; split <;> simp_all
    rw [← e]
    exact hc i hi

end Go.Proofs.Ytemdhpjoakldhaa

namespace Go.Proofs.Ytemdhpjoakldhaa
open Go.RowKit
set_option linter.unusedVariables false

theorem flat_le (ps : List (List Nat)) (k : Nat) : (ps.take k).flatten.length ≤ ps.flatten.length := by
  conv => rhs; rw [← List.take_append_drop k ps, List.flatten_append]
  simp

end Go.Proofs.Ytemdhpjoakldhaa

namespace Go.Proofs.Ytemdhpjoakldhaa
open Go.RowKit
set_option linter.unusedVariables false

/-- What ReadOrdered reads of the bytes from a place on: what was gathered, how many bytes. -/
def rord : List Nat → List Nat → Nat → List Nat × Nat × Nat
  | [], _, _ => ([], 0, 10)
  | [c], acc, i => ([], 0, 10)
  | c :: d :: r, acc, i => if c ≠ 0 then rord (d :: r) (acc ++ [c]) (i + 1) else if d = 1 then (acc, i + 2, 0) else if d = 255 then rord r (acc ++ [0]) (i + 2) else ([], 0, 11)
def ordR (bs : List Nat) (k : Nat) : List Nat × Nat × Nat :=
  ((rord (bs.drop k) [] 0).1, if (rord (bs.drop k) [] 0).2.2 = 0 then k + (rord (bs.drop k) [] 0).2.1 else 0, (rord (bs.drop k) [] 0).2.2)

/-- No nought: it ends too early. -/
theorem zi_neg (l : List Nat) : zi l < 0 → zi l = -1 ∧ ∀ acc i, rord l acc i = ([], 0, 10) := by
  induction l with
  | nil => intro _; exact ⟨rfl, fun _ _ => rfl⟩
  | cons c l ih =>
    intro h
    simp only [zi] at h ⊢
    by_cases hc : c = 0
    · rw [if_pos hc] at h; omega
    · rw [if_neg hc] at h ⊢
      by_cases hz : zi l = -1
      · rw [if_pos hz] at h ⊢
        refine ⟨rfl, fun acc i => ?_⟩
        have := (ih (by omega)).2
        cases l with
        | nil => rfl
        | cons d r => unfold rord; rw [if_pos hc]; exact this _ _
      · rw [if_neg hz] at h
        have : zi l = -1 := (ih (by omega)).1
        exact absurd this hz
/-- A nought at place z: what stands ahead of it is gathered. -/
theorem zi_pos (l : List Nat) (z : Nat) (h : zi l = (z : Int)) : z < l.length ∧ l.getD z 0 = 0 ∧ (∀ acc i, rord l acc i = rord (l.drop z) (acc ++ l.take z) (i + z)) := by
  induction l generalizing z with
  | nil => simp [zi] at h
  | cons c l ih =>
    simp only [zi] at h
    by_cases hc : c = 0
    · rw [if_pos hc] at h
      have hz : z = 0 := by omega
      subst hz
      exact ⟨by simp, by simp [hc], fun acc i => by simp⟩
    · rw [if_neg hc] at h
      by_cases hz : zi l = -1
      · rw [if_pos hz] at h; omega
      · rw [if_neg hz] at h
        have hz0 : ¬ zi l < 0 := fun hh => hz (zi_neg l hh).1
        obtain ⟨y, hy⟩ := Int.eq_ofNat_of_zero_le (show 0 ≤ zi l by omega)
        have hzy : z = y + 1 := by omega
        subst hzy
        obtain ⟨h1, h2, h3⟩ := ih y hy
        refine ⟨by simp; omega, by simpa using h2, fun acc i => ?_⟩
        cases l with
        | nil => simp at h1
        | cons d r =>
          have := h3 (acc ++ [c]) (i + 1)
          conv => lhs; unfold rord
          rw [if_pos hc, this]
          simp
          rw [show i + 1 + y = i + (y + 1) by omega]

theorem drop_cons' (l : List Nat) (t : Nat) (h : t < l.length) : l.drop t = l.getD t 0 :: l.drop (t + 1) := by
  rw [List.drop_eq_getElem_cons h]; simp [List.getD, List.getElem?_eq_getElem h]

theorem own_room2 {w : World} {B : Nat} {v : Value} {m m1 p z n : Nat} {xs ys : List Nat} (h : Own w B v m (xs ++ ys)) (hl : xs.length = m1 ∧ ys.length = z) (hmp : m1 ≤ p) (hp : (p : Int) + ((z : Int) + 2) ≤ (n : Int)) (hn : n ≤ 140737488355328) : m + 1 ≤ 140737488355328 := by
  have := h.1
  rw [List.length_append, hl.1, hl.2] at this
  omega

end Go.Proofs.Ytemdhpjoakldhaa

namespace Go.Proofs.Ytemdhpjoakldhaa
open Go.RowKit
set_option linter.unusedVariables false

/-- An entry: its values, and what its byte strings read as. -/
structure EntD where
  vr : Value
  fam : Int
  vq : Value
  ts : Int
  seq : Int
  kind : Int
  vv : Value
  row : List Nat
  qual : List Nat
  val : List Nat
def EntD.cells (e : EntD) : Array Value := #[e.vr, .int .i64 e.fam, e.vq, .int .i64 e.ts, .int .i64 e.seq, .int .i64 e.kind, e.vv]
def EntD.Ok (w : World) (e : EntD) : Prop := Rd w e.vr e.row ∧ Rd w e.vq e.qual ∧ Rd w e.vv e.val
theorem EntD.Ok.later {w w' : World} {e : EntD} (h : EntD.Ok w e) (hb : Below w.heap.size w w') : EntD.Ok w' e := ⟨h.1.later hb, h.2.1.later hb, h.2.2.later hb⟩

/-- What Check tells. -/
def checkS (e : EntD) : Nat :=
  if e.row.length = 0 ∨ 256 < e.row.length then 20
  else if e.fam < 0 ∨ 8 ≤ e.fam then 21
  else if 256 < e.qual.length ∨ (0 < e.qual.length ∧ e.kind = 5) then 22
  else if e.ts < 1 ∨ 1099511627776 < e.ts then 23
  else if e.seq < 0 ∨ 17592186044431 < e.seq then 24
  else if e.kind < 1 ∨ 5 < e.kind then 25
  else if 4096 < e.val.length ∨ (0 < e.val.length ∧ e.kind ≠ 1) then 26
  else 0

set_option maxRecDepth 100000 in
theorem isRow_any {a : Option Addr} {n cap : Nat} {w : World} (hn : n ≤ 281474976710656) :
    Calls Try.prog 49 #[.slice a n cap] w fun e w' => e = .returned (.bool (decide (0 < n ∧ n ≤ 256))) ∧ w' = w := by
  by_cases h : 0 < n
  · have h1 : (0 : Int) < (n : Int) := by omega
    go_enter Try.func49, Try.ntmps49
    go_wp2
    go_ret
    refine ⟨?_, rfl⟩
    by_cases h2 : n ≤ 256
    · rw [decide_eq_true (show 0 < n ∧ n ≤ 256 from ⟨h, h2⟩)]; simp; omega
    · rw [decide_eq_false (show ¬ (0 < n ∧ n ≤ 256) from fun h3 => h2 h3.2)]; simp; omega
  · have h1 : (n : Int) ≤ 0 := by omega
    have h0 : n = 0 := by omega
    subst h0
    go_enter Try.func49, Try.ntmps49
    go_wp2
    go_ret
    exact ⟨by first | rfl | simp, rfl⟩
set_option maxRecDepth 100000 in
theorem markOf_any (k a : Int) (w : World) : Calls Try.prog 102 #[.int .i64 k, .int .i64 a] w fun e w' => e = .returned (.int .u8 (((if k = a then 0 else 1 : Nat) : Nat) : Int)) ∧ w' = w := by
  by_cases h : k = a
  · subst h
    go_enter Try.func102, Try.ntmps102
    go_wp2
    go_ret
    exact ⟨by simp, rfl⟩
  · have h1 : (k == a) = false := by simp; exact h
    go_enter Try.func102, Try.ntmps102
    go_wp2
    go_ret
    exact ⟨by first | (rw [if_neg h]; rfl) | (simp; done) | simp [h], rfl⟩

set_option maxRecDepth 100000 in
set_option maxHeartbeats 4000000 in
theorem check_any {e : EntD} {w : World} (hok : EntD.Ok w e) :
    Calls Try.prog 35 #[.agg e.cells] w fun r w' => r = .returned (.int .i64 ((checkS e : Nat) : Int)) ∧ Below w.heap.size w w' := by
  obtain ⟨vr, fam, vq, ts, seq, kind, vv, row, qual, val⟩ := e
  obtain ⟨h1, h2, h3⟩ := hok
  simp only [EntD.cells] at *
  obtain ⟨ar, nr, cr, rfl⟩ := rd_slice h1
  obtain ⟨aq, nq, cq, rfl⟩ := rd_slice h2
  obtain ⟨av, nv, cv, rfl⟩ := rd_slice h3
  obtain ⟨er, _, _, lr⟩ := rd_lens h1
  obtain ⟨eq, _, _, lq⟩ := rd_lens h2
  obtain ⟨ev, _, _, lv⟩ := rd_lens h3
  have A1 := (Below.refl w.heap.size w).alloc (Nat.le_refl _) (.cells #[.slice ar nr cr, .int .i64 fam, .slice aq nq cq, .int .i64 ts, .int .i64 seq, .int .i64 kind, .slice av nv cv] 38)
  obtain ⟨S, hS⟩ : ∃ S, S = checkS ⟨.slice ar nr cr, fam, .slice aq nq cq, ts, seq, kind, .slice av nv cv, row, qual, val⟩ := ⟨_, rfl⟩
  rw [← hS]
  unfold checkS at hS
  simp only at hS
  rw [← er, ← eq, ← ev] at hS
  have HS : Hid (S = _) := hS
  clear hS er eq ev h1 h2 h3
  by_cases c1 : 0 < nr ∧ nr ≤ 256
  · have d1 : decide (0 < nr ∧ nr ≤ 256) = true := by simp; omega
    by_cases c2a : fam < 0
    · have HE : Hid (S = 21) := by unfold Hid; rw [HS.out]; repeat (first | rw [if_pos (by omega)] | rw [if_neg (by omega)])
      clear HS
      go_enter Try.func35, Try.ntmps35
      go_wp2_with fail
      refine (isRow_any lr).mono ?_
      rintro e1 w1 ⟨rfl, rfl⟩
      rw [d1]
      go_wp2
      go_ret
      exact ⟨by rw [HE.out]; rfl, A1⟩
    · have c2q : 0 ≤ fam := by omega
      by_cases c2b : 8 ≤ fam
      · have HE : Hid (S = 21) := by unfold Hid; rw [HS.out]; repeat (first | rw [if_pos (by omega)] | rw [if_neg (by omega)])
        clear HS
        go_enter Try.func35, Try.ntmps35
        go_wp2_with fail
        refine (isRow_any lr).mono ?_
        rintro e1 w1 ⟨rfl, rfl⟩
        rw [d1]
        go_wp2
        go_ret
        exact ⟨by rw [HE.out]; rfl, A1⟩
      · have c2p : fam < 8 := by omega
        by_cases c3a : 256 < nq
        · have q1 : (256 : Int) < (nq : Int) := by omega
          have HE : Hid (S = 22) := by unfold Hid; rw [HS.out]; repeat (first | rw [if_pos (by omega)] | rw [if_neg (by omega)])
          clear HS
          go_enter Try.func35, Try.ntmps35
          go_wp2_with fail
          refine (isRow_any lr).mono ?_
          rintro e1 w1 ⟨rfl, rfl⟩
          rw [d1]
          go_wp2
          go_ret
          exact ⟨by rw [HE.out]; rfl, A1⟩
        · have q1 : (nq : Int) ≤ 256 := by omega
          by_cases c3b : 0 < nq
          · have q0 : (0 : Int) < (nq : Int) := by omega
            by_cases c3c : kind = 5
            · subst c3c
              have HE : Hid (S = 22) := by unfold Hid; rw [HS.out]; repeat (first | rw [if_pos (by omega)] | rw [if_neg (by omega)])
              clear HS
              go_enter Try.func35, Try.ntmps35
              go_wp2_with fail
              refine (isRow_any lr).mono ?_
              rintro e1 w1 ⟨rfl, rfl⟩
              rw [d1]
              go_wp2
              go_ret
              exact ⟨by rw [HE.out]; rfl, A1⟩
            · have k5 : (kind == 5) = false := by simp; omega
              by_cases c4a : ts < 1
              · have HE : Hid (S = 23) := by unfold Hid; rw [HS.out]; repeat (first | rw [if_pos (by omega)] | rw [if_neg (by omega)])
                clear HS
                go_enter Try.func35, Try.ntmps35
                go_wp2_with fail
                refine (isRow_any lr).mono ?_
                rintro e1 w1 ⟨rfl, rfl⟩
                rw [d1]
                go_wp2
                go_ret
                exact ⟨by rw [HE.out]; rfl, A1⟩
              · have c4q : 1 ≤ ts := by omega
                by_cases c4b : 1099511627776 < ts
                · have HE : Hid (S = 23) := by unfold Hid; rw [HS.out]; repeat (first | rw [if_pos (by omega)] | rw [if_neg (by omega)])
                  clear HS
                  go_enter Try.func35, Try.ntmps35
                  go_wp2_with fail
                  refine (isRow_any lr).mono ?_
                  rintro e1 w1 ⟨rfl, rfl⟩
                  rw [d1]
                  go_wp2
                  go_ret
                  exact ⟨by rw [HE.out]; rfl, A1⟩
                · have c4p : ts ≤ 1099511627776 := by omega
                  by_cases c5a : seq < 0
                  · have HE : Hid (S = 24) := by unfold Hid; rw [HS.out]; repeat (first | rw [if_pos (by omega)] | rw [if_neg (by omega)])
                    clear HS
                    go_enter Try.func35, Try.ntmps35
                    go_wp2_with fail
                    refine (isRow_any lr).mono ?_
                    rintro e1 w1 ⟨rfl, rfl⟩
                    rw [d1]
                    go_wp2
                    go_ret
                    exact ⟨by rw [HE.out]; rfl, A1⟩
                  · have c5q : 0 ≤ seq := by omega
                    by_cases c5b : 17592186044431 < seq
                    · have HE : Hid (S = 24) := by unfold Hid; rw [HS.out]; repeat (first | rw [if_pos (by omega)] | rw [if_neg (by omega)])
                      clear HS
                      go_enter Try.func35, Try.ntmps35
                      go_wp2_with fail
                      refine (isRow_any lr).mono ?_
                      rintro e1 w1 ⟨rfl, rfl⟩
                      rw [d1]
                      go_wp2
                      go_ret
                      exact ⟨by rw [HE.out]; rfl, A1⟩
                    · have c5p : seq ≤ 17592186044431 := by omega
                      by_cases c6a : kind < 1
                      · have HE : Hid (S = 25) := by unfold Hid; rw [HS.out]; repeat (first | rw [if_pos (by omega)] | rw [if_neg (by omega)])
                        clear HS
                        go_enter Try.func35, Try.ntmps35
                        go_wp2_with fail
                        refine (isRow_any lr).mono ?_
                        rintro e1 w1 ⟨rfl, rfl⟩
                        rw [d1]
                        go_wp2
                        go_ret
                        exact ⟨by rw [HE.out]; rfl, A1⟩
                      · have c6q : 1 ≤ kind := by omega
                        by_cases c6b : 5 < kind
                        · have HE : Hid (S = 25) := by unfold Hid; rw [HS.out]; repeat (first | rw [if_pos (by omega)] | rw [if_neg (by omega)])
                          clear HS
                          go_enter Try.func35, Try.ntmps35
                          go_wp2_with fail
                          refine (isRow_any lr).mono ?_
                          rintro e1 w1 ⟨rfl, rfl⟩
                          rw [d1]
                          go_wp2
                          go_ret
                          exact ⟨by rw [HE.out]; rfl, A1⟩
                        · have c6p : kind ≤ 5 := by omega
                          by_cases c7a : 4096 < nv
                          · have v1 : (4096 : Int) < (nv : Int) := by omega
                            have HE : Hid (S = 26) := by unfold Hid; rw [HS.out]; repeat (first | rw [if_pos (by omega)] | rw [if_neg (by omega)])
                            clear HS
                            go_enter Try.func35, Try.ntmps35
                            go_wp2_with fail
                            refine (isRow_any lr).mono ?_
                            rintro e1 w1 ⟨rfl, rfl⟩
                            rw [d1]
                            go_wp2
                            go_ret
                            exact ⟨by rw [HE.out]; rfl, A1⟩
                          · have v1 : (nv : Int) ≤ 4096 := by omega
                            by_cases c7b : 0 < nv
                            · have v0 : (0 : Int) < (nv : Int) := by omega
                              by_cases c7c : kind = 1
                              · subst c7c
                                have HE : Hid (S = 0) := by unfold Hid; rw [HS.out]; repeat (first | rw [if_pos (by omega)] | rw [if_neg (by omega)])
                                clear HS
                                go_enter Try.func35, Try.ntmps35
                                go_wp2_with fail
                                refine (isRow_any lr).mono ?_
                                rintro e1 w1 ⟨rfl, rfl⟩
                                rw [d1]
                                go_wp2
                                go_ret
                                exact ⟨by rw [HE.out]; rfl, A1⟩
                              · have k1 : (kind == 1) = false := by simp; omega
                                have k1n : (kind != 1) = true := by simp; omega
                                have HE : Hid (S = 26) := by unfold Hid; rw [HS.out]; repeat (first | rw [if_pos (by omega)] | rw [if_neg (by omega)])
                                clear HS
                                go_enter Try.func35, Try.ntmps35
                                go_wp2_with fail
                                refine (isRow_any lr).mono ?_
                                rintro e1 w1 ⟨rfl, rfl⟩
                                rw [d1]
                                go_wp2
                                go_ret
                                exact ⟨by rw [HE.out]; rfl, A1⟩
                            · have v0 : (nv : Int) ≤ 0 := by omega
                              have HE : Hid (S = 0) := by unfold Hid; rw [HS.out]; repeat (first | rw [if_pos (by omega)] | rw [if_neg (by omega)])
                              clear HS
                              go_enter Try.func35, Try.ntmps35
                              go_wp2_with fail
                              refine (isRow_any lr).mono ?_
                              rintro e1 w1 ⟨rfl, rfl⟩
                              rw [d1]
                              go_wp2
                              go_ret
                              exact ⟨by rw [HE.out]; rfl, A1⟩
          · have q0 : (nq : Int) ≤ 0 := by omega
            by_cases c4a : ts < 1
            · have HE : Hid (S = 23) := by unfold Hid; rw [HS.out]; repeat (first | rw [if_pos (by omega)] | rw [if_neg (by omega)])
              clear HS
              go_enter Try.func35, Try.ntmps35
              go_wp2_with fail
              refine (isRow_any lr).mono ?_
              rintro e1 w1 ⟨rfl, rfl⟩
              rw [d1]
              go_wp2
              go_ret
              exact ⟨by rw [HE.out]; rfl, A1⟩
            · have c4q : 1 ≤ ts := by omega
              by_cases c4b : 1099511627776 < ts
              · have HE : Hid (S = 23) := by unfold Hid; rw [HS.out]; repeat (first | rw [if_pos (by omega)] | rw [if_neg (by omega)])
                clear HS
                go_enter Try.func35, Try.ntmps35
                go_wp2_with fail
                refine (isRow_any lr).mono ?_
                rintro e1 w1 ⟨rfl, rfl⟩
                rw [d1]
                go_wp2
                go_ret
                exact ⟨by rw [HE.out]; rfl, A1⟩
              · have c4p : ts ≤ 1099511627776 := by omega
                by_cases c5a : seq < 0
                · have HE : Hid (S = 24) := by unfold Hid; rw [HS.out]; repeat (first | rw [if_pos (by omega)] | rw [if_neg (by omega)])
                  clear HS
                  go_enter Try.func35, Try.ntmps35
                  go_wp2_with fail
                  refine (isRow_any lr).mono ?_
                  rintro e1 w1 ⟨rfl, rfl⟩
                  rw [d1]
                  go_wp2
                  go_ret
                  exact ⟨by rw [HE.out]; rfl, A1⟩
                · have c5q : 0 ≤ seq := by omega
                  by_cases c5b : 17592186044431 < seq
                  · have HE : Hid (S = 24) := by unfold Hid; rw [HS.out]; repeat (first | rw [if_pos (by omega)] | rw [if_neg (by omega)])
                    clear HS
                    go_enter Try.func35, Try.ntmps35
                    go_wp2_with fail
                    refine (isRow_any lr).mono ?_
                    rintro e1 w1 ⟨rfl, rfl⟩
                    rw [d1]
                    go_wp2
                    go_ret
                    exact ⟨by rw [HE.out]; rfl, A1⟩
                  · have c5p : seq ≤ 17592186044431 := by omega
                    by_cases c6a : kind < 1
                    · have HE : Hid (S = 25) := by unfold Hid; rw [HS.out]; repeat (first | rw [if_pos (by omega)] | rw [if_neg (by omega)])
                      clear HS
                      go_enter Try.func35, Try.ntmps35
                      go_wp2_with fail
                      refine (isRow_any lr).mono ?_
                      rintro e1 w1 ⟨rfl, rfl⟩
                      rw [d1]
                      go_wp2
                      go_ret
                      exact ⟨by rw [HE.out]; rfl, A1⟩
                    · have c6q : 1 ≤ kind := by omega
                      by_cases c6b : 5 < kind
                      · have HE : Hid (S = 25) := by unfold Hid; rw [HS.out]; repeat (first | rw [if_pos (by omega)] | rw [if_neg (by omega)])
                        clear HS
                        go_enter Try.func35, Try.ntmps35
                        go_wp2_with fail
                        refine (isRow_any lr).mono ?_
                        rintro e1 w1 ⟨rfl, rfl⟩
                        rw [d1]
                        go_wp2
                        go_ret
                        exact ⟨by rw [HE.out]; rfl, A1⟩
                      · have c6p : kind ≤ 5 := by omega
                        by_cases c7a : 4096 < nv
                        · have v1 : (4096 : Int) < (nv : Int) := by omega
                          have HE : Hid (S = 26) := by unfold Hid; rw [HS.out]; repeat (first | rw [if_pos (by omega)] | rw [if_neg (by omega)])
                          clear HS
                          go_enter Try.func35, Try.ntmps35
                          go_wp2_with fail
                          refine (isRow_any lr).mono ?_
                          rintro e1 w1 ⟨rfl, rfl⟩
                          rw [d1]
                          go_wp2
                          go_ret
                          exact ⟨by rw [HE.out]; rfl, A1⟩
                        · have v1 : (nv : Int) ≤ 4096 := by omega
                          by_cases c7b : 0 < nv
                          · have v0 : (0 : Int) < (nv : Int) := by omega
                            by_cases c7c : kind = 1
                            · subst c7c
                              have HE : Hid (S = 0) := by unfold Hid; rw [HS.out]; repeat (first | rw [if_pos (by omega)] | rw [if_neg (by omega)])
                              clear HS
                              go_enter Try.func35, Try.ntmps35
                              go_wp2_with fail
                              refine (isRow_any lr).mono ?_
                              rintro e1 w1 ⟨rfl, rfl⟩
                              rw [d1]
                              go_wp2
                              go_ret
                              exact ⟨by rw [HE.out]; rfl, A1⟩
                            · have k1 : (kind == 1) = false := by simp; omega
                              have k1n : (kind != 1) = true := by simp; omega
                              have HE : Hid (S = 26) := by unfold Hid; rw [HS.out]; repeat (first | rw [if_pos (by omega)] | rw [if_neg (by omega)])
                              clear HS
                              go_enter Try.func35, Try.ntmps35
                              go_wp2_with fail
                              refine (isRow_any lr).mono ?_
                              rintro e1 w1 ⟨rfl, rfl⟩
                              rw [d1]
                              go_wp2
                              go_ret
                              exact ⟨by rw [HE.out]; rfl, A1⟩
                          · have v0 : (nv : Int) ≤ 0 := by omega
                            have HE : Hid (S = 0) := by unfold Hid; rw [HS.out]; repeat (first | rw [if_pos (by omega)] | rw [if_neg (by omega)])
                            clear HS
                            go_enter Try.func35, Try.ntmps35
                            go_wp2_with fail
                            refine (isRow_any lr).mono ?_
                            rintro e1 w1 ⟨rfl, rfl⟩
                            rw [d1]
                            go_wp2
                            go_ret
                            exact ⟨by rw [HE.out]; rfl, A1⟩
  · have d1 : decide (0 < nr ∧ nr ≤ 256) = false := by simp; omega
    have HE : Hid (S = 20) := by unfold Hid; rw [HS.out]; repeat (first | rw [if_pos (by omega)] | rw [if_neg (by omega)])
    clear HS
    go_enter Try.func35, Try.ntmps35
    go_wp2_with fail
    refine (isRow_any lr).mono ?_
    rintro e1 w1 ⟨rfl, rfl⟩
    rw [d1]
    go_wp2
    go_ret
    exact ⟨by rw [HE.out]; rfl, A1⟩

end Go.Proofs.Ytemdhpjoakldhaa

namespace Go.Proofs.Ytemdhpjoakldhaa
open Go.RowKit
set_option linter.unusedVariables false

/-- An entry lies in a block of its own. -/
def EBox (w : World) (g : Nat) (e : EntD) : Prop := w.heap[g]? = some (.cells e.cells 38 (0, 0))
theorem EBox.later {w w' : World} {g : Nat} {e : EntD} (h : EBox w g e) (hb : Below w.heap.size w w') : EBox w' g e := by
  unfold EBox at *
  rw [hb.block g (Array.getElem?_eq_some_iff.1 h).1]; exact h
theorem EBox.keep {w w' : World} {B g : Nat} {e : EntD} (h : EBox w g e) (hb : Below B w w') (hg : g < B) : EBox w' g e := by
  unfold EBox at *
  rw [hb.block g hg]; exact h
theorem EBox.new (w : World) (e : EntD) : EBox (w.alloc (.cells e.cells 38)) w.heap.size e := by
  show (w.heap.push _)[w.heap.size]? = some _
  simp
theorem EBox.vr {w : World} {g : Nat} {e : EntD} (h : EBox w g e) : w.cell? ⟨g, 0, none⟩ = some e.vr := by unfold EBox EntD.cells at h; simp [World.cell?, h]
theorem EBox.fam {w : World} {g : Nat} {e : EntD} (h : EBox w g e) : w.cell? ⟨g, 1, none⟩ = some (.int .i64 e.fam) := by unfold EBox EntD.cells at h; simp [World.cell?, h]
theorem EBox.vq {w : World} {g : Nat} {e : EntD} (h : EBox w g e) : w.cell? ⟨g, 2, none⟩ = some e.vq := by unfold EBox EntD.cells at h; simp [World.cell?, h]
theorem EBox.ts {w : World} {g : Nat} {e : EntD} (h : EBox w g e) : w.cell? ⟨g, 3, none⟩ = some (.int .i64 e.ts) := by unfold EBox EntD.cells at h; simp [World.cell?, h]
theorem EBox.seq {w : World} {g : Nat} {e : EntD} (h : EBox w g e) : w.cell? ⟨g, 4, none⟩ = some (.int .i64 e.seq) := by unfold EBox EntD.cells at h; simp [World.cell?, h]
theorem EBox.kind {w : World} {g : Nat} {e : EntD} (h : EBox w g e) : w.cell? ⟨g, 5, none⟩ = some (.int .i64 e.kind) := by unfold EBox EntD.cells at h; simp [World.cell?, h]
theorem EBox.vv {w : World} {g : Nat} {e : EntD} (h : EBox w g e) : w.cell? ⟨g, 6, none⟩ = some e.vv := by unfold EBox EntD.cells at h; simp [World.cell?, h]

/-- A key's bytes. -/
def mark (k a : Int) : Nat := if k = a then 0 else 1
def keyL (e : EntD) : List Nat :=
  ((((ordL e.row ++ [e.fam.toNat, mark e.kind 5]) ++ (if e.kind = 5 then [] else ordL e.qual ++ [mark e.kind 4])) ++ be8 (9223372036854775807 - e.ts.toNat)) ++ be8 (9223372036854775807 - e.seq.toNat)) ++ [e.kind.toNat]

theorem check_facts {e : EntD} (h : checkS e = 0) : (1 ≤ e.row.length ∧ e.row.length ≤ 256) ∧ (0 ≤ e.fam ∧ e.fam < 8) ∧ e.qual.length ≤ 256 ∧ (e.kind = 5 → e.qual = []) ∧ (1 ≤ e.ts ∧ e.ts ≤ 1099511627776) ∧ (0 ≤ e.seq ∧ e.seq ≤ 17592186044431) ∧ (1 ≤ e.kind ∧ e.kind ≤ 5) ∧ e.val.length ≤ 4096 ∧ (e.kind ≠ 1 → e.val = []) := by
  unfold checkS at h
  split at h
  · cases h
  split at h
  · cases h
  split at h
  · cases h
  split at h
  · cases h
  split at h
  · cases h
  split at h
  · cases h
  split at h
  · cases h
  refine ⟨by omega, by omega, by omega, fun hk => List.eq_nil_of_length_eq_zero (by omega), by omega, by omega, by omega, by omega, fun hk => List.eq_nil_of_length_eq_zero (by omega)⟩

theorem append2 {w W : World} {o : Oper} {a : Act} {K : Act → World → Prop} {Q : Exit → Act → World → Prop} (s x : Operand)
    (ho : o.op = .call { callee := .builtin .append, args := #[s, x], argTypes := #[36, 36] })
    (B : Nat) (a0 : Option Addr) (m0 c0 : Nat) (acc : List Nat) (hs : a.eval s = .slice a0 m0 c0) (hown : Own w B (.slice a0 m0 c0) m0 acc)
    (vs : List Value) (m g : Nat) (hg : g = w.heap.size) (hx : a.eval x = .slice (some ⟨g, 0, none⟩) m m) (bs : List Nat) (hvs : vs = bv bs) (hm : m = bs.length)
    (hbytes : m0 + m ≤ 140737488355328) (hB : B ≤ w.heap.size) (hW : W = w.alloc (.cells vs.toArray 5))
    (h : ∀ a' m' c' w', Own w' B (.slice a' m' c') m' (acc ++ bs) → Below B w w' → K (a.put o.dst (.slice a' m' c')) w') : o.wp Try.prog a W K Q := by
  obtain ⟨i0, hi, hz0, hz1, hz2⟩ := info_parts info_byte
  subst hW hvs hg
  refine wp_append_own _ s x 36 ho B 5 i0 (.int .u8 0) 1 1 und_bytes hi hz0 hz1 hz2 rfl (by decide) _ m0 (bv acc) hs (hown.2.alloc _) ⟨w.heap.size, 0, none⟩ m m (bv bs) hx (by simp [bv, hm]) (news_new _ _ _) (bv_oneCell bs) (by unfold maxLen; omega) (by omega) (by simp; omega) ?_
  intro v' w' h1 h2 _
  obtain ⟨a', c', rfl⟩ := own_form h1
  refine h a' _ c' w' ⟨by rw [hown.1, hm]; simp, by simpa [bv] using h1⟩ (((Below.refl B w).alloc hB _).grown h2 (by simp; omega) (fun k hk => (hown.2.lt k hk).1))

end Go.Proofs.Ytemdhpjoakldhaa
