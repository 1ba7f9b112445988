import Derived.Test.YtjcpjpjccoeakaaJ01
import Derived.Shelf.Bytes.SlCountOne
import Derived.Test.YtjcpjpjccoeakaaJ00
namespace Go.Proofs.Ytjcpjpjccoeakaa
open Go.RowKit
set_option linter.unusedVariables false

theorem ints_at {w : World} {x : Addr} {bs : List Nat} (h : At w (some x) bs) : ∀ i, i < bs.length → w.cell? (x.add i) = some (.int .u8 ((bs.map fun n : Nat => (n : Int)).getD i 0)) := by
  intro i hi
  have := h.add i (.int .u8 ((bs.getD i 0 : Nat) : Int)) (by simp [bv, List.getElem?_eq_getElem hi])
  rw [this]
  simp [List.getElem?_eq_getElem hi]

theorem count_eq (bs : List Nat) (h : Bys bs) : Lib.countByte (Lib.bytesOf (bs.map fun n : Nat => (n : Int))) (0 : Int).toNat.toUInt8 = bs.count 0 := by
  unfold Lib.countByte Lib.bytesOf
  induction bs with
  | nil => rfl
  | cons c r ih =>
    have hc := h c (by simp)
    have ih' := ih (fun x hx => h x (by simp [hx]))
    simp only [List.map_cons, List.count_cons]
    rw [ih']
    congr 1
    have e : (UInt8.ofNat ((c : Int)).toNat == (0 : Int).toNat.toUInt8) = (c == 0) := by
      rw [Int.toNat_natCast]
      by_cases h0 : c = 0
      · subst h0; rfl
      · have : UInt8.ofNat c ≠ (0 : Int).toNat.toUInt8 := by
          intro hh
          have h2 := congrArg UInt8.toNat hh
          simp at h2
          omega
        rw [beq_eq_false_iff_ne.2 this, beq_eq_false_iff_ne.2 h0]
    rw [e]

set_option maxRecDepth 100000 in
set_option maxHeartbeats 1000000 in
theorem count_any {v : Value} {bs : List Nat} {w : World} (hr : Rd w v bs) (g : Nat) (hg : w.cell? ⟨g, 0, none⟩ = some (.int .u8 0)) :
    Calls Try.prog 86 #[v, .slice (some ⟨g, 0, none⟩) 1 1] w fun e w' => e = .returned (.int .i64 ((bs.count 0 : Nat) : Int)) ∧ w' = w := by
  obtain ⟨hby, a, cap, rfl, hle, hm, hl48, hnone, hat⟩ := hr
  cases a with
  | none =>
    have hb0 : bs = [] ∧ cap = 0 := by
      rcases hnone with h | ⟨b, off, h⟩
      · exact ⟨List.eq_nil_of_length_eq_zero (by omega), h⟩
      · cases h
    obtain ⟨rfl, rfl⟩ := hb0
    go_enter Try.func86, Try.ntmps86
    go_wp2
    rw [run_callFunc_extern Try.func107 (by kernel_rfl) (by kernel_rfl) (by kernel_rfl) (e := Extern.BytealgCount.count) (by kernel_rfl), Lib.run_countNil w 0 0 0]
    simp only [Result.andThen]
    rw [Oper.upon_value]
    go_wp2
    go_ret
    exact ⟨rfl, rfl⟩
  | some x =>
    have hi := ints_at hat
    obtain ⟨n, hn⟩ : ∃ n, n = bs.length := ⟨_, rfl⟩
    have hc := Lib.run_countAt (P := Try.prog) w x n cap (bs.map fun n : Nat => (n : Int)) (by simp [hn]) (by rw [hn]; exact hi) 0
    rw [← hn]
    have HN : Hid (n = bs.length) := hn
    have HCT : Hid (Lib.countByte (Lib.bytesOf (bs.map fun n : Nat => (n : Int))) (0 : Int).toNat.toUInt8 = bs.count 0) := count_eq bs hby
    obtain ⟨C, hC⟩ : ∃ C, C = Lib.countByte (Lib.bytesOf (bs.map fun n : Nat => (n : Int))) (0 : Int).toNat.toUInt8 := ⟨_, rfl⟩
    rw [← hC] at hc
    have HC : Hid (C = bs.count 0) := by unfold Hid; rw [hC]; exact HCT.out
    clear hn hi hat hnone hle hl48 hC HCT
    go_enter Try.func86, Try.ntmps86
    go_wp2
    rw [run_callFunc_extern Try.func107 (by kernel_rfl) (by kernel_rfl) (by kernel_rfl) (e := Extern.BytealgCount.count) (by kernel_rfl), hc]
    simp only [Result.andThen]
    rw [Oper.upon_value]
    go_wp2
    go_ret
    rw [← HC.out]
    exact ⟨rfl, rfl⟩

def escL : List Nat → List Nat
  | [] => []
  | c :: r => if c = 0 then 0 :: 255 :: escL r else c :: escL r
def ordL (bs : List Nat) : List Nat := escL bs ++ [0, 1]
theorem escL_append (a b : List Nat) : escL (a ++ b) = escL a ++ escL b := by
  induction a with
  | nil => rfl
  | cons c a ih =>
    simp only [List.cons_append, escL]
    split <;> simp [ih]
theorem escL_len (bs : List Nat) : (escL bs).length = bs.length + bs.count 0 := by
  induction bs with
  | nil => rfl
  | cons c r ih =>
    simp only [escL, List.count_cons]
    by_cases h : c = 0
    · subst h; simp [ih]; omega
    · simp [h, ih]; omega
theorem ordL_len (bs : List Nat) : (ordL bs).length = bs.length + bs.count 0 + 2 := by unfold ordL; rw [List.length_append, escL_len]; rfl
theorem escL_bys (bs : List Nat) (h : Bys bs) : Bys (escL bs) := by
  induction bs with
  | nil => intro x hx; simp [escL] at hx
  | cons c r ih =>
    have ih' := ih (fun x hx => h x (by simp [hx]))
    have hc := h c (by simp)
    simp only [escL]
    split
    · intro x hx
      simp only [List.mem_cons] at hx
      rcases hx with rfl | rfl | hx
      · omega
      · omega
      · exact ih' x hx
    · intro x hx
      simp only [List.mem_cons] at hx
      rcases hx with rfl | hx
      · exact hc
      · exact ih' x hx
theorem ordL_bys (bs : List Nat) (h : Bys bs) : Bys (ordL bs) := (escL_bys bs h).app (by intro x hx; simp at hx; omega)
theorem escL_le (bs : List Nat) (t : Nat) : (escL (bs.take t)).length ≤ (escL bs).length := by
  conv => rhs; rw [← List.take_append_drop t bs, escL_append]
  simp

theorem own_room {w : World} {B : Nat} {v : Value} {m n C m1 : Nat} {xs : List Nat} (h : Own w B v m (xs ++ [0])) (hm : m1 ≤ n + C) (hs : n + C + 2 ≤ 140737488355328) (h1 : m1 = xs.length) : m + 1 ≤ 140737488355328 := by
  have := h.1
  rw [List.length_append] at this
  simp at this
  omega

set_option maxRecDepth 100000 in
set_option maxHeartbeats 1000000 in
theorem ordered_any {v : Value} {bs : List Nat} {w : World} (hr : Rd w v bs) (hl : (ordL bs).length ≤ 140737488355328) :
    Calls Try.prog 59 #[v] w fun e w' => ∃ a m c, e = .returned (.slice a m c) ∧ Own w' w.heap.size (.slice a m c) m (ordL bs) ∧ Below w.heap.size w w' := by
  obtain ⟨i0, hi, hz0, hz1, hz2⟩ := info_parts info_byte
  obtain ⟨a, n, cap, rfl⟩ := rd_slice hr
  obtain ⟨hn, hle, hm, hl48⟩ := rd_lens hr
  have HN : Hid (n = bs.length) := hn
  have hol := ordL_len bs
  rw [← hn] at hol
  obtain ⟨C, hC⟩ : ∃ C, C = bs.count 0 := ⟨_, rfl⟩
  rw [← hC] at hol
  have hsum : n + C + 2 ≤ 140737488355328 := by omega
  have HC : Hid (C = bs.count 0) := hC
  have HOL : Hid ((ordL bs).length = n + C + 2) := hol
  clear hn hC hm hol hl
  have A1 := (Below.refl w.heap.size w).alloc (Nat.le_refl _) (.cells #[.int .u8 0] 5)
  have hg : (w.alloc (.cells #[.int .u8 0] 5)).cell? ⟨w.heap.size, 0, none⟩ = some (.int .u8 0) := news_new w [.int .u8 0] 5 0 _ rfl
  go_enter Try.func59, Try.ntmps59
  go_wp2_with fail
  refine (count_any (hr.later A1) _ hg).mono ?_
  rintro e w1 ⟨rfl, rfl⟩
  rw [← HC.out]
  have hs1 := A1.size
  clear hg
  go_wp2_with (at_make; refine wpList_make_own _ rfl _ _ 33 rfl w.heap.size 5 i0 (.int .u8 0) 1 und_bytes hi hz0 hz1 .i64 .i64 _ (n + C + 2) rfl rfl ?c0 ?c1 ?c2 ?c3 ?_)
  case c0 => omega
  case c1 => rw [hz2]; omega
  case c2 => unfold maxLen; omega
  case c3 => exact hs1
  intro w2 hown2 hg2
  have hb2 : Below w.heap.size w w2 := A1.grown hg2 hs1 (fun k hk => by simp at hk)
  clear hg2 A1 hs1
  have own2 : Own w2 w.heap.size (.slice (some ⟨w.heap.size + 1, 0, none⟩) 0 (n + C + 2)) 0 [] := ⟨rfl, hown2⟩
  clear hown2
  go_wp2
  go_loopw [3, 16] (fun s i wr => ∃ t a m c, t ≤ n ∧ i = .int .i64 ((t : Nat) : Int) ∧ s = .slice a m c ∧ Own wr w.heap.size (.slice a m c) m (escL (bs.take t)) ∧ Below w.heap.size w wr) (fun _ i _ => n - (intOf i).toNat)
  case atStart => exact ⟨0, _, _, _, Nat.zero_le _, rfl, rfl, own2, hb2⟩
  case round =>
    obtain ⟨t, a1, m1, c1, htl, rfl, rfl, own1, hb1⟩ := hrel
    have hs1 := hb1.size
    have hme := escL_le bs t
    have hm1 : m1 ≤ n + C := by
      rw [own1.1]
      have := HOL.out
      unfold ordL at this
      rw [List.length_append] at this
      simp at this
      omega
    clear hme
    by_cases hlt : t < n
    · have hlt2 : (t : Int) < (n : Int) := by omega
      rcases rd_some hr with ⟨_, h0, _⟩ | ⟨b, off, rfl⟩
      · omega
      obtain ⟨hcell0, hcl⟩ := rd_cell hr t hlt
      have hcell : wr.cell? ⟨b, off + t, none⟩ = some (.int .u8 ((bs.getD t 0 : Nat) : Int)) := by
        rw [hb1.cell (p := ⟨b, off + t, none⟩) (World.block_lt_of_cell? w _ hcell0)]; exact hcell0
      have htk := take_succ_getD bs t (by rw [← HN.out]; exact hlt)
      obtain ⟨c, hcd⟩ : ∃ c, c = bs.getD t 0 := ⟨_, rfl⟩
      rw [← hcd] at hcell hcl htk
      have HTK : Hid (bs.take (t + 1) = bs.take t ++ [c]) := htk
      clear hcd htk hcell0
      by_cases hc0 : c = 0
      · subst hc0
        have HE : Hid (escL (bs.take (t + 1)) = (escL (bs.take t) ++ [0]) ++ [255]) := by
          unfold Hid; rw [HTK.out, escL_append]; simp [escL]
        go_wp2_with (first
          | (at_builtin; refine wpList_append_new rfl (.tmp 20) _ rfl w.heap.size a1 m1 c1 _ rfl own1 [_] 1 rfl [0] rfl rfl (by omega) hs1 ?_; intro a3 m3 c3 w3 own3 hb3)
          | (at_builtin; refine wpList_append_new rfl (.tmp 26) _ rfl w.heap.size a3 m3 c3 _ rfl own3 [_] 1 rfl [255] rfl rfl (own_room own3 hm1 hsum own1.1) (hb1.trans hb3).size ?_; intro a4 m4 c4 w4 own4 hb4))
        go_roundw
        case rel => exact ⟨t + 1, a4, m4, c4, by omega, by go_num, rfl, by rw [HE.out]; exact own4, (hb1.trans hb3).trans hb4⟩
        case measure => simp [intOf]; omega
      · have HE : Hid (escL (bs.take (t + 1)) = escL (bs.take t) ++ [c]) := by
          unfold Hid; rw [HTK.out, escL_append]; simp [escL, hc0]
        have hcb : ((c : Int) == 0) = false := by simp; omega
        clear hc0
        go_wp2_with (at_builtin; refine wpList_append_new rfl (.tmp 20) _ rfl w.heap.size a1 m1 c1 _ rfl own1 [_] 1 rfl [c] rfl rfl (by omega) hs1 ?_; intro a3 m3 c3 w3 own3 hb3)
        go_roundw
        case rel => exact ⟨t + 1, a3, m3, c3, by omega, by go_num, rfl, by rw [HE.out]; exact own3, hb1.trans hb3⟩
        case measure => simp [intOf]; omega
    · have hge : (n : Int) ≤ (t : Int) := by omega
      have HE : Hid (escL (bs.take t) = escL bs) := by unfold Hid; rw [List.take_of_length_le (by rw [← HN.out]; omega)]
      go_wp2_with (at_builtin; refine wpList_append_new rfl (.tmp 30) _ rfl w.heap.size a1 m1 c1 _ rfl own1 [_, _] 2 rfl [0, 1] rfl rfl (by omega) hs1 ?_; intro a3 m3 c3 w3 own3 hb3)
      go_ret
      refine ⟨a3, m3, c3, rfl, ?_, hb1.trans hb3⟩
      unfold ordL
      rw [← HE.out]
      exact own3

/-- The place of the first nought. -/
def zi : List Nat → Int
  | [] => -1
  | b :: l => if b = 0 then 0 else if zi l = -1 then -1 else zi l + 1
theorem zi_eq (bs : List Nat) (h : Bys bs) : Lib.indexByte (Lib.bytesOf (bs.map fun n : Nat => (n : Int))) (0 : Int).toNat.toUInt8 = zi bs := by
  induction bs with
  | nil => rfl
  | cons c r ih =>
    have hc := h c (by simp)
    have ih' := ih (fun x hx => h x (by simp [hx]))
    have hd : Lib.bytesOf ((c :: r).map fun n : Nat => (n : Int)) = UInt8.ofNat c :: Lib.bytesOf (r.map fun n : Nat => (n : Int)) := by simp [Lib.bytesOf]
    rw [hd]
    simp only [Lib.indexByte, zi]
    rw [ih']
    have e : (UInt8.ofNat c == (0 : Int).toNat.toUInt8) = (c == 0) := by
      by_cases h0 : c = 0
      · subst h0; rfl
      · have : UInt8.ofNat c ≠ (0 : Int).toNat.toUInt8 := by
          intro hh
          have h2 := congrArg UInt8.toNat hh
          simp at h2
          omega
        rw [beq_eq_false_iff_ne.2 this, beq_eq_false_iff_ne.2 h0]
    rw [e]
    by_cases h0 : c = 0
    · simp [h0]
    · simp [h0]
theorem run_index_any {P : Program} (w : World) (a : Addr) (n c : Nat) (xs : List Int) (hx : xs.length = n) (hc : ∀ i, i < n → w.cell? (a.add i) = some (.int .u8 (xs.getD i 0))) (cv : Int) :
    (Extern.BytealgIndexByte.indexByte #[.slice (some a) n c, .int .u8 cv]).run P w = .ok (.int .i64 (Lib.indexByte (Lib.bytesOf xs) cv.toNat.toUInt8)) w := by
  by_cases hn : n = 0
  · subst hn
    have hx0 : xs = [] := List.eq_nil_of_length_eq_zero hx
    subst hx0
    have h1 := Lib.run_indexByteString (P := P) .empty cv w
    have hl := Lib.run_loadBytesX (P := P) w [] a .empty (fun j x hj => by simp at hj)
    change Sem.run P (do
      let b ← Extern.Bytes.bytesOf (.slice (some a) 0 c)
      let c ← Extern.Bytes.asByte (.int .u8 cv)
      match (List.range b.size).find? fun i => b[i]! == c with
      | some i => pure (goInt i)
      | none => pure (goInt (-1))) w = _
    rfl
  · obtain ⟨b, off, spot⟩ := a
    have h0 := hc 0 (by omega)
    have hspot : spot = none := by simpa [Addr.add] using World.cell?_spot h0
    subst hspot
    refine Lib.run_indexByteSlice w b off n c xs hx (fun i hi => ?_) cv
    have e : (⟨b, off, none⟩ : Addr).add i = ⟨b, off + i, none⟩ := by unfold Addr.add; split <;> simp_all
    rw [← e]
    exact hc i hi

set_option maxRecDepth 100000 in
set_option maxHeartbeats 1000000 in
theorem indexByte_any {v : Value} {bs : List Nat} {w : World} (hr : Rd w v bs) :
    Calls Try.prog 117 #[v, .int .u8 0] w fun e w' => e = .returned (.int .i64 (zi bs)) ∧ w' = w := by
  obtain ⟨hby, a, cap, rfl, hle, hm, hl48, hnone, hat⟩ := hr
  cases a with
  | none =>
    have hb0 : bs = [] ∧ cap = 0 := by
      rcases hnone with h | ⟨b, off, h⟩
      · exact ⟨List.eq_nil_of_length_eq_zero (by omega), h⟩
      · cases h
    obtain ⟨rfl, rfl⟩ := hb0
    go_enter Try.func117, Try.ntmps117
    go_wp2
    rw [run_callFunc_extern Try.func124 (by kernel_rfl) (by kernel_rfl) (by kernel_rfl) (e := Extern.BytealgIndexByte.indexByte) (by kernel_rfl), Lib.run_indexByteNil w 0 0 0]
    simp only [Result.andThen]
    rw [Oper.upon_value]
    go_wp2
    go_ret
    exact ⟨rfl, rfl⟩
  | some x =>
    have hi := ints_at hat
    obtain ⟨n, hn⟩ : ∃ n, n = bs.length := ⟨_, rfl⟩
    have hc := run_index_any (P := Try.prog) w x n cap (bs.map fun n : Nat => (n : Int)) (by simp [hn]) (by rw [hn]; exact hi) 0
    rw [zi_eq bs hby] at hc
    rw [← hn]
    clear hn hi hat hnone hle hl48
    obtain ⟨Z, hZ⟩ : ∃ Z, Z = zi bs := ⟨_, rfl⟩
    rw [← hZ] at hc ⊢
    clear hZ
    go_enter Try.func117, Try.ntmps117
    go_wp2
    rw [run_callFunc_extern Try.func124 (by kernel_rfl) (by kernel_rfl) (by kernel_rfl) (e := Extern.BytealgIndexByte.indexByte) (by kernel_rfl), hc]
    simp only [Result.andThen]
    rw [Oper.upon_value]
    go_wp2
    go_ret
    exact ⟨rfl, rfl⟩

end Go.Proofs.Ytjcpjpjccoeakaa

namespace Go.Proofs.Ytjcpjpjccoeakaa
open Go.RowKit
set_option linter.unusedVariables false

theorem flat_le (ps : List (List Nat)) (k : Nat) : (ps.take k).flatten.length ≤ ps.flatten.length := by
  conv => rhs; rw [← List.take_append_drop k ps, List.flatten_append]
  simp

end Go.Proofs.Ytjcpjpjccoeakaa

namespace Go.Proofs.Ytjcpjpjccoeakaa
open Go.RowKit
set_option linter.unusedVariables false

/-- What ReadOrdered reads of the bytes from a place on: what was gathered, how many bytes. -/
def rord : List Nat → List Nat → Nat → List Nat × Nat × Nat
  | [], _, _ => ([], 0, 10)
  | [c], acc, i => ([], 0, 10)
  | c :: d :: r, acc, i => if c ≠ 0 then rord (d :: r) (acc ++ [c]) (i + 1) else if d = 1 then (acc, i + 2, 0) else if d = 255 then rord r (acc ++ [0]) (i + 2) else ([], 0, 11)
def ordR (bs : List Nat) (k : Nat) : List Nat × Nat × Nat :=
  ((rord (bs.drop k) [] 0).1, if (rord (bs.drop k) [] 0).2.2 = 0 then k + (rord (bs.drop k) [] 0).2.1 else 0, (rord (bs.drop k) [] 0).2.2)

/-- No nought: it ends too early. -/
theorem zi_neg (l : List Nat) : zi l < 0 → zi l = -1 ∧ ∀ acc i, rord l acc i = ([], 0, 10) := by
  induction l with
  | nil => intro _; exact ⟨rfl, fun _ _ => rfl⟩
  | cons c l ih =>
    intro h
    simp only [zi] at h ⊢
    by_cases hc : c = 0
    · rw [if_pos hc] at h; omega
    · rw [if_neg hc] at h ⊢
      by_cases hz : zi l = -1
      · rw [if_pos hz] at h ⊢
        refine ⟨rfl, fun acc i => ?_⟩
        have := (ih (by omega)).2
        cases l with
        | nil => rfl
        | cons d r => unfold rord; rw [if_pos hc]; exact this _ _
      · rw [if_neg hz] at h
        have : zi l = -1 := (ih (by omega)).1
        exact absurd this hz
/-- A nought at place z: what stands ahead of it is gathered. -/
theorem zi_pos (l : List Nat) (z : Nat) (h : zi l = (z : Int)) : z < l.length ∧ l.getD z 0 = 0 ∧ (∀ acc i, rord l acc i = rord (l.drop z) (acc ++ l.take z) (i + z)) := by
  induction l generalizing z with
  | nil => simp [zi] at h
  | cons c l ih =>
    simp only [zi] at h
    by_cases hc : c = 0
    · rw [if_pos hc] at h
      have hz : z = 0 := by omega
      subst hz
      exact ⟨by simp, by simp [hc], fun acc i => by simp⟩
    · rw [if_neg hc] at h
      by_cases hz : zi l = -1
      · rw [if_pos hz] at h; omega
      · rw [if_neg hz] at h
        have hz0 : ¬ zi l < 0 := fun hh => hz (zi_neg l hh).1
        obtain ⟨y, hy⟩ := Int.eq_ofNat_of_zero_le (show 0 ≤ zi l by omega)
        have hzy : z = y + 1 := by omega
        subst hzy
        obtain ⟨h1, h2, h3⟩ := ih y hy
        refine ⟨by simp; omega, by simpa using h2, fun acc i => ?_⟩
        cases l with
        | nil => simp at h1
        | cons d r =>
          have := h3 (acc ++ [c]) (i + 1)
          conv => lhs; unfold rord
          rw [if_pos hc, this]
          simp
          rw [show i + 1 + y = i + (y + 1) by omega]

set_option maxRecDepth 100000 in
set_option maxHeartbeats 400000 in
theorem readOrdered_out {v : Value} {bs : List Nat} {w : World} (hr : Rd w v bs) (at_ : Int) (h : at_ < 0 ∨ (bs.length : Int) < at_) :
    Calls Try.prog 110 #[v, .int .i64 at_] w fun e w' => e = .returned (.tuple #[.slice none 0 0, .int .i64 0, .int .i64 1]) ∧ w' = w := by
  obtain ⟨a, n, cap, rfl⟩ := rd_slice hr
  obtain ⟨hn, hle, hm, hl48⟩ := rd_lens hr
  rw [← hn] at h
  clear hn hr
  have hd : decide (at_ < 0 ∨ (n : Int) < at_) = true := by simpa using h
  clear h
  go_enter Try.func110, Try.ntmps110
  go_wp2_with fail
  refine (outside_any at_ hl48).mono ?_
  rintro e w1 ⟨rfl, rfl⟩
  rw [hd]
  go_wp2
  go_ret3
  exact ⟨rfl, rfl⟩

theorem drop_cons' (l : List Nat) (t : Nat) (h : t < l.length) : l.drop t = l.getD t 0 :: l.drop (t + 1) := by
  rw [List.drop_eq_getElem_cons h]; simp [List.getD, List.getElem?_eq_getElem h]

theorem own_room2 {w : World} {B : Nat} {v : Value} {m m1 p z n : Nat} {xs ys : List Nat} (h : Own w B v m (xs ++ ys)) (hl : xs.length = m1 ∧ ys.length = z) (hmp : m1 ≤ p) (hp : (p : Int) + ((z : Int) + 2) ≤ (n : Int)) (hn : n ≤ 140737488355328) : m + 1 ≤ 140737488355328 := by
  have := h.1
  rw [List.length_append, hl.1, hl.2] at this
  omega

set_option maxRecDepth 100000 in
set_option maxHeartbeats 2000000 in
theorem readOrdered_in {v : Value} {bs : List Nat} {w : World} (hr : Rd w v bs) (k : Nat) (hk : k ≤ bs.length) (h47 : bs.length ≤ 140737488355328) :
    Calls Try.prog 110 #[v, .int .i64 (k : Int)] w fun e w' => ∃ a m c, e = .returned (.tuple #[.slice a m c, .int .i64 (((ordR bs k).2.1 : Nat) : Int), .int .i64 (((ordR bs k).2.2 : Nat) : Int)]) ∧ Own w' w.heap.size (.slice a m c) m (ordR bs k).1 ∧ Below w.heap.size w w' := by
  obtain ⟨a, n, cap, rfl⟩ := rd_slice hr
  obtain ⟨hn, hle, hm, hl48⟩ := rd_lens hr
  rw [← hn] at hk h47
  have HN : Hid (n = bs.length) := hn
  clear hn
  unfold maxLen at hm
  have hd : decide ((k : Int) < 0 ∨ (n : Int) < (k : Int)) = false := by simp; omega
  obtain ⟨R, hR⟩ : ∃ R, R = ordR bs k := ⟨_, rfl⟩
  rw [← hR]
  have HR : Hid (R = ordR bs k) := hR
  clear hR
  go_enter Try.func110, Try.ntmps110
  go_wp2_with fail
  refine (outside_any _ hl48).mono ?_
  rintro e w1 ⟨rfl, rfl⟩
  rw [hd]
  go_wp2
  go_loopw [1, 7] (fun x s wr => ∃ p a m c acc, k ≤ p ∧ p ≤ n ∧ x = .int .i64 ((p : Nat) : Int) ∧ s = .slice a m c ∧ Own wr w1.heap.size (.slice a m c) m acc ∧ m ≤ p ∧ rord (bs.drop k) [] 0 = rord (bs.drop p) acc (p - k) ∧ Below w1.heap.size w1 wr) (fun x _ _ => n - (intOf x).toNat)
  case atStart => exact ⟨k, _, _, _, [], Nat.le_refl _, hk, rfl, rfl, ⟨rfl, World.ownsRow_nil _ _ _ _⟩, Nat.zero_le _, by simp, Below.refl _ _⟩
  case round =>
    obtain ⟨p, a1, m1, c1, acc, hkp, hpn, rfl, rfl, own1, hmp, hro, hb1⟩ := hrel
    have HO : Hid (rord (bs.drop k) [] 0 = rord (bs.drop p) acc (p - k)) := hro
    clear hro
    have hs1 := hb1.size
    have hp0 : (0 : Int) ≤ (p : Int) := by omega
    have hpn2 : (p : Int) ≤ (n : Int) := by omega
    by_cases hcp : cap = p
    · -- nothing is left
      have hnp : n = p := by omega
      have HRR : Hid (R = ([], 0, 10)) := by
        have hd0 : bs.drop p = [] := by rw [← hnp, HN.out]; simp
        unfold Hid
        rw [HR.out]
        unfold ordR
        rw [HO.out, hd0]
        rfl
      subst hnp
      subst hcp
      go_wp2_with fail
      refine (indexByte_any (Rd.zero _ a)).mono ?_
      rintro e w2 ⟨rfl, rfl⟩
      rw [show zi [] = -1 from rfl]
      go_wp2
      go_ret3
      rw [HRR.out]
      exact ⟨_, _, _, rfl, ⟨rfl, World.ownsRow_nil _ _ _ _⟩, hb1⟩
    · rcases rd_some hr with ⟨h0, _⟩ | ⟨b, off, rfl⟩
      · omega
      have rp := (hr.past p hpn (off' := off + p) rfl rfl rfl).later hb1
      have hlen : (bs.drop p).length = n - p := by rw [List.length_drop, ← HN.out]
      by_cases hz : zi (bs.drop p) < 0
      · have HRR : Hid (R = ([], 0, 10)) := by
          unfold Hid
          rw [HR.out]
          unfold ordR
          rw [HO.out, (zi_neg _ hz).2]
          rfl
        have HZ : Hid (zi (bs.drop p) = -1) := (zi_neg _ hz).1
        clear hz hlen
        go_wp2_with fail
        refine (indexByte_any rp).mono ?_
        rintro e w2 ⟨rfl, rfl⟩
        rw [HZ.out]
        go_wp2
        go_ret3
        rw [HRR.out]
        exact ⟨_, _, _, rfl, ⟨rfl, World.ownsRow_nil _ _ _ _⟩, hb1⟩
      · obtain ⟨z, hzz⟩ := Int.eq_ofNat_of_zero_le (show 0 ≤ zi (bs.drop p) by omega)
        obtain ⟨z1, z2, z3⟩ := zi_pos _ z hzz
        rw [hlen] at z1
        have HZ : Hid (zi (bs.drop p) = (z : Int)) := hzz
        have HO2 : Hid (rord (bs.drop k) [] 0 = rord ((bs.drop p).drop z) (acc ++ (bs.drop p).take z) (p - k + z)) := by unfold Hid; rw [HO.out]; exact z3 _ _
        have HZ0 : Hid ((bs.drop p).getD z 0 = 0) := z2
        clear hz hzz z2 z3
        have hzn : (0 : Int) ≤ (z : Int) := by omega
        have hdz : decide ((z : Int) < 0) = false := by simp
        by_cases hend : p + z + 1 = n
        · have HRR : Hid (R = ([], 0, 10)) := by
            have e1 : (bs.drop p).drop z = [(bs.drop p).getD z 0] := by
              have e0 : (bs.drop p).drop (z + 1) = [] := List.drop_eq_nil_of_le (by rw [hlen]; omega)
              rw [drop_cons' (bs.drop p) z (by rw [hlen]; omega), e0]
            unfold Hid
            rw [HR.out]
            unfold ordR
            rw [HO2.out, e1]
            rfl
          have he : ((p : Int) + (z : Int) + 1 == (n : Int)) = true := by simp; omega
          clear hend hlen
          go_wp2_with fail
          refine (indexByte_any rp).mono ?_
          rintro e w2 ⟨rfl, rfl⟩
          rw [HZ.out]
          go_wp2
          go_ret3
          rw [HRR.out]
          exact ⟨_, _, _, rfl, ⟨rfl, World.ownsRow_nil _ _ _ _⟩, hb1⟩
        · have he : ((p : Int) + (z : Int) + 1 == (n : Int)) = false := by simp; omega
          have rz := (hr.sub p (p + z) (by omega) (by omega) (off' := off + p) (n' := p + z - p) (cap' := cap - p) rfl rfl rfl).later hb1
          have ez : (bs.take (p + z)).drop p = (bs.drop p).take z := by rw [List.drop_take]; congr 1; omega
          rw [ez] at rz
          obtain ⟨hcd0, hcdl⟩ := rd_cell hr (p + z + 1) (by omega)
          obtain ⟨d, hdd⟩ : ∃ d, d = bs.getD (p + z + 1) 0 := ⟨_, rfl⟩
          rw [← hdd] at hcd0 hcdl
          have HD : Hid ((bs.drop p).drop z = 0 :: d :: bs.drop (p + z + 2)) := by
            unfold Hid
            rw [drop_cons' (bs.drop p) z (by rw [hlen]; omega), HZ0.out, drop_cons' (bs.drop p) (z + 1) (by rw [hlen]; omega)]
            have e1 : (bs.drop p).getD (z + 1) 0 = d := by rw [hdd]; simp [List.getD, Nat.add_assoc]
            rw [e1, List.drop_drop]
            simp [Nat.add_assoc]
          have hcd : wr.cell? ⟨b, off + (p + z + 1), none⟩ = some (.int .u8 (d : Int)) := by
            rw [hb1.cell (p := ⟨b, off + (p + z + 1), none⟩) (World.block_lt_of_cell? w1 _ hcd0)]; exact hcd0
          have hblk : b < w1.heap.size := World.block_lt_of_cell? w1 _ hcd0
          have HCD0 : Hid (w1.cell? ⟨b, off + (p + z + 1), none⟩ = some (.int .u8 (d : Int))) := hcd0
          have hpz3 : (p : Int) + ((z : Int) + 2) ≤ (n : Int) := by omega
          clear hdd hend hlen ez hcd0 hcd
          have hpz : (p : Int) ≤ (p : Int) + (z : Int) := by omega
          have hpz2 : (p : Int) + (z : Int) ≤ (cap : Int) := by omega
          go_wp2_with fail
          refine (indexByte_any rp).mono ?_
          rintro e w2 ⟨rfl, rfl⟩
          rw [HZ.out]
          have hroom : m1 + (p + z - p) ≤ 140737488355328 := by omega
          have HC5 : Hid (∀ w5 : World, Below w1.heap.size w1 w5 → w5.cell? ⟨b, off + (p + (z + 1)), none⟩ = some (.int .u8 (d : Int))) := by
            intro w5 hb5
            rw [hb5.cell (p := ⟨b, off + (p + (z + 1)), none⟩) hblk]
            exact HCD0.out
          clear HCD0
          by_cases hd1 : d = 1
          · have HRR : Hid (R = (acc ++ (bs.drop p).take z, p + (z + 2), 0)) := by
              unfold Hid
              rw [HR.out]
              unfold ordR
              rw [HO2.out, HD.out, hd1]
              simp [rord]
              omega
            have e1 : ((d : Int) == 1) = true := by simp; omega
            have H1 : Hid (d = 1) := hd1
            clear hd1
            go_wp2_with (at_builtin; refine wpList_append_at rfl (.tmp 27) _ rfl w1.heap.size _ _ _ _ rfl own1 _ _ _ _ rfl rz hroom hs1 ?_; intro a5 m5 c5 w5 own5 hb5; have hb5' := hb1.trans hb5; have hcd := HC5.out w5 hb5')
            go_ret3
            rw [HRR.out]
            refine ⟨a5, m5, c5, ?_, own5, hb5'⟩
            have HE : ((p : Int) + ((z : Int) + 2)) = ((p + (z + 2) : Nat) : Int) := by omega
            exact congrArg (fun y : Int => Ending.returned (Value.tuple #[Value.slice a5 m5 c5, Value.int .i64 y, Value.int .i64 0])) HE
          · have e1 : ((d : Int) == 1) = false := by simp; omega
            by_cases hd2 : d = 255
            · have HO3 : Hid (rord (bs.drop k) [] 0 = rord (bs.drop (p + (z + 2))) ((acc ++ (bs.drop p).take z) ++ [0]) (p + (z + 2) - k)) := by
                unfold Hid
                rw [HO2.out, HD.out, hd2]
                conv => lhs; unfold rord
                simp
                rw [show p - k + z + 2 = p + (z + 2) - k by omega]
                rfl
              have e2 : ((d : Int) == 255) = true := by simp; omega
              have H1 : Hid (d = 255) := hd2
              have hzl : (bs.drop p).length = n - p := by rw [List.length_drop, ← HN.out]
              have HAL : Hid (acc.length = m1 ∧ ((bs.drop p).take z).length = z) := by unfold Hid; exact ⟨own1.1.symm, by rw [List.length_take, hzl]; omega⟩
              clear hd1 hd2 hzl
              go_wp2_with (first
                | (at_builtin; refine wpList_append_at rfl (.tmp 27) _ rfl w1.heap.size _ _ _ _ rfl own1 _ _ _ _ rfl rz hroom hs1 ?_; intro a5 m5 c5 w5 own5 hb5; have hb5' := hb1.trans hb5; have hcd := HC5.out w5 hb5')
                | (at_builtin; refine wpList_append_new rfl (.tmp 50) _ rfl w1.heap.size a5 m5 c5 _ rfl own5 [_] 1 rfl [0] rfl rfl (own_room2 own5 HAL.out hmp hpz3 h47) hb5'.size ?_; intro a6 m6 c6 w6 own6 hb6))
              go_roundw
              case rel =>
                refine ⟨p + (z + 2), a6, m6, c6, _, by omega, by omega, by go_num, rfl, own6, ?_, HO3.out, hb5'.trans hb6⟩
                have h1 := own6.1
                rw [List.length_append, List.length_append, HAL.out.1, HAL.out.2] at h1
                simp at h1
                omega
              case measure => simp [intOf]; omega
            · have HRR : Hid (R = ([], 0, 11)) := by
                unfold Hid
                rw [HR.out]
                unfold ordR
                rw [HO2.out, HD.out]
                simp [rord, hd1, hd2]
              have e2 : ((d : Int) == 255) = false := by simp; omega
              clear hd1 hd2
              go_wp2_with (at_builtin; refine wpList_append_at rfl (.tmp 27) _ rfl w1.heap.size _ _ _ _ rfl own1 _ _ _ _ rfl rz hroom hs1 ?_; intro a5 m5 c5 w5 own5 hb5; have hb5' := hb1.trans hb5; have hcd := HC5.out w5 hb5')
              go_ret3
              rw [HRR.out]
              exact ⟨_, _, _, rfl, ⟨rfl, World.ownsRow_nil _ _ _ _⟩, hb5'⟩

end Go.Proofs.Ytjcpjpjccoeakaa
