import Derived.Test.YtpabbnddeklpdaaGreatK00
import Derived.Shelf.Bytes.SlCountOne
import Derived.Deep.RegionHeld3
namespace Go.Proofs.YtpabbnddeklpdaaGreat
open Go.RowKit
set_option linter.unusedVariables false

theorem ints_at {w : World} {x : Addr} {bs : List Nat} (h : At w (some x) bs) : ∀ i, i < bs.length → w.cell? (x.add i) = some (.int .u8 ((bs.map fun n : Nat => (n : Int)).getD i 0)) := by
 intro i hi
 have := h.add i (.int .u8 ((bs.getD i 0 : Nat) : Int)) (by simp [bv, List.getElem?_eq_getElem hi])
 rw [this]
 simp [List.getElem?_eq_getElem hi]

theorem count_eq (bs : List Nat) (h : Bys bs) : Lib.countByte (Lib.bytesOf (bs.map fun n : Nat => (n : Int))) (0 : Int).toNat.toUInt8 = bs.count 0 := by
 unfold Lib.countByte Lib.bytesOf
 induction bs with
 | nil => rfl
 | cons c r ih =>
  have hc := h c (by simp)
  have ih' := ih (fun x hx => h x (by simp [hx]))
  simp only [List.map_cons, List.count_cons]
  rw [ih']
  congr 1
  have e : (UInt8.ofNat ((c : Int)).toNat == (0 : Int).toNat.toUInt8) = (c == 0) := by
   rw [Int.toNat_natCast]
   by_cases h0 : c = 0
   ·subst h0; rfl
   ·have : UInt8.ofNat c ≠ (0 : Int).toNat.toUInt8 := by
     intro hh
     have h2 := congrArg UInt8.toNat hh
     simp at h2
     omega
    rw [beq_eq_false_iff_ne.2 this, beq_eq_false_iff_ne.2 h0]
  rw [e]

set_option maxRecDepth 100000 in
set_option maxHeartbeats 1000000 in
theorem count_any {v : Value} {bs : List Nat} {w : World} (hr : Rd w v bs) (g : Nat) (hg : w.cell? ⟨g, 0, none⟩ = some (.int .u8 0)) :
  Calls Tryz.prog 88 #[v, .slice (some ⟨g, 0, none⟩) 1 1] w fun e w' => e = .returned (.int .i64 ((bs.count 0 : Nat) : Int)) ∧ w' = w := by
 obtain ⟨hby, a, cap, rfl, hle, hm, hl48, hnone, hat⟩ := hr
 cases a with
 | none =>
  have hb0 : bs = [] ∧ cap = 0 := by
   rcases hnone with h | ⟨b, off, h⟩
   ·exact ⟨List.eq_nil_of_length_eq_zero (by omega), h⟩
   ·cases h
  obtain ⟨rfl, rfl⟩ := hb0
  go_enter Tryz.func88, Tryz.ntmps88
  go_wp2
  rw [run_callFunc_extern Tryz.func94 (by kernel_rfl) (by kernel_rfl) (by kernel_rfl) (e := Extern.BytealgCount.count) (by kernel_rfl), Lib.run_countNil w 0 0 0]
  simp only [Result.andThen]
  rw [Oper.upon_value]
  go_wp2
  go_ret
  exact ⟨rfl, rfl⟩
 | some x =>
  have hi := ints_at hat
  obtain ⟨n, hn⟩ : ∃ n, n = bs.length := ⟨_, rfl⟩
  have hc := Lib.run_countAt (P := Tryz.prog) w x n cap (bs.map fun n : Nat => (n : Int)) (by simp [hn]) (by rw [hn]; exact hi) 0
  rw [← hn]
  have HN : Hid (n = bs.length) := hn
  have HCT : Hid (Lib.countByte (Lib.bytesOf (bs.map fun n : Nat => (n : Int))) (0 : Int).toNat.toUInt8 = bs.count 0) := count_eq bs hby
  obtain ⟨C, hC⟩ : ∃ C, C = Lib.countByte (Lib.bytesOf (bs.map fun n : Nat => (n : Int))) (0 : Int).toNat.toUInt8 := ⟨_, rfl⟩
  rw [← hC] at hc
  have HC : Hid (C = bs.count 0) := by unfold Hid; rw [hC]; exact HCT.out
  clear hn hi hat hnone hle hl48 hC HCT
  go_enter Tryz.func88, Tryz.ntmps88
  go_wp2
  rw [run_callFunc_extern Tryz.func94 (by kernel_rfl) (by kernel_rfl) (by kernel_rfl) (e := Extern.BytealgCount.count) (by kernel_rfl), hc]
  simp only [Result.andThen]
  rw [Oper.upon_value]
  go_wp2
  go_ret
  rw [← HC.out]
  exact ⟨rfl, rfl⟩

def escL : List Nat → List Nat
 | [] => []
 | c :: r => if c = 0 then 0 :: 255 :: escL r else c :: escL r
def ordL (bs : List Nat) : List Nat := escL bs ++ [0, 1]
theorem escL_append (a b : List Nat) : escL (a ++ b) = escL a ++ escL b := by
 induction a with
 | nil => rfl
 | cons c a ih =>
  simp only [List.cons_append, escL]
  split <;> simp [ih]
theorem escL_len (bs : List Nat) : (escL bs).length = bs.length + bs.count 0 := by
 induction bs with
 | nil => rfl
 | cons c r ih =>
  simp only [escL, List.count_cons]
  by_cases h : c = 0
  ·subst h; simp [ih]; omega
  ·simp [h, ih]; omega
theorem ordL_len (bs : List Nat) : (ordL bs).length = bs.length + bs.count 0 + 2 := by unfold ordL; rw [List.length_append, escL_len]; rfl
theorem escL_bys (bs : List Nat) (h : Bys bs) : Bys (escL bs) := by
 induction bs with
 | nil => intro x hx; simp [escL] at hx
 | cons c r ih =>
  have ih' := ih (fun x hx => h x (by simp [hx]))
  have hc := h c (by simp)
  simp only [escL]
  split
  ·intro x hx
   simp only [List.mem_cons] at hx
   rcases hx with rfl | rfl | hx
   ·omega
   ·omega
   ·exact ih' x hx
  ·intro x hx
   simp only [List.mem_cons] at hx
   rcases hx with rfl | hx
   ·exact hc
   ·exact ih' x hx
theorem ordL_bys (bs : List Nat) (h : Bys bs) : Bys (ordL bs) := (escL_bys bs h).app (by intro x hx; simp at hx; omega)
theorem escL_le (bs : List Nat) (t : Nat) : (escL (bs.take t)).length ≤ (escL bs).length := by
 conv => rhs; rw [← List.take_append_drop t bs, escL_append]
 simp

theorem own_room {w : World} {B : Nat} {v : Value} {m n C m1 : Nat} {xs : List Nat} (h : Own w B v m (xs ++ [0])) (hm : m1 ≤ n + C) (hs : n + C + 2 ≤ 140737488355328) (h1 : m1 = xs.length) : m + 1 ≤ 140737488355328 := by
 have := h.1
 rw [List.length_append] at this
 simp at this
 omega

set_option maxRecDepth 100000 in
set_option maxHeartbeats 1000000 in
theorem ordered_any {v : Value} {bs : List Nat} {w : World} (hr : Rd w v bs) (hl : (ordL bs).length ≤ 140737488355328) :
  Calls Tryz.prog 77 #[v] w fun e w' => ∃ a m c, e = .returned (.slice a m c) ∧ Own w' w.heap.size (.slice a m c) m (ordL bs) ∧ Below w.heap.size w w' := by
 obtain ⟨i0, hi, hz0, hz1, hz2⟩ := info_parts info_byte
 obtain ⟨a, n, cap, rfl⟩ := rd_slice hr
 obtain ⟨hn, hle, hm, hl48⟩ := rd_lens hr
 have HN : Hid (n = bs.length) := hn
 have hol := ordL_len bs
 rw [← hn] at hol
 obtain ⟨C, hC⟩ : ∃ C, C = bs.count 0 := ⟨_, rfl⟩
 rw [← hC] at hol
 have hsum : n + C + 2 ≤ 140737488355328 := by omega
 have HC : Hid (C = bs.count 0) := hC
 have HOL : Hid ((ordL bs).length = n + C + 2) := hol
 clear hn hC hm hol hl
 have A1 := (Below.refl w.heap.size w).alloc (Nat.le_refl _) (.cells #[.int .u8 0] 5)
 have hg : (w.alloc (.cells #[.int .u8 0] 5)).cell? ⟨w.heap.size, 0, none⟩ = some (.int .u8 0) := news_new w [.int .u8 0] 5 0 _ rfl
 go_enter Tryz.func77, Tryz.ntmps77
 go_wp2_with fail
 refine (count_any (hr.later A1) _ hg).mono ?_
 rintro e w1 ⟨rfl, rfl⟩
 rw [← HC.out]
 have hs1 := A1.size
 clear hg
 go_wp2_with (at_make; refine wpList_make_own _ rfl _ _ 34 rfl w.heap.size 5 i0 (.int .u8 0) 1 und_bytes hi hz0 hz1 .i64 .i64 _ (n + C + 2) rfl rfl ?c0 ?c1 ?c2 ?c3 ?_)
 case c0 => omega
 case c1 => rw [hz2]; omega
 case c2 => unfold maxLen; omega
 case c3 => exact hs1
 intro w2 hown2 hg2
 have hb2 : Below w.heap.size w w2 := A1.grown hg2 hs1 (fun k hk => by simp at hk)
 clear hg2 A1 hs1
 have own2 : Own w2 w.heap.size (.slice (some ⟨w.heap.size + 1, 0, none⟩) 0 (n + C + 2)) 0 [] := ⟨rfl, hown2⟩
 clear hown2
 go_wp2
 go_loopw [3, 16] (fun s i wr => ∃ t a m c, t ≤ n ∧ i = .int .i64 ((t : Nat) : Int) ∧ s = .slice a m c ∧ Own wr w.heap.size (.slice a m c) m (escL (bs.take t)) ∧ Below w.heap.size w wr) (fun _ i _ => n - (intOf i).toNat)
 case atStart => exact ⟨0, _, _, _, Nat.zero_le _, rfl, rfl, own2, hb2⟩
 case round =>
  obtain ⟨t, a1, m1, c1, htl, rfl, rfl, own1, hb1⟩ := hrel
  have hs1 := hb1.size
  have hme := escL_le bs t
  have hm1 : m1 ≤ n + C := by
   rw [own1.1]
   have := HOL.out
   unfold ordL at this
   rw [List.length_append] at this
   simp at this
   omega
  clear hme
  by_cases hlt : t < n
  ·have hlt2 : (t : Int) < (n : Int) := by omega
   rcases rd_some hr with ⟨_, h0, _⟩ | ⟨b, off, rfl⟩
   ·omega
   obtain ⟨hcell0, hcl⟩ := rd_cell hr t hlt
   have hcell : wr.cell? ⟨b, off + t, none⟩ = some (.int .u8 ((bs.getD t 0 : Nat) : Int)) := by
    rw [hb1.cell (p := ⟨b, off + t, none⟩) (World.block_lt_of_cell? w _ hcell0)]; exact hcell0
   have htk := take_succ_getD bs t (by rw [← HN.out]; exact hlt)
   obtain ⟨c, hcd⟩ : ∃ c, c = bs.getD t 0 := ⟨_, rfl⟩
   rw [← hcd] at hcell hcl htk
   have HTK : Hid (bs.take (t + 1) = bs.take t ++ [c]) := htk
   clear hcd htk hcell0
   by_cases hc0 : c = 0
   ·subst hc0
    have HE : Hid (escL (bs.take (t + 1)) = (escL (bs.take t) ++ [0]) ++ [255]) := by
     unfold Hid; rw [HTK.out, escL_append]; simp [escL]
    go_wp2_with (first
     | (at_builtin; refine wpList_append_new rfl (.tmp 20) _ rfl w.heap.size a1 m1 c1 _ rfl own1 [_] 1 rfl [0] rfl rfl (by omega) hs1 ?_; intro a3 m3 c3 w3 own3 hb3)
     | (at_builtin; refine wpList_append_new rfl (.tmp 26) _ rfl w.heap.size a3 m3 c3 _ rfl own3 [_] 1 rfl [255] rfl rfl (own_room own3 hm1 hsum own1.1) (hb1.trans hb3).size ?_; intro a4 m4 c4 w4 own4 hb4))
    go_roundw
    case rel => exact ⟨t + 1, a4, m4, c4, by omega, by go_num, rfl, by rw [HE.out]; exact own4, (hb1.trans hb3).trans hb4⟩
    case measure => simp [intOf]; omega
   ·have HE : Hid (escL (bs.take (t + 1)) = escL (bs.take t) ++ [c]) := by
     unfold Hid; rw [HTK.out, escL_append]; simp [escL, hc0]
    have hcb : ((c : Int) == 0) = false := by simp; omega
    clear hc0
    go_wp2_with (at_builtin; refine wpList_append_new rfl (.tmp 20) _ rfl w.heap.size a1 m1 c1 _ rfl own1 [_] 1 rfl [c] rfl rfl (by omega) hs1 ?_; intro a3 m3 c3 w3 own3 hb3)
    go_roundw
    case rel => exact ⟨t + 1, a3, m3, c3, by omega, by go_num, rfl, by rw [HE.out]; exact own3, hb1.trans hb3⟩
    case measure => simp [intOf]; omega
  ·have hge : (n : Int) ≤ (t : Int) := by omega
   have HE : Hid (escL (bs.take t) = escL bs) := by unfold Hid; rw [List.take_of_length_le (by rw [← HN.out]; omega)]
   go_wp2_with (at_builtin; refine wpList_append_new rfl (.tmp 30) _ rfl w.heap.size a1 m1 c1 _ rfl own1 [_, _] 2 rfl [0, 1] rfl rfl (by omega) hs1 ?_; intro a3 m3 c3 w3 own3 hb3)
   go_ret
   refine ⟨a3, m3, c3, rfl, ?_, hb1.trans hb3⟩
   unfold ordL
   rw [← HE.out]
   exact own3

def zi : List Nat → Int
 | [] => -1
 | b :: l => if b = 0 then 0 else if zi l = -1 then -1 else zi l + 1
theorem zi_eq (bs : List Nat) (h : Bys bs) : Lib.indexByte (Lib.bytesOf (bs.map fun n : Nat => (n : Int))) (0 : Int).toNat.toUInt8 = zi bs := by
 induction bs with
 | nil => rfl
 | cons c r ih =>
  have hc := h c (by simp)
  have ih' := ih (fun x hx => h x (by simp [hx]))
  have hd : Lib.bytesOf ((c :: r).map fun n : Nat => (n : Int)) = UInt8.ofNat c :: Lib.bytesOf (r.map fun n : Nat => (n : Int)) := by simp [Lib.bytesOf]
  rw [hd]
  simp only [Lib.indexByte, zi]
  rw [ih']
  have e : (UInt8.ofNat c == (0 : Int).toNat.toUInt8) = (c == 0) := by
   by_cases h0 : c = 0
   ·subst h0; rfl
   ·have : UInt8.ofNat c ≠ (0 : Int).toNat.toUInt8 := by
     intro hh
     have h2 := congrArg UInt8.toNat hh
     simp at h2
     omega
    rw [beq_eq_false_iff_ne.2 this, beq_eq_false_iff_ne.2 h0]
  rw [e]
  by_cases h0 : c = 0
  ·simp [h0]
  ·simp [h0]
theorem run_index_any {P : Program} (w : World) (a : Addr) (n c : Nat) (xs : List Int) (hx : xs.length = n) (hc : ∀ i, i < n → w.cell? (a.add i) = some (.int .u8 (xs.getD i 0))) (cv : Int) :
  (Extern.BytealgIndexByte.indexByte #[.slice (some a) n c, .int .u8 cv]).run P w = .ok (.int .i64 (Lib.indexByte (Lib.bytesOf xs) cv.toNat.toUInt8)) w := by
 by_cases hn : n = 0
 ·subst hn
  have hx0 : xs = [] := List.eq_nil_of_length_eq_zero hx
  subst hx0
  have h1 := Lib.run_indexByteString (P := P) .empty cv w
  have hl := Lib.run_loadBytesX (P := P) w [] a .empty (fun j x hj => by simp at hj)
  change Sem.run P (do
   let b ← Extern.Bytes.bytesOf (.slice (some a) 0 c)
   let c ← Extern.Bytes.asByte (.int .u8 cv)
   match (List.range b.size).find? fun i => b[i]! == c with
   | some i => pure (goInt i)
   | none => pure (goInt (-1))) w = _
  rfl
 ·obtain ⟨b, off, spot⟩ := a
  have h0 := hc 0 (by omega)
  have hspot : spot = none := by simpa [Addr.add] using World.cell?_spot h0
  subst hspot
  refine Lib.run_indexByteSlice w b off n c xs hx (fun i hi => ?_) cv
  have e : (⟨b, off, none⟩ : Addr).add i = ⟨b, off + i, none⟩ := by unfold Addr.add; split <;> simp_all
  rw [← e]
  exact hc i hi

set_option maxRecDepth 100000 in
set_option maxHeartbeats 1000000 in
theorem indexByte_any {v : Value} {bs : List Nat} {w : World} (hr : Rd w v bs) :
  Calls Tryz.prog 98 #[v, .int .u8 0] w fun e w' => e = .returned (.int .i64 (zi bs)) ∧ w' = w := by
 obtain ⟨hby, a, cap, rfl, hle, hm, hl48, hnone, hat⟩ := hr
 cases a with
 | none =>
  have hb0 : bs = [] ∧ cap = 0 := by
   rcases hnone with h | ⟨b, off, h⟩
   ·exact ⟨List.eq_nil_of_length_eq_zero (by omega), h⟩
   ·cases h
  obtain ⟨rfl, rfl⟩ := hb0
  go_enter Tryz.func98, Tryz.ntmps98
  go_wp2
  rw [run_callFunc_extern Tryz.func103 (by kernel_rfl) (by kernel_rfl) (by kernel_rfl) (e := Extern.BytealgIndexByte.indexByte) (by kernel_rfl), Lib.run_indexByteNil w 0 0 0]
  simp only [Result.andThen]
  rw [Oper.upon_value]
  go_wp2
  go_ret
  exact ⟨rfl, rfl⟩
 | some x =>
  have hi := ints_at hat
  obtain ⟨n, hn⟩ : ∃ n, n = bs.length := ⟨_, rfl⟩
  have hc := run_index_any (P := Tryz.prog) w x n cap (bs.map fun n : Nat => (n : Int)) (by simp [hn]) (by rw [hn]; exact hi) 0
  rw [zi_eq bs hby] at hc
  rw [← hn]
  clear hn hi hat hnone hle hl48
  obtain ⟨Z, hZ⟩ : ∃ Z, Z = zi bs := ⟨_, rfl⟩
  rw [← hZ] at hc ⊢
  clear hZ
  go_enter Tryz.func98, Tryz.ntmps98
  go_wp2
  rw [run_callFunc_extern Tryz.func103 (by kernel_rfl) (by kernel_rfl) (by kernel_rfl) (e := Extern.BytealgIndexByte.indexByte) (by kernel_rfl), hc]
  simp only [Result.andThen]
  rw [Oper.upon_value]
  go_wp2
  go_ret
  exact ⟨rfl, rfl⟩

end Go.Proofs.YtpabbnddeklpdaaGreat

namespace Go.Proofs.YtpabbnddeklpdaaGreat
open Go.RowKit
set_option linter.unusedVariables false

def rord : List Nat → List Nat → Nat → List Nat × Nat × Nat
 | [], _, _ => ([], 0, 10)
 | [c], acc, i => ([], 0, 10)
 | c :: d :: r, acc, i => if c ≠ 0 then rord (d :: r) (acc ++ [c]) (i + 1) else if d = 1 then (acc, i + 2, 0) else if d = 255 then rord r (acc ++ [0]) (i + 2) else ([], 0, 11)
def ordR (bs : List Nat) (k : Nat) : List Nat × Nat × Nat :=
 ((rord (bs.drop k) [] 0).1, if (rord (bs.drop k) [] 0).2.2 = 0 then k + (rord (bs.drop k) [] 0).2.1 else 0, (rord (bs.drop k) [] 0).2.2)

theorem zi_neg (l : List Nat) : zi l < 0 → zi l = -1 ∧ ∀ acc i, rord l acc i = ([], 0, 10) := by
 induction l with
 | nil => intro _; exact ⟨rfl, fun _ _ => rfl⟩
 | cons c l ih =>
  intro h
  simp only [zi] at h ⊢
  by_cases hc : c = 0
  ·rw [if_pos hc] at h; omega
  ·rw [if_neg hc] at h ⊢
   by_cases hz : zi l = -1
   ·rw [if_pos hz] at h ⊢
    refine ⟨rfl, fun acc i => ?_⟩
    have := (ih (by omega)).2
    cases l with
    | nil => rfl
    | cons d r => unfold rord; rw [if_pos hc]; exact this _ _
   ·rw [if_neg hz] at h
    have : zi l = -1 := (ih (by omega)).1
    exact absurd this hz
theorem zi_pos (l : List Nat) (z : Nat) (h : zi l = (z : Int)) : z < l.length ∧ l.getD z 0 = 0 ∧ (∀ acc i, rord l acc i = rord (l.drop z) (acc ++ l.take z) (i + z)) := by
 induction l generalizing z with
 | nil => simp [zi] at h
 | cons c l ih =>
  simp only [zi] at h
  by_cases hc : c = 0
  ·rw [if_pos hc] at h
   have hz : z = 0 := by omega
   subst hz
   exact ⟨by simp, by simp [hc], fun acc i => by simp⟩
  ·rw [if_neg hc] at h
   by_cases hz : zi l = -1
   ·rw [if_pos hz] at h; omega
   ·rw [if_neg hz] at h
    have hz0 : ¬ zi l < 0 := fun hh => hz (zi_neg l hh).1
    obtain ⟨y, hy⟩ := Int.eq_ofNat_of_zero_le (show 0 ≤ zi l by omega)
    have hzy : z = y + 1 := by omega
    subst hzy
    obtain ⟨h1, h2, h3⟩ := ih y hy
    refine ⟨by simp; omega, by simpa using h2, fun acc i => ?_⟩
    cases l with
    | nil => simp at h1
    | cons d r =>
     have := h3 (acc ++ [c]) (i + 1)
     conv => lhs; unfold rord
     rw [if_pos hc, this]
     simp
     rw [show i + 1 + y = i + (y + 1) by omega]

theorem drop_cons' (l : List Nat) (t : Nat) (h : t < l.length) : l.drop t = l.getD t 0 :: l.drop (t + 1) := by
 rw [List.drop_eq_getElem_cons h]; simp [List.getD, List.getElem?_eq_getElem h]

theorem own_room2 {w : World} {B : Nat} {v : Value} {m m1 p z n : Nat} {xs ys : List Nat} (h : Own w B v m (xs ++ ys)) (hl : xs.length = m1 ∧ ys.length = z) (hmp : m1 ≤ p) (hp : (p : Int) + ((z : Int) + 2) ≤ (n : Int)) (hn : n ≤ 140737488355328) : m + 1 ≤ 140737488355328 := by
 have := h.1
 rw [List.length_append, hl.1, hl.2] at this
 omega

end Go.Proofs.YtpabbnddeklpdaaGreat

namespace Go.Proofs.YtpabbnddeklpdaaGreat
open Go.RowKit
set_option linter.unusedVariables false

structure EntD where
 vr : Value
 fam : Int
 vq : Value
 ts : Int
 seq : Int
 kind : Int
 vv : Value
 row : List Nat
 qual : List Nat
 val : List Nat
def EntD.cells (e : EntD) : Array Value := #[e.vr, .int .i64 e.fam, e.vq, .int .i64 e.ts, .int .i64 e.seq, .int .i64 e.kind, e.vv]
def EntD.Ok (w : World) (e : EntD) : Prop := Rd w e.vr e.row ∧ Rd w e.vq e.qual ∧ Rd w e.vv e.val
theorem EntD.Ok.later {w w' : World} {e : EntD} (h : EntD.Ok w e) (hb : Below w.heap.size w w') : EntD.Ok w' e := ⟨h.1.later hb, h.2.1.later hb, h.2.2.later hb⟩

def checkS (e : EntD) : Nat :=
 if e.row.length = 0 ∨ 256 < e.row.length then 20
 else if e.fam < 0 ∨ 8 ≤ e.fam then 21
 else if 256 < e.qual.length ∨ (0 < e.qual.length ∧ e.kind = 5) then 22
 else if e.ts < 1 ∨ 1099511627776 < e.ts then 23
 else if e.seq < 0 ∨ 17592186044431 < e.seq then 24
 else if e.kind < 1 ∨ 5 < e.kind then 25
 else if 4096 < e.val.length ∨ (0 < e.val.length ∧ e.kind ≠ 1) then 26
 else 0

set_option maxRecDepth 100000 in
theorem isRow_any {a : Option Addr} {n cap : Nat} {w : World} (hn : n ≤ 281474976710656) :
  Calls Tryz.prog 87 #[.slice a n cap] w fun e w' => e = .returned (.bool (decide (0 < n ∧ n ≤ 256))) ∧ w' = w := by
 by_cases h : 0 < n
 ·have h1 : (0 : Int) < (n : Int) := by omega
  go_enter Tryz.func87, Tryz.ntmps87
  go_wp2
  go_ret
  refine ⟨?_, rfl⟩
  by_cases h2 : n ≤ 256
  ·rw [decide_eq_true (show 0 < n ∧ n ≤ 256 from ⟨h, h2⟩)]; simp; omega
  ·rw [decide_eq_false (show ¬ (0 < n ∧ n ≤ 256) from fun h3 => h2 h3.2)]; simp; omega
 ·have h1 : (n : Int) ≤ 0 := by omega
  have h0 : n = 0 := by omega
  subst h0
  go_enter Tryz.func87, Tryz.ntmps87
  go_wp2
  go_ret
  exact ⟨by first | rfl | simp, rfl⟩
set_option maxRecDepth 100000 in
theorem markOf_any (k a : Int) (w : World) : Calls Tryz.prog 78 #[.int .i64 k, .int .i64 a] w fun e w' => e = .returned (.int .u8 (((if k = a then 0 else 1 : Nat) : Nat) : Int)) ∧ w' = w := by
 by_cases h : k = a
 ·subst h
  go_enter Tryz.func78, Tryz.ntmps78
  go_wp2
  go_ret
  exact ⟨by simp, rfl⟩
 ·have h1 : (k == a) = false := by simp; exact h
  go_enter Tryz.func78, Tryz.ntmps78
  go_wp2
  go_ret
  exact ⟨by first | (rw [if_neg h]; rfl) | (simp; done) | simp [h], rfl⟩

set_option maxRecDepth 100000 in
set_option maxHeartbeats 4000000 in
theorem check_any {e : EntD} {w : World} (hok : EntD.Ok w e) :
  Calls Tryz.prog 76 #[.agg e.cells] w fun r w' => r = .returned (.int .i64 ((checkS e : Nat) : Int)) ∧ Below w.heap.size w w' := by
 obtain ⟨vr, fam, vq, ts, seq, kind, vv, row, qual, val⟩ := e
 obtain ⟨h1, h2, h3⟩ := hok
 simp only [EntD.cells] at *
 obtain ⟨ar, nr, cr, rfl⟩ := rd_slice h1
 obtain ⟨aq, nq, cq, rfl⟩ := rd_slice h2
 obtain ⟨av, nv, cv, rfl⟩ := rd_slice h3
 obtain ⟨er, _, _, lr⟩ := rd_lens h1
 obtain ⟨eq, _, _, lq⟩ := rd_lens h2
 obtain ⟨ev, _, _, lv⟩ := rd_lens h3
 have A1 := (Below.refl w.heap.size w).alloc (Nat.le_refl _) (.cells #[.slice ar nr cr, .int .i64 fam, .slice aq nq cq, .int .i64 ts, .int .i64 seq, .int .i64 kind, .slice av nv cv] 38)
 obtain ⟨S, hS⟩ : ∃ S, S = checkS ⟨.slice ar nr cr, fam, .slice aq nq cq, ts, seq, kind, .slice av nv cv, row, qual, val⟩ := ⟨_, rfl⟩
 rw [← hS]
 unfold checkS at hS
 simp only at hS
 rw [← er, ← eq, ← ev] at hS
 have HS : Hid (S = _) := hS
 clear hS er eq ev h1 h2 h3
 by_cases c1 : 0 < nr ∧ nr ≤ 256
 ·have d1 : decide (0 < nr ∧ nr ≤ 256) = true := by simp; omega
  by_cases c2a : fam < 0
  ·have HE : Hid (S = 21) := by unfold Hid; rw [HS.out]; repeat (first | rw [if_pos (by omega)] | rw [if_neg (by omega)])
   clear HS
   go_enter Tryz.func76, Tryz.ntmps76
   go_wp2_with fail
   refine (isRow_any lr).mono ?_
   rintro e1 w1 ⟨rfl, rfl⟩
   rw [d1]
   go_wp2
   go_ret
   exact ⟨by rw [HE.out]; rfl, A1⟩
  ·have c2q : 0 ≤ fam := by omega
   by_cases c2b : 8 ≤ fam
   ·have HE : Hid (S = 21) := by unfold Hid; rw [HS.out]; repeat (first | rw [if_pos (by omega)] | rw [if_neg (by omega)])
    clear HS
    go_enter Tryz.func76, Tryz.ntmps76
    go_wp2_with fail
    refine (isRow_any lr).mono ?_
    rintro e1 w1 ⟨rfl, rfl⟩
    rw [d1]
    go_wp2
    go_ret
    exact ⟨by rw [HE.out]; rfl, A1⟩
   ·have c2p : fam < 8 := by omega
    by_cases c3a : 256 < nq
    ·have q1 : (256 : Int) < (nq : Int) := by omega
     have HE : Hid (S = 22) := by unfold Hid; rw [HS.out]; repeat (first | rw [if_pos (by omega)] | rw [if_neg (by omega)])
     clear HS
     go_enter Tryz.func76, Tryz.ntmps76
     go_wp2_with fail
     refine (isRow_any lr).mono ?_
     rintro e1 w1 ⟨rfl, rfl⟩
     rw [d1]
     go_wp2
     go_ret
     exact ⟨by rw [HE.out]; rfl, A1⟩
    ·have q1 : (nq : Int) ≤ 256 := by omega
     by_cases c3b : 0 < nq
     ·have q0 : (0 : Int) < (nq : Int) := by omega
      by_cases c3c : kind = 5
      ·subst c3c
       have HE : Hid (S = 22) := by unfold Hid; rw [HS.out]; repeat (first | rw [if_pos (by omega)] | rw [if_neg (by omega)])
       clear HS
       go_enter Tryz.func76, Tryz.ntmps76
       go_wp2_with fail
       refine (isRow_any lr).mono ?_
       rintro e1 w1 ⟨rfl, rfl⟩
       rw [d1]
       go_wp2
       go_ret
       exact ⟨by rw [HE.out]; rfl, A1⟩
      ·have k5 : (kind == 5) = false := by simp; omega
       by_cases c4a : ts < 1
       ·have HE : Hid (S = 23) := by unfold Hid; rw [HS.out]; repeat (first | rw [if_pos (by omega)] | rw [if_neg (by omega)])
        clear HS
        go_enter Tryz.func76, Tryz.ntmps76
        go_wp2_with fail
        refine (isRow_any lr).mono ?_
        rintro e1 w1 ⟨rfl, rfl⟩
        rw [d1]
        go_wp2
        go_ret
        exact ⟨by rw [HE.out]; rfl, A1⟩
       ·have c4q : 1 ≤ ts := by omega
        by_cases c4b : 1099511627776 < ts
        ·have HE : Hid (S = 23) := by unfold Hid; rw [HS.out]; repeat (first | rw [if_pos (by omega)] | rw [if_neg (by omega)])
         clear HS
         go_enter Tryz.func76, Tryz.ntmps76
         go_wp2_with fail
         refine (isRow_any lr).mono ?_
         rintro e1 w1 ⟨rfl, rfl⟩
         rw [d1]
         go_wp2
         go_ret
         exact ⟨by rw [HE.out]; rfl, A1⟩
        ·have c4p : ts ≤ 1099511627776 := by omega
         by_cases c5a : seq < 0
         ·have HE : Hid (S = 24) := by unfold Hid; rw [HS.out]; repeat (first | rw [if_pos (by omega)] | rw [if_neg (by omega)])
          clear HS
          go_enter Tryz.func76, Tryz.ntmps76
          go_wp2_with fail
          refine (isRow_any lr).mono ?_
          rintro e1 w1 ⟨rfl, rfl⟩
          rw [d1]
          go_wp2
          go_ret
          exact ⟨by rw [HE.out]; rfl, A1⟩
         ·have c5q : 0 ≤ seq := by omega
          by_cases c5b : 17592186044431 < seq
          ·have HE : Hid (S = 24) := by unfold Hid; rw [HS.out]; repeat (first | rw [if_pos (by omega)] | rw [if_neg (by omega)])
           clear HS
           go_enter Tryz.func76, Tryz.ntmps76
           go_wp2_with fail
           refine (isRow_any lr).mono ?_
           rintro e1 w1 ⟨rfl, rfl⟩
           rw [d1]
           go_wp2
           go_ret
           exact ⟨by rw [HE.out]; rfl, A1⟩
          ·have c5p : seq ≤ 17592186044431 := by omega
           by_cases c6a : kind < 1
           ·have HE : Hid (S = 25) := by unfold Hid; rw [HS.out]; repeat (first | rw [if_pos (by omega)] | rw [if_neg (by omega)])
            clear HS
            go_enter Tryz.func76, Tryz.ntmps76
            go_wp2_with fail
            refine (isRow_any lr).mono ?_
            rintro e1 w1 ⟨rfl, rfl⟩
            rw [d1]
            go_wp2
            go_ret
            exact ⟨by rw [HE.out]; rfl, A1⟩
           ·have c6q : 1 ≤ kind := by omega
            by_cases c6b : 5 < kind
            ·have HE : Hid (S = 25) := by unfold Hid; rw [HS.out]; repeat (first | rw [if_pos (by omega)] | rw [if_neg (by omega)])
             clear HS
             go_enter Tryz.func76, Tryz.ntmps76
             go_wp2_with fail
             refine (isRow_any lr).mono ?_
             rintro e1 w1 ⟨rfl, rfl⟩
             rw [d1]
             go_wp2
             go_ret
             exact ⟨by rw [HE.out]; rfl, A1⟩
            ·have c6p : kind ≤ 5 := by omega
             by_cases c7a : 4096 < nv
             ·have v1 : (4096 : Int) < (nv : Int) := by omega
              have HE : Hid (S = 26) := by unfold Hid; rw [HS.out]; repeat (first | rw [if_pos (by omega)] | rw [if_neg (by omega)])
              clear HS
              go_enter Tryz.func76, Tryz.ntmps76
              go_wp2_with fail
              refine (isRow_any lr).mono ?_
              rintro e1 w1 ⟨rfl, rfl⟩
              rw [d1]
              go_wp2
              go_ret
              exact ⟨by rw [HE.out]; rfl, A1⟩
             ·have v1 : (nv : Int) ≤ 4096 := by omega
              by_cases c7b : 0 < nv
              ·have v0 : (0 : Int) < (nv : Int) := by omega
               by_cases c7c : kind = 1
               ·subst c7c
                have HE : Hid (S = 0) := by unfold Hid; rw [HS.out]; repeat (first | rw [if_pos (by omega)] | rw [if_neg (by omega)])
                clear HS
                go_enter Tryz.func76, Tryz.ntmps76
                go_wp2_with fail
                refine (isRow_any lr).mono ?_
                rintro e1 w1 ⟨rfl, rfl⟩
                rw [d1]
                go_wp2
                go_ret
                exact ⟨by rw [HE.out]; rfl, A1⟩
               ·have k1 : (kind == 1) = false := by simp; omega
                have k1n : (kind != 1) = true := by simp; omega
                have HE : Hid (S = 26) := by unfold Hid; rw [HS.out]; repeat (first | rw [if_pos (by omega)] | rw [if_neg (by omega)])
                clear HS
                go_enter Tryz.func76, Tryz.ntmps76
                go_wp2_with fail
                refine (isRow_any lr).mono ?_
                rintro e1 w1 ⟨rfl, rfl⟩
                rw [d1]
                go_wp2
                go_ret
                exact ⟨by rw [HE.out]; rfl, A1⟩
              ·have v0 : (nv : Int) ≤ 0 := by omega
               have HE : Hid (S = 0) := by unfold Hid; rw [HS.out]; repeat (first | rw [if_pos (by omega)] | rw [if_neg (by omega)])
               clear HS
               go_enter Tryz.func76, Tryz.ntmps76
               go_wp2_with fail
               refine (isRow_any lr).mono ?_
               rintro e1 w1 ⟨rfl, rfl⟩
               rw [d1]
               go_wp2
               go_ret
               exact ⟨by rw [HE.out]; rfl, A1⟩
     ·have q0 : (nq : Int) ≤ 0 := by omega
      by_cases c4a : ts < 1
      ·have HE : Hid (S = 23) := by unfold Hid; rw [HS.out]; repeat (first | rw [if_pos (by omega)] | rw [if_neg (by omega)])
       clear HS
       go_enter Tryz.func76, Tryz.ntmps76
       go_wp2_with fail
       refine (isRow_any lr).mono ?_
       rintro e1 w1 ⟨rfl, rfl⟩
       rw [d1]
       go_wp2
       go_ret
       exact ⟨by rw [HE.out]; rfl, A1⟩
      ·have c4q : 1 ≤ ts := by omega
       by_cases c4b : 1099511627776 < ts
       ·have HE : Hid (S = 23) := by unfold Hid; rw [HS.out]; repeat (first | rw [if_pos (by omega)] | rw [if_neg (by omega)])
        clear HS
        go_enter Tryz.func76, Tryz.ntmps76
        go_wp2_with fail
        refine (isRow_any lr).mono ?_
        rintro e1 w1 ⟨rfl, rfl⟩
        rw [d1]
        go_wp2
        go_ret
        exact ⟨by rw [HE.out]; rfl, A1⟩
       ·have c4p : ts ≤ 1099511627776 := by omega
        by_cases c5a : seq < 0
        ·have HE : Hid (S = 24) := by unfold Hid; rw [HS.out]; repeat (first | rw [if_pos (by omega)] | rw [if_neg (by omega)])
         clear HS
         go_enter Tryz.func76, Tryz.ntmps76
         go_wp2_with fail
         refine (isRow_any lr).mono ?_
         rintro e1 w1 ⟨rfl, rfl⟩
         rw [d1]
         go_wp2
         go_ret
         exact ⟨by rw [HE.out]; rfl, A1⟩
        ·have c5q : 0 ≤ seq := by omega
         by_cases c5b : 17592186044431 < seq
         ·have HE : Hid (S = 24) := by unfold Hid; rw [HS.out]; repeat (first | rw [if_pos (by omega)] | rw [if_neg (by omega)])
          clear HS
          go_enter Tryz.func76, Tryz.ntmps76
          go_wp2_with fail
          refine (isRow_any lr).mono ?_
          rintro e1 w1 ⟨rfl, rfl⟩
          rw [d1]
          go_wp2
          go_ret
          exact ⟨by rw [HE.out]; rfl, A1⟩
         ·have c5p : seq ≤ 17592186044431 := by omega
          by_cases c6a : kind < 1
          ·have HE : Hid (S = 25) := by unfold Hid; rw [HS.out]; repeat (first | rw [if_pos (by omega)] | rw [if_neg (by omega)])
           clear HS
           go_enter Tryz.func76, Tryz.ntmps76
           go_wp2_with fail
           refine (isRow_any lr).mono ?_
           rintro e1 w1 ⟨rfl, rfl⟩
           rw [d1]
           go_wp2
           go_ret
           exact ⟨by rw [HE.out]; rfl, A1⟩
          ·have c6q : 1 ≤ kind := by omega
           by_cases c6b : 5 < kind
           ·have HE : Hid (S = 25) := by unfold Hid; rw [HS.out]; repeat (first | rw [if_pos (by omega)] | rw [if_neg (by omega)])
            clear HS
            go_enter Tryz.func76, Tryz.ntmps76
            go_wp2_with fail
            refine (isRow_any lr).mono ?_
            rintro e1 w1 ⟨rfl, rfl⟩
            rw [d1]
            go_wp2
            go_ret
            exact ⟨by rw [HE.out]; rfl, A1⟩
           ·have c6p : kind ≤ 5 := by omega
            by_cases c7a : 4096 < nv
            ·have v1 : (4096 : Int) < (nv : Int) := by omega
             have HE : Hid (S = 26) := by unfold Hid; rw [HS.out]; repeat (first | rw [if_pos (by omega)] | rw [if_neg (by omega)])
             clear HS
             go_enter Tryz.func76, Tryz.ntmps76
             go_wp2_with fail
             refine (isRow_any lr).mono ?_
             rintro e1 w1 ⟨rfl, rfl⟩
             rw [d1]
             go_wp2
             go_ret
             exact ⟨by rw [HE.out]; rfl, A1⟩
            ·have v1 : (nv : Int) ≤ 4096 := by omega
             by_cases c7b : 0 < nv
             ·have v0 : (0 : Int) < (nv : Int) := by omega
              by_cases c7c : kind = 1
              ·subst c7c
               have HE : Hid (S = 0) := by unfold Hid; rw [HS.out]; repeat (first | rw [if_pos (by omega)] | rw [if_neg (by omega)])
               clear HS
               go_enter Tryz.func76, Tryz.ntmps76
               go_wp2_with fail
               refine (isRow_any lr).mono ?_
               rintro e1 w1 ⟨rfl, rfl⟩
               rw [d1]
               go_wp2
               go_ret
               exact ⟨by rw [HE.out]; rfl, A1⟩
              ·have k1 : (kind == 1) = false := by simp; omega
               have k1n : (kind != 1) = true := by simp; omega
               have HE : Hid (S = 26) := by unfold Hid; rw [HS.out]; repeat (first | rw [if_pos (by omega)] | rw [if_neg (by omega)])
               clear HS
               go_enter Tryz.func76, Tryz.ntmps76
               go_wp2_with fail
               refine (isRow_any lr).mono ?_
               rintro e1 w1 ⟨rfl, rfl⟩
               rw [d1]
               go_wp2
               go_ret
               exact ⟨by rw [HE.out]; rfl, A1⟩
             ·have v0 : (nv : Int) ≤ 0 := by omega
              have HE : Hid (S = 0) := by unfold Hid; rw [HS.out]; repeat (first | rw [if_pos (by omega)] | rw [if_neg (by omega)])
              clear HS
              go_enter Tryz.func76, Tryz.ntmps76
              go_wp2_with fail
              refine (isRow_any lr).mono ?_
              rintro e1 w1 ⟨rfl, rfl⟩
              rw [d1]
              go_wp2
              go_ret
              exact ⟨by rw [HE.out]; rfl, A1⟩
 ·have d1 : decide (0 < nr ∧ nr ≤ 256) = false := by simp; omega
  have HE : Hid (S = 20) := by unfold Hid; rw [HS.out]; repeat (first | rw [if_pos (by omega)] | rw [if_neg (by omega)])
  clear HS
  go_enter Tryz.func76, Tryz.ntmps76
  go_wp2_with fail
  refine (isRow_any lr).mono ?_
  rintro e1 w1 ⟨rfl, rfl⟩
  rw [d1]
  go_wp2
  go_ret
  exact ⟨by rw [HE.out]; rfl, A1⟩

end Go.Proofs.YtpabbnddeklpdaaGreat

namespace Go.Proofs.YtpabbnddeklpdaaGreat
open Go.RowKit
set_option linter.unusedVariables false

def EBox (w : World) (g : Nat) (e : EntD) : Prop := w.heap[g]? = some (.cells e.cells 38 (0, 0))
theorem EBox.later {w w' : World} {g : Nat} {e : EntD} (h : EBox w g e) (hb : Below w.heap.size w w') : EBox w' g e := by
 unfold EBox at *
 rw [hb.block g (Array.getElem?_eq_some_iff.1 h).1]; exact h
theorem EBox.keep {w w' : World} {B g : Nat} {e : EntD} (h : EBox w g e) (hb : Below B w w') (hg : g < B) : EBox w' g e := by
 unfold EBox at *
 rw [hb.block g hg]; exact h
theorem EBox.new (w : World) (e : EntD) : EBox (w.alloc (.cells e.cells 38)) w.heap.size e := by
 show (w.heap.push _)[w.heap.size]? = some _
 simp
theorem EBox.vr {w : World} {g : Nat} {e : EntD} (h : EBox w g e) : w.cell? ⟨g, 0, none⟩ = some e.vr := by unfold EBox EntD.cells at h; simp [World.cell?, h]
theorem EBox.fam {w : World} {g : Nat} {e : EntD} (h : EBox w g e) : w.cell? ⟨g, 1, none⟩ = some (.int .i64 e.fam) := by unfold EBox EntD.cells at h; simp [World.cell?, h]
theorem EBox.vq {w : World} {g : Nat} {e : EntD} (h : EBox w g e) : w.cell? ⟨g, 2, none⟩ = some e.vq := by unfold EBox EntD.cells at h; simp [World.cell?, h]
theorem EBox.ts {w : World} {g : Nat} {e : EntD} (h : EBox w g e) : w.cell? ⟨g, 3, none⟩ = some (.int .i64 e.ts) := by unfold EBox EntD.cells at h; simp [World.cell?, h]
theorem EBox.seq {w : World} {g : Nat} {e : EntD} (h : EBox w g e) : w.cell? ⟨g, 4, none⟩ = some (.int .i64 e.seq) := by unfold EBox EntD.cells at h; simp [World.cell?, h]
theorem EBox.kind {w : World} {g : Nat} {e : EntD} (h : EBox w g e) : w.cell? ⟨g, 5, none⟩ = some (.int .i64 e.kind) := by unfold EBox EntD.cells at h; simp [World.cell?, h]
theorem EBox.vv {w : World} {g : Nat} {e : EntD} (h : EBox w g e) : w.cell? ⟨g, 6, none⟩ = some e.vv := by unfold EBox EntD.cells at h; simp [World.cell?, h]

set_option maxRecDepth 100000 in
set_option maxHeartbeats 1000000 in
theorem appendFalling_any {B : Nat} {a0 : Option Addr} {m0 c0 : Nat} {acc : List Nat} {w : World} (n : Nat) (hn : n < 9223372036854775808) (hown : Own w B (.slice a0 m0 c0) m0 acc) (hB : B ≤ w.heap.size) (hl : m0 ≤ 1000000) :
  Calls Tryz.prog 79 #[.slice a0 m0 c0, .int .i64 (n : Int)] w fun e w' => ∃ a m c, e = .returned (.slice a m c) ∧ Own w' B (.slice a m c) m (acc ++ be8 (9223372036854775807 - n)) ∧ Below B w w' := by
 have HB : Hid (Bys (be8 (9223372036854775807 - n))) := be8_bys _
 go_enter Tryz.func79, Tryz.ntmps79
 go_wp2_with fail
 refine (falling_any n hn _).mono ?_
 rintro e w1 ⟨a1, m1, c1, rfl, own1, hb1⟩
 obtain rfl : m1 = 8 := own1.1
 have r1 := own1.rd HB.out (by omega)
 have own0 := hown.later hb1
 have B1 : Below B w w1 := hb1.mono hB
 clear own1 hb1
 go_wp2_with (at_builtin; refine wpList_append_at rfl _ _ rfl B a0 m0 c0 _ rfl own0 a1 8 c1 _ rfl r1 (by omega) (Nat.le_trans hB B1.size) ?_; intro a5 m5 c5 w5 own5 hb5)
 go_ret
 exact ⟨a5, m5, c5, rfl, own5, B1.trans hb5⟩

def mark (k a : Int) : Nat := if k = a then 0 else 1
def keyL (e : EntD) : List Nat :=
 ((((ordL e.row ++ [e.fam.toNat, mark e.kind 5]) ++ (if e.kind = 5 then [] else ordL e.qual ++ [mark e.kind 4])) ++ be8 (9223372036854775807 - e.ts.toNat)) ++ be8 (9223372036854775807 - e.seq.toNat)) ++ [e.kind.toNat]

set_option maxRecDepth 100000 in
set_option maxHeartbeats 4000000 in
theorem key_bad {e : EntD} {w : World} (hok : EntD.Ok w e) (hc : checkS e ≠ 0) :
  Calls Tryz.prog 54 #[.agg e.cells] w fun r w' => r = .returned (.tuple #[.slice none 0 0, .int .i64 ((checkS e : Nat) : Int)]) ∧ Below w.heap.size w w' := by
 obtain ⟨C, hC⟩ : ∃ C, C = checkS e := ⟨_, rfl⟩
 have A1 := (Below.refl w.heap.size w).alloc (Nat.le_refl _) (.cells e.cells 38)
 have c1 := check_any (hok.later A1)
 rw [← hC] at c1 hc ⊢
 have HC1 : Hid (Calls Tryz.prog 76 #[.agg e.cells] (w.alloc (.cells e.cells 38)) fun r w' => r = .returned (.int .i64 ((C : Nat) : Int)) ∧ Below (w.alloc (.cells e.cells 38)).heap.size (w.alloc (.cells e.cells 38)) w') := c1
 have h0 : ((C : Int) != 0) = true := by simp; omega
 have h1 : ¬ ((C : Int) = 0) := by omega
 clear c1 hC hok
 obtain ⟨vr, fam, vq, ts, seq, kind, vv, row, qual, val⟩ := e
 simp only [EntD.cells] at *
 go_enter Tryz.func54, Tryz.ntmps54
 go_wp2_with fail
 refine HC1.out.mono ?_
 rintro e1 w1 ⟨rfl, hb1⟩
 have B1 := A1.trans (hb1.mono A1.size)
 go_wp2
 go_ret2
 exact ⟨rfl, B1⟩

theorem check_facts {e : EntD} (h : checkS e = 0) : (1 ≤ e.row.length ∧ e.row.length ≤ 256) ∧ (0 ≤ e.fam ∧ e.fam < 8) ∧ e.qual.length ≤ 256 ∧ (e.kind = 5 → e.qual = []) ∧ (1 ≤ e.ts ∧ e.ts ≤ 1099511627776) ∧ (0 ≤ e.seq ∧ e.seq ≤ 17592186044431) ∧ (1 ≤ e.kind ∧ e.kind ≤ 5) ∧ e.val.length ≤ 4096 ∧ (e.kind ≠ 1 → e.val = []) := by
 unfold checkS at h
 split at h
 ·cases h
 split at h
 ·cases h
 split at h
 ·cases h
 split at h
 ·cases h
 split at h
 ·cases h
 split at h
 ·cases h
 split at h
 ·cases h
 refine ⟨by omega, by omega, by omega, fun hk => List.eq_nil_of_length_eq_zero (by omega), by omega, by omega, by omega, by omega, fun hk => List.eq_nil_of_length_eq_zero (by omega)⟩

theorem append2 {w W : World} {o : Oper} {a : Act} {K : Act → World → Prop} {Q : Exit → Act → World → Prop} (s x : Operand)
  (ho : o.op = .call { callee := .builtin .append, args := #[s, x], argTypes := #[34, 34] })
  (B : Nat) (a0 : Option Addr) (m0 c0 : Nat) (acc : List Nat) (hs : a.eval s = .slice a0 m0 c0) (hown : Own w B (.slice a0 m0 c0) m0 acc)
  (vs : List Value) (m g : Nat) (hg : g = w.heap.size) (hx : a.eval x = .slice (some ⟨g, 0, none⟩) m m) (bs : List Nat) (hvs : vs = bv bs) (hm : m = bs.length)
  (hbytes : m0 + m ≤ 140737488355328) (hB : B ≤ w.heap.size) (hW : W = w.alloc (.cells vs.toArray 5))
  (h : ∀ a' m' c' w', Own w' B (.slice a' m' c') m' (acc ++ bs) → Below B w w' → K (a.put o.dst (.slice a' m' c')) w') : o.wp Tryz.prog a W K Q := by
 obtain ⟨i0, hi, hz0, hz1, hz2⟩ := info_parts info_byte
 subst hW hvs hg
 refine wp_append_own _ s x 34 ho B 5 i0 (.int .u8 0) 1 1 und_bytes hi hz0 hz1 hz2 rfl (by decide) _ m0 (bv acc) hs (hown.2.alloc _) ⟨w.heap.size, 0, none⟩ m m (bv bs) hx (by simp [bv, hm]) (news_new _ _ _) (bv_oneCell bs) (by unfold maxLen; omega) (by omega) (by simp; omega) ?_
 intro v' w' h1 h2 _
 obtain ⟨a', c', rfl⟩ := own_form h1
 refine h a' _ c' w' ⟨by rw [hown.1, hm]; simp, by simpa [bv] using h1⟩ (((Below.refl B w).alloc hB _).grown h2 (by simp; omega) (fun k hk => (hown.2.lt k hk).1))

set_option maxRecDepth 100000 in
set_option maxHeartbeats 4000000 in
theorem key_ok {e : EntD} {w : World} (hok : EntD.Ok w e) (hc : checkS e = 0) :
  Calls Tryz.prog 54 #[.agg e.cells] w fun r w' => ∃ a m c, r = .returned (.tuple #[.slice a m c, .int .i64 0]) ∧ Own w' w.heap.size (.slice a m c) m (keyL e) ∧ Below w.heap.size w w' := by
 obtain ⟨f1, f2, f3, f4, f5, f6, f7, _, _⟩ := check_facts hc
 have A1 := (Below.refl w.heap.size w).alloc (Nat.le_refl _) (.cells e.cells 38)
 have bx1 : Hid (EBox (w.alloc (.cells e.cells 38)) w.heap.size e) := EBox.new w e
 have c1 := check_any (hok.later A1)
 rw [hc] at c1
 have HC1 : Hid (Calls Tryz.prog 76 #[.agg e.cells] (w.alloc (.cells e.cells 38)) fun r w' => r = .returned (.int .i64 ((0 : Nat) : Int)) ∧ Below (w.alloc (.cells e.cells 38)).heap.size (w.alloc (.cells e.cells 38)) w') := c1
 clear c1 hc
 obtain ⟨vr, fam, vq, ts, seq, kind, vv, row, qual, val⟩ := e
 obtain ⟨h1, h2, h3⟩ := hok
 simp only [EntD.cells] at *
 obtain ⟨fm, rfl⟩ := Int.eq_ofNat_of_zero_le f2.1
 obtain ⟨t, rfl⟩ := Int.eq_ofNat_of_zero_le (show 0 ≤ ts by omega)
 obtain ⟨sq, rfl⟩ := Int.eq_ofNat_of_zero_le f6.1
 obtain ⟨kd, rfl⟩ := Int.eq_ofNat_of_zero_le (show 0 ≤ kind by omega)
 have HOR : Hid ((ordL row).length ≤ 514 ∧ Bys (ordL row)) := ⟨by have := ordL_len row; have : row.count 0 ≤ row.length := List.count_le_length; omega, ordL_bys row h1.1⟩
 have HOQ : Hid ((ordL qual).length ≤ 514 ∧ Bys (ordL qual)) := ⟨by have := ordL_len qual; have : qual.count 0 ≤ qual.length := List.count_le_length; omega, ordL_bys qual h2.1⟩
 have hfm : fm < 8 := by omega
 have hkd : kd ≤ 5 := by omega
 have hts : t < 9223372036854775808 := by omega
 have hsq : sq < 9223372036854775808 := by omega
 have em1 : (fm : Int) % 256 = (fm : Int) := by omega
 have em2 : (kd : Int) % 256 = (kd : Int) := by omega
 have HRR : Hid (Rd w vr row) := h1
 have HRQ : Hid (Rd w vq qual) := h2
 obtain ⟨M5, hM5⟩ : ∃ M, M = (if (kd : Int) = 5 then 0 else 1 : Nat) := ⟨_, rfl⟩
 have HM5 : Hid (M5 = mark (kd : Int) 5) := hM5
 have cM5 := fun w => markOf_any (kd : Int) 5 w
 rw [← hM5] at cM5
 have HCM : Hid (∀ w, Calls Tryz.prog 78 #[.int .i64 (kd : Int), .int .i64 5] w fun e w' => e = .returned (.int .u8 ((M5 : Nat) : Int)) ∧ w' = w) := cM5
 clear h1 h2 h3 f1 f2 f3 f5 f6 f7 hM5 cM5
 go_enter Tryz.func54, Tryz.ntmps54
 go_wp2_with fail
 refine HC1.out.mono ?_
 rintro e1 w1 ⟨rfl, hb1⟩
 have B1 := A1.trans (hb1.mono A1.size)
 have bx2 : Hid (EBox w1 w.heap.size _) := bx1.out.later hb1
 have x0 := bx2.out.vr
 simp only at x0
 clear hb1 bx1
 go_wp2_with fail
 refine (ordered_any (HRR.out.later B1) (by have := HOR.out.1; omega)).mono ?_
 rintro e2 w2 ⟨a2, m2, c2, rfl, own2, hb2⟩
 have B2 := B1.trans (hb2.mono B1.size)
 have bx3 : Hid (EBox w2 w.heap.size _) := bx2.out.later hb2
 have hm2 : m2 ≤ 514 := by rw [own2.1]; exact HOR.out.1
 have hG : w.heap.size < w1.heap.size := World.block_lt_of_cell? w1 _ x0
 have hG2 : w1.heap.size ≤ w2.heap.size := hb2.size
 clear hb2 bx2 x0
 have DD : Below w2.heap.size w2 w2.drew := (Below.refl _ _).drew
 have B2D : Below w.heap.size w w2.drew := B2.trans (DD.mono B2.size)
 have y1 := (bx3.out.later DD).fam
 have y5 := (bx3.out.later DD).kind
 have DA : Below w2.heap.size w2 (w2.alloc (.cells #[.int .u8 (fm : Int), .int .u8 (M5 : Int)] 5)).drew := ((Below.refl _ _).alloc (Nat.le_refl _) _).drew
 have BA : Below w.heap.size w (w2.alloc (.cells #[.int .u8 (fm : Int), .int .u8 (M5 : Int)] 5)).drew := B2.trans (DA.mono B2.size)
 have wfm : IntKind.u8.wrap (fm : Int) = (fm : Int) := by simp only [IntKind.wrap, IntKind.bits, IntKind.signed]; simp; omega
 have yA1 := (bx3.out.later DA).fam
 have yA5 := (bx3.out.later DA).kind
 simp only at y1 y5 yA1 yA5
 go_wp2_with fail
 go_region_held3 (fun wx => wx.cell? ⟨w.heap.size, 1, none⟩ = some (.int .i64 (fm : Int)) ∧ wx.cell? ⟨w.heap.size, 5, none⟩ = some (.int .i64 (kd : Int)) ∧ Below w.heap.size w wx) (first | exact ⟨y1, y5, B2D⟩ | exact ⟨yA1, yA5, BA⟩ | exact ⟨yB1, yB5, BB⟩) (first | (go_at_call 78; refine (HCM.out _).mono ?_; rintro e1 wm ⟨rfl, rfl⟩) | (rw [if_pos (by rfl)]; refine append2 (w := w2.drew) (.tmp 14) (.tmp 21) rfl w1.heap.size a2 m2 c2 _ rfl (own2.later DD) (bv [fm, M5]) 2 w2.heap.size rfl rfl [fm, M5] rfl rfl (by omega) hG2 rfl ?_; intro a4 m4 c4 w4 own4 hb4; have BB : Below w.heap.size w w4 := B2D.trans (hb4.mono (Nat.le_of_lt hG)); have bx4 : Hid (EBox w4 w.heap.size _) := (bx3.out.later DD).keep hb4 hG; have yB1 := bx4.out.fam; have yB5 := bx4.out.kind))
 have hm4 : m4 = m2 + 2 := by rw [own4.1, List.length_append, ← own2.1]; rfl
 have HM4 : Hid (m4 = m2 + 2) := hm4
 have hm4b : m4 ≤ 516 := by omega
 have hSw4 : w1.heap.size ≤ w4.heap.size := Nat.le_trans hG2 hb4.size
 clear hm4 y1 y5 yA1 yA5 yB1 yB5 DA BA DD B2D wfm own2
 by_cases hk5 : kd = 5
 ·have HKL : Hid (keyL ⟨vr, (fm : Int), vq, (t : Int), (sq : Int), (kd : Int), vv, row, qual, val⟩ = (((ordL row ++ [fm, M5]) ++ be8 (9223372036854775807 - t)) ++ be8 (9223372036854775807 - sq)) ++ [kd]) := by
   unfold Hid keyL
   rw [HM5.out]
   simp [hk5]
  have hkn : ((kd : Int) == 5) = true := by simp; omega
  have hkm : ((kd : Int) != 5) = false := by simp; omega
  clear hk5
  have yk := bx4.out.kind
  simp only at yk
  have z3 := bx4.out.ts
  have z4 := bx4.out.seq
  have z5 := bx4.out.kind
  simp only at z3 z4 z5
  go_wp2_with fail
  refine (appendFalling_any t hts own4 hSw4 (by omega)).mono ?_
  rintro e6 w6 ⟨a6, m6, c6, rfl, own6, hb6⟩
  have hm6 : m6 = m4 + 8 := by rw [own6.1, List.length_append, ← own4.1]; rfl
  have HM6 : Hid (m6 = m4 + 8) := hm6
  have bx6 : Hid (EBox w6 w.heap.size _) := bx4.out.keep hb6 hG
  have BB6 : Below w.heap.size w w6 := BB.trans (hb6.mono (Nat.le_of_lt hG))
  have hS6 : w1.heap.size ≤ w6.heap.size := Nat.le_trans hSw4 hb6.size
  have u4 := bx6.out.seq
  have u5 := bx6.out.kind
  simp only at u4 u5
  clear z3 z4 z5 hm6
  go_wp2_with fail
  refine (appendFalling_any sq hsq own6 hS6 (by have := HM6.out; omega)).mono ?_
  rintro e7 w7 ⟨a7, m7, c7, rfl, own7, hb7⟩
  have HM7 : Hid (m7 = m6 + 8) := by unfold Hid; rw [own7.1, List.length_append, ← own6.1]; rfl
  have bx7 : Hid (EBox w7 w.heap.size _) := bx6.out.keep hb7 hG
  have BB7 : Below w.heap.size w w7 := BB6.trans (hb7.mono (Nat.le_of_lt hG))
  have hS7 : w1.heap.size ≤ w7.heap.size := Nat.le_trans hS6 hb7.size
  have x5 := bx7.out.kind
  simp only at x5
  clear u4 u5
  go_wp2_with (at_builtin; refine wpList_append_new rfl (.tmp 45) _ rfl w1.heap.size a7 m7 c7 _ rfl own7 [_] 1 rfl [kd] (by first | rfl | (simp [bv]; done) | (simp [bv]; omega)) rfl (by have := HM6.out; have := HM7.out; omega) hS7 ?_; intro a8 m8 c8 w8 own8 hb8)
  go_ret2
  refine ⟨a8, m8, c8, rfl, ?_, BB7.trans (hb8.mono (Nat.le_of_lt hG))⟩
  have hfin := own8.mono (Nat.le_of_lt hG)
  rw [HKL.out]
  exact hfin
 ·have hkn : ((kd : Int) == 5) = false := by simp; omega
  have hkm : ((kd : Int) != 5) = true := by simp; omega
  obtain ⟨M4, hM4⟩ : ∃ M, M = (if (kd : Int) = 4 then 0 else 1 : Nat) := ⟨_, rfl⟩
  have HMM : Hid (M4 = mark (kd : Int) 4) := hM4
  have cM4 := fun w => markOf_any (kd : Int) 4 w
  rw [← hM4] at cM4
  have HCM4 : Hid (∀ w, Calls Tryz.prog 78 #[.int .i64 (kd : Int), .int .i64 4] w fun e w' => e = .returned (.int .u8 ((M4 : Nat) : Int)) ∧ w' = w) := cM4
  have HKL : Hid (keyL ⟨vr, (fm : Int), vq, (t : Int), (sq : Int), (kd : Int), vv, row, qual, val⟩ = (((((ordL row ++ [fm, M5]) ++ ordL qual) ++ [M4]) ++ be8 (9223372036854775807 - t)) ++ be8 (9223372036854775807 - sq)) ++ [kd]) := by
   unfold Hid keyL
   rw [HM5.out, HMM.out]
   have : ¬ ((kd : Int) = 5) := by omega
   simp [this]
  clear hM4 cM4 hk5
  have yk := bx4.out.kind
  have yq := bx4.out.vq
  simp only at yk yq
  go_wp2_with fail
  refine (ordered_any (HRQ.out.later BB) (by have := HOQ.out.1; omega)).mono ?_
  rintro e5 w5 ⟨a5, m5, c5, rfl, own5, hb5⟩
  have hm5 : m5 ≤ 514 := by rw [own5.1]; exact HOQ.out.1
  have r5 := own5.rd HOQ.out.2 (by omega)
  have own45 := own4.later hb5
  have BB5 : Below w.heap.size w w5 := BB.trans (hb5.mono BB.size)
  have bx5 : Hid (EBox w5 w.heap.size _) := bx4.out.later hb5
  have hS5 : w1.heap.size ≤ w5.heap.size := Nat.le_trans hSw4 hb5.size
  have HL5 : Hid (m5 = (ordL qual).length) := own5.1
  clear yk yq own5 hb5
  go_wp2_with (first
   | (at_builtin; refine wpList_append_at rfl (.tmp 26) _ rfl w1.heap.size a4 m4 c4 _ rfl own45 a5 m5 c5 _ rfl r5 (by omega) hS5 ?_; intro a9 m9 c9 w9 own9 hb9; have bx9 : Hid (EBox w9 w.heap.size _) := bx5.out.keep hb9 hG; have yk9 := bx9.out.kind; have hS9 : w1.heap.size ≤ w9.heap.size := Nat.le_trans hS5 hb9.size; have HM9 : Hid (m9 = m4 + m5) := (by unfold Hid; rw [own9.1, List.length_append, ← own45.1, ← HL5.out]); simp only at yk9)
   | (go_at_call 78; refine (HCM4.out _).mono ?_; rintro e1 wm ⟨rfl, rfl⟩)
   | (at_builtin; refine wpList_append_new rfl (.tmp 31) _ rfl w1.heap.size a9 m9 c9 _ rfl own9 [_] 1 rfl [M4] rfl rfl (by have := HM9.out; omega) hS9 ?_; intro aX mX cX wX ownX hbX; have bxX : Hid (EBox wX w.heap.size _) := bx9.out.keep hbX hG; have hSwX : w1.heap.size ≤ wX.heap.size := Nat.le_trans hS9 hbX.size; have z3 := bxX.out.ts; simp only at z3))
  have HMX : Hid (mX = m9 + 1) := by unfold Hid; rw [ownX.1, List.length_append, ← own9.1]; rfl
  have hmX : mX ≤ 1031 := by have := HMX.out; have := HM9.out; omega
  have BBX : Below w.heap.size w wX := (BB5.trans (hb9.mono (Nat.le_of_lt hG))).trans (hbX.mono (Nat.le_of_lt hG))
  refine (appendFalling_any t hts ownX hSwX (by omega)).mono ?_
  rintro e6 w6 ⟨a6, m6, c6, rfl, own6, hb6⟩
  have hm6 : m6 = mX + 8 := by rw [own6.1, List.length_append, ← ownX.1]; rfl
  have HM6 : Hid (m6 = mX + 8) := hm6
  have bx6 : Hid (EBox w6 w.heap.size _) := bxX.out.keep hb6 hG
  have BB6 : Below w.heap.size w w6 := BBX.trans (hb6.mono (Nat.le_of_lt hG))
  have hS6 : w1.heap.size ≤ w6.heap.size := Nat.le_trans hSwX hb6.size
  have u4 := bx6.out.seq
  have u5 := bx6.out.kind
  simp only at u4 u5
  clear z3 hm6
  go_wp2_with fail
  refine (appendFalling_any sq hsq own6 hS6 (by have := HM6.out; omega)).mono ?_
  rintro e7 w7 ⟨a7, m7, c7, rfl, own7, hb7⟩
  have HM7 : Hid (m7 = m6 + 8) := by unfold Hid; rw [own7.1, List.length_append, ← own6.1]; rfl
  have bx7 : Hid (EBox w7 w.heap.size _) := bx6.out.keep hb7 hG
  have BB7 : Below w.heap.size w w7 := BB6.trans (hb7.mono (Nat.le_of_lt hG))
  have hS7 : w1.heap.size ≤ w7.heap.size := Nat.le_trans hS6 hb7.size
  have x5 := bx7.out.kind
  simp only at x5
  clear u4 u5
  go_wp2_with (at_builtin; refine wpList_append_new rfl (.tmp 45) _ rfl w1.heap.size a7 m7 c7 _ rfl own7 [_] 1 rfl [kd] (by first | rfl | (simp [bv]; done) | (simp [bv]; omega)) rfl (by have := HM6.out; have := HM7.out; omega) hS7 ?_; intro a8 m8 c8 w8 own8 hb8)
  go_ret2
  refine ⟨a8, m8, c8, rfl, ?_, BB7.trans (hb8.mono (Nat.le_of_lt hG))⟩
  have hfin := own8.mono (Nat.le_of_lt hG)
  rw [HKL.out]
  exact hfin

end Go.Proofs.YtpabbnddeklpdaaGreat

namespace Go.Proofs.YtpabbnddeklpdaaGreat
open Go.RowKit
set_option linter.unusedVariables false

def ordC : List Nat → List Nat → Int
 | [], [] => 0
 | [], _ :: _ => -1
 | _ :: _, [] => 1
 | x :: a, y :: b => if x < y then -1 else if y < x then 1 else ordC a b
theorem ordC_self (a : List Nat) : ordC a a = 0 := by
 induction a with
 | nil => rfl
 | cons x a ih => simp [ordC, ih]
theorem ordC_eq : ∀ (a b : List Nat), ordC a b = 0 → a = b
 | [], [], _ => rfl
 | [], y :: b, h => by simp [ordC] at h
 | x :: a, [], h => by simp [ordC] at h
 | x :: a, y :: b, h => by
  simp only [ordC] at h
  split at h
  ·simp at h
  ·split at h
   ·simp at h
   ·rename_i h1 h2
    have : x = y := by omega
    rw [this, ordC_eq a b h]
theorem ordC_range (a b : List Nat) : ordC a b = -1 ∨ ordC a b = 0 ∨ ordC a b = 1 := by
 induction a generalizing b with
 | nil => cases b <;> simp [ordC]
 | cons x a ih =>
  cases b with
  | nil => simp [ordC]
  | cons y b =>
   simp only [ordC]
   split
   ·simp
   ·split
    ·simp
    ·exact ih b
theorem ordC_esc : ∀ (a b x y : List Nat), ordC a b ≠ 0 → ordC (escL a ++ 0 :: 1 :: x) (escL b ++ 0 :: 1 :: y) = ordC a b := by
 intro a
 induction a with
 | nil =>
  intro b x y h
  cases b with
  | nil => simp [ordC] at h
  | cons d b =>
   by_cases hd : d = 0
   ·subst hd; simp [escL, ordC]
   ·have : 0 < d := by omega
    simp [escL, ordC, hd, this]
 | cons c a ih =>
  intro b x y h
  cases b with
  | nil =>
   by_cases hc : c = 0
   ·subst hc; simp [escL, ordC]
   ·have : 0 < c := by omega
    simp [escL, ordC, hc, this]
  | cons d b =>
   simp only [ordC] at h ⊢
   by_cases hcd : c < d
   ·have hd : d ≠ 0 := by omega
    by_cases hc : c = 0
    ·subst hc
     simp [escL, ordC, hd, hcd]
    ·simp [escL, ordC, hc, hd, hcd]
   ·by_cases hdc : d < c
    ·have hc : c ≠ 0 := by omega
     by_cases hd : d = 0
     ·subst hd
      simp [escL, ordC, hc, hdc]
     ·simp [escL, ordC, hc, hd, hdc, hcd]
    ·have : c = d := by omega
     subst this
     simp only [Nat.lt_irrefl, if_false] at h ⊢
     have := ih b x y h
     by_cases hc : c = 0
     ·subst hc
      simpa [escL, ordC] using this
     ·simpa [escL, ordC, hc] using this
theorem ordC_ordL (a b x y : List Nat) (h : ordC a b ≠ 0) : ordC (ordL a ++ x) (ordL b ++ y) = ordC a b := by
 have := ordC_esc a b x y h
 simpa [ordL] using this
theorem ordC_ordL0 (a b : List Nat) : ordC (ordL a) (ordL b) = ordC a b := by
 by_cases h : ordC a b = 0
 ·rw [ordC_eq a b h, ordC_self, ordC_self]
 ·have := ordC_ordL a b [] [] h
  simpa using this
theorem ordL_free (a b : List Nat) (h : ordC a b ≠ 0) : ¬ ((ordL a).length ≤ (ordL b).length ∧ ordL a = (ordL b).take (ordL a).length) := by
 rintro ⟨_, h2⟩
 have e : ordL b = ordL a ++ (ordL b).drop (ordL a).length := by
  conv => lhs; rw [← List.take_append_drop (ordL a).length (ordL b)]
  rw [← h2]
 have := ordC_ordL a b ((ordL b).drop (ordL a).length) [] h
 rw [List.append_nil, ← e, ordC_self] at this
 exact h this.symm
theorem ordC_swap (a b : List Nat) : ordC b a = -ordC a b := by
 induction a generalizing b with
 | nil => cases b <;> simp [ordC]
 | cons x a ih =>
  cases b with
  | nil => simp [ordC]
  | cons y b =>
   simp only [ordC]
   by_cases h1 : x < y
   ·simp [h1, show ¬ y < x by omega]
   ·by_cases h2 : y < x
    ·simp [h1, h2]
    ·simp [h1, h2, ih b]
def val : List Nat → Nat
 | [] => 0
 | c :: r => c * 256 ^ r.length + val r
theorem val_lt (l : List Nat) (h : Bys l) : val l < 256 ^ l.length := by
 induction l with
 | nil => simp [val]
 | cons c r ih =>
  have h1 := ih (fun x hx => h x (by simp [hx]))
  have hc := h c (by simp)
  simp only [val, List.length_cons, Nat.pow_succ]
  have := Nat.mul_le_mul_right (256 ^ r.length) (show c ≤ 255 by omega)
  omega
theorem ordC_val : ∀ (a b : List Nat), a.length = b.length → Bys a → Bys b → ordC a b = if val a < val b then -1 else if val b < val a then 1 else 0
 | [], [], _, _, _ => by simp [ordC, val]
 | x :: a, y :: b, hl, ha, hb => by
  have hl' : a.length = b.length := by simpa using hl
  have ha' : Bys a := fun z hz => ha z (by simp [hz])
  have hb' : Bys b := fun z hz => hb z (by simp [hz])
  have la := val_lt a ha'
  have lb := val_lt b hb'
  have va : val (x :: a) = x * 256 ^ b.length + val a := by simp only [val]; rw [hl']
  have vb : val (y :: b) = y * 256 ^ b.length + val b := rfl
  rw [va, vb]
  simp only [ordC]
  rw [hl'] at la
  by_cases h1 : x < y
  ·have := Nat.mul_le_mul_right (256 ^ b.length) (show x + 1 ≤ y by omega)
   rw [Nat.add_mul, Nat.one_mul] at this
   rw [if_pos h1, if_pos (by omega)]
  ·by_cases h2 : y < x
   ·have := Nat.mul_le_mul_right (256 ^ b.length) (show y + 1 ≤ x by omega)
    rw [Nat.add_mul, Nat.one_mul] at this
    rw [if_neg h1, if_pos h2, if_neg (by omega), if_pos (by omega)]
   ·have hxy : x = y := by omega
    subst hxy
    rw [if_neg h1, if_neg h1, ordC_val a b hl' ha' hb']
    simp only [Nat.add_lt_add_iff_left]
theorem val_be8 (n : Nat) (h : n < 9223372036854775808) : val (be8 n) = n := by
 simp [val, be8]
 omega
def cmpN (m n : Nat) : Int := if m < n then -1 else if n < m then 1 else 0
theorem ordC_be8 (m n : Nat) (hm : m < 9223372036854775808) (hn : n < 9223372036854775808) : ordC (be8 m) (be8 n) = cmpN m n := by
 rw [ordC_val (be8 m) (be8 n) rfl (be8_bys m) (be8_bys n), val_be8 m hm, val_be8 n hn]
 rfl
theorem drop_cons (l : List Nat) (t : Nat) (h : t < l.length) : l.drop t = l.getD t 0 :: l.drop (t + 1) := by
 rw [List.drop_eq_getElem_cons h]; simp [List.getD, List.getElem?_eq_getElem h]

end Go.Proofs.YtpabbnddeklpdaaGreat
