import Derived.Test.YtpabbnddeklpdaaGreatProg
import Derived.WalkKit
import Derived.WalkSpells
import Derived.WalkLawsBesides
import Derived.Laws.BytesArg
import Derived.Laws.BitsAllLaws
import Derived.RowKit
import Derived.Deep.QuietTactic
import Derived.BigQuiet
import Derived.Laws.AppendOwnNone
import Derived.Shelf.Bytes.SlCountOne
namespace Go.Proofs.YtpabbnddeklpdaaGreat
open Go.RowKit
set_option linter.unusedVariables false

theorem und_bytes : Tryz.prog.underlying 34 = some (.slice 5) := by kernel_rfl
theorem und_byte : Tryz.prog.underlying 5 = some (.int .u8) := by kernel_rfl
theorem und_parts : Tryz.prog.underlying 33 = some (.slice 34) := by kernel_rfl
theorem info_byte : (Tryz.prog.info? 5).map (fun i => (i.zero, i.size, i.bytes)) = some (some (.int .u8 0), 1, 1) := by kernel_rfl

def bv (bs : List Nat) : List Value := bs.map fun n : Nat => Value.int .u8 (n : Int)

theorem bv_length (bs : List Nat) : (bv bs).length = bs.length := by simp [bv]
theorem bv_append (a b : List Nat) : bv (a ++ b) = bv a ++ bv b := by simp [bv]
theorem bv_oneCell (bs : List Nat) : ∀ u ∈ bv bs, u.oneCell' = true := by
 intro u hu
 simp only [bv, List.mem_map] at hu
 obtain ⟨n, _, rfl⟩ := hu
 rfl
theorem bv_get (bs : List Nat) (j : Nat) (u : Value) (h : (bv bs)[j]? = some u) : j < bs.length ∧ u = .int .u8 ((bs.getD j 0 : Nat) : Int) := by
 simp only [bv, List.getElem?_map, Option.map_eq_some_iff] at h
 obtain ⟨n, hn, rfl⟩ := h
 obtain ⟨hj, rfl⟩ := List.getElem?_eq_some_iff.1 hn
 exact ⟨hj, by simp [List.getD, List.getElem?_eq_getElem hj]⟩

def Bys (bs : List Nat) : Prop := ∀ x ∈ bs, x < 256

theorem Bys.get {bs : List Nat} (h : Bys bs) (i : Nat) : bs.getD i 0 < 256 := by
 by_cases hi : i < bs.length
 ·simp [List.getD, List.getElem?_eq_getElem hi]; exact h _ (List.getElem_mem hi)
 ·simp [List.getD, List.getElem?_eq_none (by omega : bs.length ≤ i)]

def At (w : World) (a : Option Addr) (bs : List Nat) : Prop :=
 bs = [] ∨ ∃ b off, a = some ⟨b, off, none⟩ ∧ ∀ i, i < bs.length → w.cell? ⟨b, off + i, none⟩ = some (.int .u8 ((bs.getD i 0 : Nat) : Int))

def Rd (w : World) (v : Value) (bs : List Nat) : Prop :=
 Bys bs ∧ ∃ a cap, v = .slice a bs.length cap ∧ bs.length ≤ cap ∧ cap ≤ maxLen ∧ bs.length ≤ 281474976710656 ∧ (cap = 0 ∨ ∃ b off, a = some ⟨b, off, none⟩) ∧ At w a bs

theorem At.later {w w' : World} {a : Option Addr} {bs : List Nat} (h : At w a bs) (hb : Below w.heap.size w w') : At w' a bs := by
 rcases h with h | ⟨b, off, rfl, hc⟩
 ·exact .inl h
 ·refine .inr ⟨b, off, rfl, fun i hi => ?_⟩
  have := hc i hi
  rw [hb.cell (p := ⟨b, off + i, none⟩) (World.block_lt_of_cell? w _ this)]
  exact this

theorem At.add {w : World} {x : Addr} {bs : List Nat} (h : At w (some x) bs) : ∀ j u, (bv bs)[j]? = some u → w.cell? (x.add j) = some u := by
 intro j u hj
 obtain ⟨hjl, rfl⟩ := bv_get bs j u hj
 rcases h with rfl | ⟨b, off, h2, hc⟩
 ·simp at hjl
 ·cases h2
  have : (⟨b, off, none⟩ : Addr).add j = ⟨b, off + j, none⟩ := by unfold Addr.add; split <;> simp_all
  rw [this]
  exact hc j hjl

theorem Rd.later {w w' : World} {v : Value} {bs : List Nat} (h : Rd w v bs) (hb : Below w.heap.size w w') : Rd w' v bs := by
 obtain ⟨h1, a, cap, h2, h3, h4, h5, h6, h7⟩ := h
 exact ⟨h1, a, cap, h2, h3, h4, h5, h6, h7.later hb⟩

theorem Rd.nil (w : World) : Rd w (.slice none 0 0) [] := ⟨by intro x hx; simp at hx, none, 0, rfl, Nat.le_refl _, Nat.zero_le _, by simp, .inl rfl, .inl rfl⟩
theorem Rd.of_owns {w : World} {base n : Nat} {v : Value} {bs : List Nat} (hn : n = bs.length) (h : w.ownsRow base 5 1 v n (bv bs)) (hb : Bys bs) (hlen : n ≤ 281474976710656) : Rd w v bs := by
 subst hn
 refine ⟨hb, ?_⟩
 rcases h.2 with ⟨rfl, hn⟩ | ⟨g, cap, cur, rfl, _, hg, hle, hm, hsz, htk⟩
 ·exact ⟨none, 0, by simp [hn], by omega, Nat.zero_le _, hlen, .inl rfl, .inl (List.eq_nil_of_length_eq_zero hn)⟩
 ·refine ⟨_, cap, rfl, hle, hm, hlen, .inr ⟨g, 0, rfl⟩, .inr ⟨g, 0, rfl, fun i hi => ?_⟩⟩
  have hx : (bv bs)[i]? = some (.int .u8 ((bs.getD i 0 : Nat) : Int)) := by
   simp [bv, List.getElem?_eq_getElem hi]
  rw [← htk] at hx
  have hx2 : cur[i]? = some (.int .u8 ((bs.getD i 0 : Nat) : Int)) := by
   rw [List.getElem?_take_of_lt (by omega)] at hx
   simpa using hx
  simp [World.cell?, hg, hx2]

def Own (w : World) (B : Nat) (v : Value) (m : Nat) (xs : List Nat) : Prop := m = xs.length ∧ w.ownsRow B 5 1 v m (bv xs)
theorem Own.len {w : World} {B : Nat} {v : Value} {m : Nat} {xs : List Nat} (h : Own w B v m xs) : m = xs.length := h.1
theorem Own.rd {w : World} {B : Nat} {v : Value} {m : Nat} {xs : List Nat} (h : Own w B v m xs) (hb : Bys xs) (hl : m ≤ 281474976710656) : Rd w v xs := Rd.of_owns h.1 h.2 hb hl
theorem Own.mono {w : World} {B B' : Nat} {v : Value} {m : Nat} {xs : List Nat} (h : Own w B v m xs) (hB : B' ≤ B) : Own w B' v m xs := by
 refine ⟨h.1, h.2.1, ?_⟩
 rcases h.2.2 with h2 | ⟨g, cap, cur, h3, h4, h5⟩
 ·exact .inl h2
 ·exact .inr ⟨g, cap, cur, h3, Nat.le_trans hB h4, h5⟩
theorem Own.later {w w' : World} {B : Nat} {v : Value} {m : Nat} {xs : List Nat} (h : Own w B v m xs) (hb : Below w.heap.size w w') : Own w' B v m xs := by
 refine ⟨h.1, h.2.1, ?_⟩
 rcases h.2.2 with h2 | ⟨g, cap, cur, h3, h4, h5, h6⟩
 ·exact .inl h2
 ·exact .inr ⟨g, cap, cur, h3, h4, by rw [hb.block g (Array.getElem?_eq_some_iff.1 h5).1]; exact h5, h6⟩
theorem own_form {w : World} {B n : Nat} {v : Value} {xs : List Value} (h : w.ownsRow B 5 1 v n xs) : ∃ a c, v = .slice a n c := by
 rcases h.2 with ⟨rfl, rfl⟩ | ⟨g, cap, cur, rfl, _⟩
 ·exact ⟨_, _, rfl⟩
 ·exact ⟨_, _, rfl⟩
theorem handed {P : Program} {f : Nat} {args : Array Value} {w : World} {B : Nat} {L : List Nat}
  (h : Calls P f args w fun e w' => ∃ s, e = .returned s ∧ w'.ownsRow B 5 1 s L.length (bv L) ∧ Below B w w') :
  Calls P f args w fun e w' => ∃ a m c, e = .returned (.slice a m c) ∧ Own w' B (.slice a m c) m L ∧ Below B w w' := by
 refine h.mono ?_
 rintro e w' ⟨s, rfl, ho, hb⟩
 obtain ⟨a, c, rfl⟩ := own_form ho
 exact ⟨a, L.length, c, rfl, ⟨rfl, ho⟩, hb⟩

def str (bs : List Nat) : ByteArray := strOfNums (bs.map fun n : Nat => (n : Int))

end Go.Proofs.YtpabbnddeklpdaaGreat

namespace Go.Proofs.YtpabbnddeklpdaaGreat
open Go.RowKit
set_option linter.unusedVariables false

def uintF : Nat → Nat → List Nat
 | 0, v => [v]
 | f + 1, v => if 127 < v then (v % 128 + 128) :: uintF f (v / 128) else [v]
def uintL (v : Nat) : List Nat := uintF 9 v

theorem uintF_stop (f v : Nat) (h : v ≤ 127) : uintF f v = [v] := by
 cases f with
 | zero => rfl
 | succ f => simp [uintF]; omega
theorem uintF_go (f v : Nat) (h : 127 < v) : uintF (f + 1) v = (v % 128 + 128) :: uintF f (v / 128) := by simp [uintF, h]

theorem grp (v : Nat) (h : v < 18446744073709551616) : bits .or .u8 (bits .and .u64 (v : Int) 127 % 256) 128 = ((v % 128 + 128 : Nat) : Int) := by
 have h1 : bits .and .u64 (v : Int) 127 = ((v % 128 : Nat) : Int) := by
  have := u64_and_nat v 127 h (by omega)
  rw [nat_mask7] at this
  exact_mod_cast this
 rw [h1]
 have h2 : ((v % 128 : Nat) : Int) % 256 = ((v % 128 : Nat) : Int) := by omega
 rw [h2]
 have := u8_or_nat (v % 128) 128 (by omega) (by omega)
 rw [Nat.or_comm, nat_join 7 128 (v % 128) (by decide) (by omega)] at this
 rw [show ((128 : Int)) = ((128 : Nat) : Int) from rfl, this]
 omega

def tab : List Nat := [0, 274646895, 549293790, 820201905, 1098587580, 1361435347, 1640403810, 1905808397, 2197175160, 2460548119, 2722870694, 2987750089, 3280807620, 3553878443, 3811616794, 4084100981]
def half (r : Nat) : Nat := (r / 16) ^^^ tab.getD (r % 16) 0
def crcB (r c : Nat) : Nat := half (half (r ^^^ c))
def crcL (r : Nat) (bs : List Nat) : Nat := bs.foldl crcB r
def sumL (bs : List Nat) : Nat := 4294967295 - crcL 4294967295 bs

def rdle (a b c d : Nat) : Nat := a + 256 * b + 65536 * c + 16777216 * d
theorem take_succ_getD (bs : List Nat) (k : Nat) (h : k < bs.length) : bs.take (k + 1) = bs.take k ++ [bs.getD k 0] := by
 rw [List.take_succ_eq_append_getElem h]; simp [List.getD, List.getElem?_eq_getElem h]

end Go.Proofs.YtpabbnddeklpdaaGreat

namespace Go.Proofs.YtpabbnddeklpdaaGreat
open Go.RowKit
set_option linter.unusedVariables false

theorem own_snoc {w1 : World} {B n : Nat} {v : Value} {acc : List Nat} {x : Int} {y : Nat} (h : w1.ownsRow B 5 1 v (n + 1) (bv acc ++ [.int .u8 x])) (hn : n = acc.length) (hx : x = (y : Int)) :
  w1.ownsRow B 5 1 v (acc ++ [y]).length (bv (acc ++ [y])) := by
 subst hx
 subst hn
 simpa [bv] using h

set_option maxRecDepth 100000 in
set_option maxHeartbeats 400000 in
theorem uint_any (v : Nat) (hv : v < 18446744073709551616) (w : World) :
  Calls Tryz.prog 80 #[.int .u64 (v : Int)] w fun e w' => ∃ s, e = .returned s ∧ w'.ownsRow w.heap.size 5 1 s (uintL v).length (bv (uintL v)) ∧ Below w.heap.size w w' := by
 obtain ⟨i0, hi, hz0, hz1, hz2⟩ := info_parts info_byte
 have hmk : ∀ w, (Instr.makeSlice 34 (.int .i64 0) (.int .i64 10)).run Tryz.prog w = .ok (.slice (some ⟨w.heap.size, 0, none⟩) 0 10) (w.alloc (.cells #[.int .u8 0, .int .u8 0, .int .u8 0, .int .u8 0, .int .u8 0, .int .u8 0, .int .u8 0, .int .u8 0, .int .u8 0, .int .u8 0] 5)) := fun _ => by kernel_rfl
 go_enter Tryz.func80, Tryz.ntmps80
 go_wp2
 go_loopw [0, 3] (fun x s wr => ∃ (u f : Nat) (acc : List Nat), x = .int .u64 (u : Int) ∧ u < 128 ^ (f + 1) ∧ u < 18446744073709551616 ∧ acc.length + f = 9 ∧ uintL v = acc ++ uintF f u ∧ wr.ownsRow w.heap.size 5 1 s acc.length (bv acc) ∧ Below w.heap.size w wr)
  (fun x _ _ => (intOf x).toNat)
 case atStart => exact ⟨v, 9, [], rfl, by omega, hv, rfl, rfl, World.ownsRow_made w _ 10 (Nat.le_refl _) (by decide) (by simp), (Below.refl _ _).alloc (Nat.le_refl _) _⟩
 case round =>
  obtain ⟨u, f, acc, rfl, hu, hu2, hacc, hl, hown, hb⟩ := hrel
  have HL : Hid (uintL v = acc ++ uintF f u) := hl
  clear hl
  have HU : Hid (u < 128 ^ (f + 1)) := hu
  clear hu
  have hbs := hb.size
  by_cases hgt : 127 < u
  ·have hgt2 : (127 : Int) < (u : Int) := by omega
   go_wp2_with (at_builtin; refine wpList_append_own _ rfl _ _ 34 rfl w.heap.size 5 i0 (.int .u8 0) 1 1 und_bytes hi hz0 hz1 hz2 rfl (by decide) _ acc.length (bv acc) rfl (hown.alloc _) ⟨wr.heap.size, 0, none⟩ 1 1 [_] rfl rfl (cell_one_new _ _ _) ?c2 ?c3 ?c4 ?c5 ?_)
   case c2 => intro u hu; simp at hu; subst hu; rfl
   case c3 => unfold maxLen; omega
   case c4 => omega
   case c5 => simp; omega
   intro v' w1 hown' hgrow _
   have ho := own_snoc hown' rfl (grp u hu2)
   have hb1 : Below w.heap.size w w1 := (hb.alloc hbs _).grown hgrow (by simp; omega) (fun k hk => (hown.lt k hk).1)
   clear hown' hgrow hown hb
   go_wp2
   go_roundw
   case rel =>
    obtain ⟨f', rfl⟩ : ∃ f', f = f' + 1 := ⟨f - 1, by
     have h1 : f ≠ 0 := by
      intro h0
      have := HU.out
      rw [h0] at this
      omega
     omega⟩
    refine ⟨u / 128, f', acc ++ [u % 128 + 128], by go_num, ?_, by omega, by simp; omega, ?_, ho, hb1⟩
    ·have := HU.out
     rw [Nat.pow_succ] at this
     exact Nat.div_lt_of_lt_mul (by rw [Nat.mul_comm]; exact this)
    ·rw [HL.out, uintF_go f' u hgt]; simp
   case measure => simp [intOf]; omega
  ·have hgt2 : (u : Int) ≤ 127 := by omega
   go_wp2_with (at_builtin; refine wpList_append_own _ rfl _ _ 34 rfl w.heap.size 5 i0 (.int .u8 0) 1 1 und_bytes hi hz0 hz1 hz2 rfl (by decide) _ acc.length (bv acc) rfl (hown.alloc _) ⟨wr.heap.size, 0, none⟩ 1 1 [_] rfl rfl (cell_one_new _ _ _) ?c2 ?c3 ?c4 ?c5 ?_)
   case c2 => intro u hu; simp at hu; subst hu; rfl
   case c3 => unfold maxLen; omega
   case c4 => omega
   case c5 => simp; omega
   intro v' w1 hown' hgrow _
   have ho := own_snoc (y := u) hown' rfl (by omega)
   have hb1 : Below w.heap.size w w1 := (hb.alloc hbs _).grown hgrow (by simp; omega) (fun k hk => (hown.lt k hk).1)
   clear hown' hgrow hown hb
   go_wp2
   go_ret
   refine ⟨_, rfl, ?_, hb1⟩
   rw [HL.out, uintF_stop f u (by omega)]
   exact ho

end Go.Proofs.YtpabbnddeklpdaaGreat

namespace Go.Proofs.YtpabbnddeklpdaaGreat
open Go.RowKit
set_option linter.unusedVariables false

def RdP (w : World) (v : Value) (ps : List (List Nat)) : Prop :=
 ps.length ≤ 281474976710656 ∧ ∃ a cap, v = .slice a ps.length cap ∧ (ps = [] ∨ ∃ b off, a = some ⟨b, off, none⟩ ∧ ∀ i, i < ps.length → ∃ u, w.cell? ⟨b, off + i, none⟩ = some u ∧ Rd w u (ps.getD i []))

end Go.Proofs.YtpabbnddeklpdaaGreat

namespace Go.Proofs.YtpabbnddeklpdaaGreat
open Go.RowKit
set_option linter.unusedVariables false

theorem news_new (w : World) (xs : List Value) (T : TypeId) : ∀ j u, xs[j]? = some u → (w.alloc (.cells xs.toArray T)).cell? ((⟨w.heap.size, 0, none⟩ : Addr).add j) = some u := by
 intro j u hj
 have : (⟨w.heap.size, 0, none⟩ : Addr).add j = ⟨w.heap.size, j, none⟩ := by unfold Addr.add; split <;> simp_all
 rw [this]
 unfold World.cell?
 rw [heap_alloc_new]
 simpa using hj

def be4 (n : Nat) : List Nat := [n / 16777216, n / 65536 % 256, n / 256 % 256, n % 256]
def le4 (n : Nat) : List Nat := [n % 256, n / 256 % 256, n / 65536 % 256, n / 16777216]

end Go.Proofs.YtpabbnddeklpdaaGreat

namespace Go.Proofs.YtpabbnddeklpdaaGreat
open Go.RowKit
set_option linter.unusedVariables false

theorem Rd.sub {w : World} {b off n cap : Nat} {bs : List Nat} (h : Rd w (.slice (some ⟨b, off, none⟩) n cap) bs) (i j : Nat) (hij : i ≤ j) (hj : j ≤ n) {off' n' cap' : Nat}
  (ho : off' = off + i) (hn : n' = j - i) (hc : cap' = cap - i) : Rd w (.slice (some ⟨b, off', none⟩) n' cap') ((bs.take j).drop i) := by
 obtain ⟨h1, a0, cap0, h2, h3, h4, h5, h6, h7⟩ := h
 simp only [Value.slice.injEq] at h2
 obtain ⟨rfl, rfl, rfl⟩ := h2
 have hl : ((bs.take j).drop i).length = j - i := by simp; omega
 subst ho hn hc
 refine ⟨fun x hx => h1 x (List.mem_of_mem_take (List.mem_of_mem_drop hx)), _, cap - i, by rw [hl], by rw [hl]; omega, Nat.le_trans (Nat.sub_le _ _) h4, by rw [hl]; omega, .inr ⟨b, off + i, rfl⟩, ?_⟩
 rcases h7 with rfl | ⟨b', off', h8, hcell⟩
 ·exact .inl (by simp)
 ·cases h8
  refine .inr ⟨b, off + i, rfl, fun k hk => ?_⟩
  rw [hl] at hk
  have := hcell (i + k) (by omega)
  rw [Nat.add_assoc, this]
  simp [List.getElem?_take_of_lt (show i + k < j by omega)]
theorem Rd.upto {w : World} {b off n cap : Nat} {bs : List Nat} (h : Rd w (.slice (some ⟨b, off, none⟩) n cap) bs) (j : Nat) (hj : j ≤ n) : Rd w (.slice (some ⟨b, off, none⟩) j cap) (bs.take j) := by
 have := h.sub 0 j (Nat.zero_le _) hj (off' := off) (n' := j) (cap' := cap) rfl (by omega) (by omega)
 simpa using this
theorem Rd.past {w : World} {b off n cap : Nat} {bs : List Nat} (h : Rd w (.slice (some ⟨b, off, none⟩) n cap) bs) (i : Nat) (hi : i ≤ n) {off' n' cap' : Nat}
  (ho : off' = off + i) (hn : n' = n - i) (hc : cap' = cap - i) : Rd w (.slice (some ⟨b, off', none⟩) n' cap') (bs.drop i) := by
 have hl : n = bs.length := by obtain ⟨_, _, _, h2, _⟩ := h; simp only [Value.slice.injEq] at h2; exact h2.2.1
 have := h.sub i n hi (Nat.le_refl _) ho hn hc
 rwa [hl, List.take_length] at this
theorem rd_lens {w : World} {a : Option Addr} {n cap : Nat} {bs : List Nat} (h : Rd w (.slice a n cap) bs) : n = bs.length ∧ n ≤ cap ∧ cap ≤ maxLen ∧ n ≤ 281474976710656 := by
 obtain ⟨_, a1, c1, h2, hle, hm, hl48, _⟩ := h
 simp only [Value.slice.injEq] at h2
 obtain ⟨rfl, rfl, rfl⟩ := h2
 exact ⟨rfl, hle, hm, hl48⟩
theorem rd_slice {w : World} {v : Value} {bs : List Nat} (h : Rd w v bs) : ∃ a n cap, v = .slice a n cap := by
 obtain ⟨_, a1, c1, h2, _⟩ := h
 exact ⟨_, _, _, h2⟩
theorem rd_some {w : World} {a : Option Addr} {n cap : Nat} {bs : List Nat} (h : Rd w (.slice a n cap) bs) : (cap = 0 ∧ n = 0 ∧ bs = []) ∨ ∃ b off, a = some ⟨b, off, none⟩ := by
 obtain ⟨_, a1, c1, h2, hle, hm, hl48, hn, hat⟩ := h
 simp only [Value.slice.injEq] at h2
 obtain ⟨rfl, rfl, rfl⟩ := h2
 rcases hn with rfl | ⟨b, off, rfl⟩
 ·exact .inl ⟨rfl, by omega, List.eq_nil_of_length_eq_zero (by omega)⟩
 ·exact .inr ⟨b, off, rfl⟩
theorem rd_cell {w : World} {b off n cap : Nat} {bs : List Nat} (h : Rd w (.slice (some ⟨b, off, none⟩) n cap) bs) (i : Nat) (hi : i < n) : w.cell? ⟨b, off + i, none⟩ = some (.int .u8 ((bs.getD i 0 : Nat) : Int)) ∧ bs.getD i 0 < 256 := by
 obtain ⟨h1, a0, cap0, h2, h3, h4, h5, h6, h7⟩ := h
 simp only [Value.slice.injEq] at h2
 obtain ⟨rfl, rfl, rfl⟩ := h2
 rcases h7 with rfl | ⟨b', off', h8, hcell⟩
 ·simp at hi
 ·cases h8
  exact ⟨hcell i hi, h1.get i⟩

set_option maxRecDepth 100000 in
set_option maxHeartbeats 400000 in
theorem clone_any {v : Value} {bs : List Nat} {w : World} (hr : Rd w v bs) (h47 : bs.length ≤ 140737488355328) :
  Calls Tryz.prog 43 #[v] w fun e w' => ∃ s, e = .returned s ∧ w'.ownsRow w.heap.size 5 1 s bs.length (bv bs) ∧ Below w.heap.size w w' := by
 obtain ⟨i0, hi, hz0, hz1, hz2⟩ := info_parts info_byte
 obtain ⟨hby, a, cap, rfl, hle, hm, hl48, hnone, hat⟩ := hr
 have heq := fun w => Lib.run_eql_slice_nil (P := Tryz.prog) w 34 5 a bs.length cap 0 0 und_bytes
 cases a with
 | none =>
  have hb0 : bs = [] := by
   rcases hnone with h | ⟨b, off, h⟩
   ·exact List.eq_nil_of_length_eq_zero (by omega)
   ·cases h
  subst hb0
  simp only [List.length_nil, Option.isNone_none] at heq
  go_enter Tryz.func43, Tryz.ntmps43
  go_wp2
  go_ret
  exact ⟨_, rfl, World.ownsRow_nil _ _ _ _, Below.refl _ _⟩
 | some x =>
  have hc' := (hat.later ((Below.refl _ _).alloc (Nat.le_refl _) (.cells #[] 5))).add
  clear hat hnone
  go_enter Tryz.func43, Tryz.ntmps43
  go_wp2_with (at_builtin; refine wpList_append_own _ rfl _ _ 34 rfl w.heap.size 5 i0 (.int .u8 0) 1 1 und_bytes hi hz0 hz1 hz2 rfl (by decide) _ 0 (bv []) rfl (World.ownsRow_made w #[] 0 (Nat.le_refl _) (Nat.zero_le _) rfl) x bs.length cap (bv bs) rfl ?c0 hc' (bv_oneCell bs) ?c3 ?c4 ?c5 ?_)
  case c0 => simp [bv]
  case c3 => unfold maxLen; omega
  case c4 => omega
  case c5 => simp
  intro v' w1 hown' hgrow _
  have hb1 : Below w.heap.size w w1 := ((Below.refl _ w).alloc (Nat.le_refl _) _).grown hgrow (by simp) (fun k hk => by simp [Value.ownBlock] at hk; omega)
  clear hgrow hc'
  go_wp2
  go_ret
  refine ⟨_, rfl, ?_, hb1⟩
  simpa [bv] using hown'

theorem wpList_append_at {w : World} {ops : Array Oper} {rest : List Oper} {o : Oper} {a : Act} {Q : Exit → Act → World → Prop} (hgd : o.guard = none) (s x : Operand)
  (ho : o.op = .call { callee := .builtin .append, args := #[s, x], argTypes := #[34, 34] })
  (B : Nat) (a0 : Option Addr) (m0 c0 : Nat) (acc : List Nat) (hs : a.eval s = .slice a0 m0 c0) (hown : Own w B (.slice a0 m0 c0) m0 acc)
  (ao : Option Addr) (m c : Nat) (bs : List Nat) (hx : a.eval x = .slice ao m c) (hrd : Rd w (.slice ao m c) bs)
  (hbytes : m0 + m ≤ 140737488355328) (hB : B ≤ w.heap.size)
  (h : ∀ a' m' c' w', Own w' B (.slice a' m' c') m' (acc ++ bs) → Below B w w' → wpList Tryz.prog ops Q rest (a.put o.dst (.slice a' m' c')) w') : wpList Tryz.prog ops Q (o :: rest) a w := by
 obtain ⟨i0, hi, hz0, hz1, hz2⟩ := info_parts info_byte
 obtain ⟨hby, a1, c1, h2, hle, hm, hl48, hnone, hat⟩ := hrd
 simp only [Value.slice.injEq] at h2
 obtain ⟨rfl, rfl, rfl⟩ := h2
 cases ao with
 | none =>
  have hb0 : bs = [] ∧ c = 0 := by
   rcases hnone with h | ⟨b, off, h⟩
   ·exact ⟨List.eq_nil_of_length_eq_zero (by omega), h⟩
   ·cases h
  obtain ⟨rfl, rfl⟩ := hb0
  refine wpList_append_own_none hgd s x 34 ho B 5 i0 1 und_bytes hi _ _ _ hs hown.2 (by simpa using hx) ?_
  exact h _ _ _ _ (by simpa using hown) (Below.refl _ _)
 | some ad =>
  refine wpList_append_own _ hgd s x 34 ho B 5 i0 (.int .u8 0) 1 1 und_bytes hi hz0 hz1 hz2 rfl (by decide) _ m0 (bv acc) hs hown.2 ad bs.length c (bv bs) hx (by simp [bv]) hat.add (bv_oneCell bs) (by unfold maxLen; omega) (by omega) hB ?_
  intro v' w' h1 h2 _
  obtain ⟨a', c', rfl⟩ := own_form h1
  refine h a' _ c' w' ⟨by rw [hown.1]; simp, by simpa [bv] using h1⟩ ((Below.refl B w).grown h2 hB (fun k hk => (hown.2.lt k hk).1))

theorem wpList_append_new {w : World} {ops : Array Oper} {rest : List Oper} {o : Oper} {a : Act} {Q : Exit → Act → World → Prop} (hgd : o.guard = none) (s x : Operand)
  (ho : o.op = .call { callee := .builtin .append, args := #[s, x], argTypes := #[34, 34] })
  (B : Nat) (a0 : Option Addr) (m0 c0 : Nat) (acc : List Nat) (hs : a.eval s = .slice a0 m0 c0) (hown : Own w B (.slice a0 m0 c0) m0 acc)
  (vs : List Value) (m : Nat) (hx : a.eval x = .slice (some ⟨w.heap.size, 0, none⟩) m m) (bs : List Nat) (hvs : vs = bv bs) (hm : m = bs.length)
  (hbytes : m0 + m ≤ 140737488355328) (hB : B ≤ w.heap.size)
  (h : ∀ a' m' c' w', Own w' B (.slice a' m' c') m' (acc ++ bs) → Below B w w' → wpList Tryz.prog ops Q rest (a.put o.dst (.slice a' m' c')) w') : wpList Tryz.prog ops Q (o :: rest) a (w.alloc (.cells vs.toArray 5)) := by
 obtain ⟨i0, hi, hz0, hz1, hz2⟩ := info_parts info_byte
 subst hvs
 refine wpList_append_own _ hgd s x 34 ho B 5 i0 (.int .u8 0) 1 1 und_bytes hi hz0 hz1 hz2 rfl (by decide) _ m0 (bv acc) hs (hown.2.alloc _) ⟨w.heap.size, 0, none⟩ m m (bv bs) hx (by simp [bv, hm]) (news_new _ _ _) (bv_oneCell bs) (by unfold maxLen; omega) (by omega) (by simp; omega) ?_
 intro v' w' h1 h2 _
 obtain ⟨a', c', rfl⟩ := own_form h1
 refine h a' _ c' w' ⟨by rw [hown.1, hm]; simp, by simpa [bv] using h1⟩ (((Below.refl B w).alloc hB _).grown h2 (by simp; omega) (fun k hk => (hown.2.lt k hk).1))

end Go.Proofs.YtpabbnddeklpdaaGreat

namespace Go.Proofs.YtpabbnddeklpdaaGreat
open Go.RowKit
set_option linter.unusedVariables false

def frameL (body : List Nat) : List Nat := ((be4 body.length ++ le4 (sumL (be4 body.length))) ++ body) ++ le4 (sumL body)

theorem Bys.app {a b : List Nat} (ha : Bys a) (hb : Bys b) : Bys (a ++ b) := by
 intro x hx
 rcases List.mem_append.1 hx with h | h
 ·exact ha x h
 ·exact hb x h
end Go.Proofs.YtpabbnddeklpdaaGreat

namespace Go.Proofs.YtpabbnddeklpdaaGreat
open Go.RowKit
set_option linter.unusedVariables false

def headR (bs : List Nat) : Nat × Nat :=
 if bs.length < 8 then (0, 10)
 else if rdle (bs.getD 4 0) (bs.getD 5 0) (bs.getD 6 0) (bs.getD 7 0) ≠ sumL (bs.take 4) then (0, 12)
 else if 1048576 < rdle (bs.getD 3 0) (bs.getD 2 0) (bs.getD 1 0) (bs.getD 0 0) then (0, 13)
 else (rdle (bs.getD 3 0) (bs.getD 2 0) (bs.getD 1 0) (bs.getD 0 0), 0)

def frameR (bs : List Nat) (k : Nat) : List Nat × Nat × Nat :=
 if (headR (bs.drop k)).2 ≠ 0 then ([], 0, (headR (bs.drop k)).2)
 else if bs.length < k + 8 + (headR (bs.drop k)).1 + 4 then ([], 0, 10)
 else if rdle ((bs.drop (k + 8 + (headR (bs.drop k)).1)).getD 0 0) ((bs.drop (k + 8 + (headR (bs.drop k)).1)).getD 1 0) ((bs.drop (k + 8 + (headR (bs.drop k)).1)).getD 2 0) ((bs.drop (k + 8 + (headR (bs.drop k)).1)).getD 3 0) ≠ sumL ((bs.drop (k + 8)).take (headR (bs.drop k)).1) then ([], 0, 12)
 else ((bs.drop (k + 8)).take (headR (bs.drop k)).1, k + 12 + (headR (bs.drop k)).1, 0)

end Go.Proofs.YtpabbnddeklpdaaGreat

namespace Go.Proofs.YtpabbnddeklpdaaGreat
open Go.RowKit
set_option linter.unusedVariables false

def ruint : Nat → List Nat → Nat → Nat → Nat × Nat × Nat
 | _, [], _, _ => (0, 0, 10)
 | 0, c :: _, i, v => if i = 9 ∧ 1 < c then (0, 0, 13) else if 128 ≤ c then (0, 0, 13) else if c = 0 ∧ 0 < i then (0, 0, 11) else (v + c % 128 * 128 ^ i, i + 1, 0)
 | f + 1, c :: r, i, v => if i = 9 ∧ 1 < c then (0, 0, 13) else if 128 ≤ c then ruint f r (i + 1) (v + c % 128 * 128 ^ i) else if c = 0 ∧ 0 < i then (0, 0, 11) else (v + c % 128 * 128 ^ i, i + 1, 0)
def uintR (bs : List Nat) (k : Nat) : Nat × Nat × Nat :=
 ((ruint 9 (bs.drop k) 0 0).1, if (ruint 9 (bs.drop k) 0 0).2.2 = 0 then k + (ruint 9 (bs.drop k) 0 0).2.1 else 0, (ruint 9 (bs.drop k) 0 0).2.2)

end Go.Proofs.YtpabbnddeklpdaaGreat

namespace Go.Proofs.YtpabbnddeklpdaaGreat
open Go.RowKit
set_option linter.unusedVariables false

theorem uint_at (z : Int) (v : Nat) (hz : z = (v : Int)) (hv : v < 18446744073709551616) (w : World) {L : List Nat} (hL : uintL v = L) :
  Calls Tryz.prog 80 #[.int .u64 z] w fun e w' => ∃ a m c, e = .returned (.slice a m c) ∧ Own w' w.heap.size (.slice a m c) m L ∧ Below w.heap.size w w' := by
 subst hz hL
 exact handed (uint_any v hv w)
end Go.Proofs.YtpabbnddeklpdaaGreat

namespace Go.Proofs.YtpabbnddeklpdaaGreat
open Go.RowKit
set_option linter.unusedVariables false

def be8 (n : Nat) : List Nat := [n / 2 ^ 56 % 256, n / 2 ^ 48 % 256, n / 2 ^ 40 % 256, n / 2 ^ 32 % 256, n / 2 ^ 24 % 256, n / 2 ^ 16 % 256, n / 2 ^ 8 % 256, n % 256]
theorem be8_bys (n : Nat) : Bys (be8 n) := by intro x hx; simp [be8] at hx; omega
theorem be8_get (n t : Nat) (h : t < 8) : (be8 n).getD t 0 = n / 2 ^ (8 * (7 - t)) % 256 := by
 match t, h with
 | 0, _ => rfl
 | 1, _ => rfl
 | 2, _ => rfl
 | 3, _ => rfl
 | 4, _ => rfl
 | 5, _ => rfl
 | 6, _ => rfl
 | 7, _ => simp [be8]
def fill8 (n t : Nat) : List Nat := (be8 n).take t ++ List.replicate (8 - t) 0
theorem fill8_len (n t : Nat) (h : t ≤ 8) : (fill8 n t).length = 8 := by simp [fill8, be8]; omega
theorem fill8_next (n t : Nat) (h : t < 8) : (fill8 n t).set t ((be8 n).getD t 0) = fill8 n (t + 1) := by
 match t, h with
 | 0, _ => rfl
 | 1, _ => rfl
 | 2, _ => rfl
 | 3, _ => rfl
 | 4, _ => rfl
 | 5, _ => rfl
 | 6, _ => rfl
 | 7, _ => rfl

set_option maxRecDepth 100000 in
set_option maxHeartbeats 1000000 in
theorem rising_any (n : Nat) (hn : n < 9223372036854775808) (w : World) :
  Calls Tryz.prog 96 #[.int .i64 (n : Int)] w fun e w' => ∃ a m c, e = .returned (.tuple #[.slice a m c, .int .i64 0]) ∧ Own w' w.heap.size (.slice a m c) m (be8 n) ∧ Below w.heap.size w w' := by
 have h0 : (0 : Int) ≤ (n : Int) := by omega
 have hmk : ∀ w, (Instr.makeSlice 34 (.int .i64 8) (.int .i64 8)).run Tryz.prog w = .ok (.slice (some ⟨w.heap.size, 0, none⟩) 8 8) (w.alloc (.cells #[.int .u8 0, .int .u8 0, .int .u8 0, .int .u8 0, .int .u8 0, .int .u8 0, .int .u8 0, .int .u8 0] 5)) := fun _ => by kernel_rfl
 go_enter Tryz.func96, Tryz.ntmps96
 go_wp2
 go_loopw [11] (fun i wr => ∃ t, t ≤ 8 ∧ i = .int .i64 ((t : Nat) : Int) ∧ Own wr w.heap.size (.slice (some ⟨w.heap.size, 0, none⟩) 8 8) 8 (fill8 n t) ∧ Below w.heap.size w wr) (fun i _ => 8 - (intOf i).toNat)
 case atStart =>
  refine ⟨0, by omega, rfl, ⟨rfl, ?_⟩, (Below.refl _ _).alloc (Nat.le_refl _) _⟩
  exact ⟨rfl, .inr ⟨w.heap.size, 8, _, rfl, Nat.le_refl _, heap_alloc_new w _, by omega, by unfold maxLen; omega, rfl, rfl⟩⟩
 case round =>
  obtain ⟨t, htl, rfl, ownk, hbk⟩ := hrel
  by_cases hlt : t < 8
  ·have hlt2 : (t : Int) < 8 := by omega
   have hfz := ownk.2.frozenAt t
   have hcell : wr.cell? ⟨w.heap.size, t, none⟩ = some (.int .u8 (((fill8 n t).getD t 0 : Nat) : Int)) := by
    rw [ownk.2.cellAt t (by omega)]
    simp [bv, List.getElem?_eq_getElem (show t < (fill8 n t).length by rw [fill8_len n t (by omega)]; exact hlt)]
   obtain ⟨y, hy⟩ : ∃ y, y = (fill8 n t).getD t 0 := ⟨_, rfl⟩
   rw [← hy] at hcell
   clear hy
   have HOWN : Hid (Own wr w.heap.size (.slice (some ⟨w.heap.size, 0, none⟩) 8 8) 8 (fill8 n t)) := ownk
   have HBK : Hid (Below w.heap.size w wr) := hbk
   clear ownk hbk
   have hvv : ((n : Int) / 2 ^ (8 * (7 - t)) % 256) = (((be8 n).getD t 0 : Nat) : Int) := by
    rw [be8_get n t hlt]; simp
   have HVV : Hid (((n : Int) / 2 ^ (8 * (7 - t)) % 256) = (((be8 n).getD t 0 : Nat) : Int)) := hvv
   clear hvv
   go_wp2
   go_roundw
   case rel =>
    have st := HOWN.out.2.stored t (.int .u8 ((n : Int) / 2 ^ (8 * (7 - t)) % 256))
    refine ⟨t + 1, by omega, by go_num, ⟨by rw [fill8_len n (t + 1) (by omega)], ?_⟩, HBK.out.setCell (p := ⟨w.heap.size, t, none⟩) (Nat.le_refl _) _⟩
    have := st.1
    rw [HVV.out] at this ⊢
    have e : bv (fill8 n (t + 1)) = (bv (fill8 n t)).set t (.int .u8 (((be8 n).getD t 0 : Nat) : Int)) := by
     rw [← fill8_next n t hlt]
     simp [bv, List.map_set]
    rw [e]
    exact this
   case measure => simp [intOf]; omega
  ·have hge : (8 : Int) ≤ (t : Int) := by omega
   obtain rfl : t = 8 := by omega
   have e : fill8 n 8 = be8 n := rfl
   rw [e] at ownk
   go_wp2
   go_ret2
   exact ⟨_, _, _, rfl, ownk, hbk⟩

theorem rising_at (z : Int) (n : Nat) (hz : z = (n : Int)) (hn : n < 9223372036854775808) (w : World) :
  Calls Tryz.prog 96 #[.int .i64 z] w fun e w' => ∃ a m c, e = .returned (.tuple #[.slice a m c, .int .i64 0]) ∧ Own w' w.heap.size (.slice a m c) m (be8 n) ∧ Below w.heap.size w w' := by
 subst hz; exact rising_any n hn w

set_option maxRecDepth 100000 in
set_option maxHeartbeats 400000 in
theorem falling_any (n : Nat) (hn : n < 9223372036854775808) (w : World) :
  Calls Tryz.prog 89 #[.int .i64 (n : Int)] w fun e w' => ∃ a m c, e = .returned (.tuple #[.slice a m c, .int .i64 0]) ∧ Own w' w.heap.size (.slice a m c) m (be8 (9223372036854775807 - n)) ∧ Below w.heap.size w w' := by
 have h0 : (0 : Int) ≤ (n : Int) := by omega
 have h1 : (n : Int) ≤ 9223372036854775807 := by omega
 obtain ⟨q, hq⟩ : ∃ q, q = 9223372036854775807 - n := ⟨_, rfl⟩
 have HQ : Hid (((9223372036854775807 : Int) - (n : Int)) = (q : Int)) := by unfold Hid; omega
 have HQ2 : Hid (q < 9223372036854775808) := by unfold Hid; omega
 rw [← hq]
 clear hq
 go_enter Tryz.func89, Tryz.ntmps89
 go_wp2_with fail
 refine (rising_at _ q HQ.out HQ2.out _).mono ?_
 rintro e w1 ⟨a1, m1, c1, rfl, own1, hb1⟩
 go_wp2
 go_ret2
 exact ⟨a1, m1, c1, rfl, own1, hb1⟩

def num8 (l : List Nat) : Nat := l.foldl (fun v c => v * 256 + c) 0
def riseR (bs : List Nat) (k : Nat) : Nat × Nat × Nat :=
 if bs.length < k + 8 then (0, 0, 10)
 else if 9223372036854775807 < num8 ((bs.drop k).take 8) then (0, 0, 13)
 else (num8 ((bs.drop k).take 8), k + 8, 0)

def fallR (bs : List Nat) (k : Nat) : Nat × Nat × Nat :=
 if (riseR bs k).2.2 ≠ 0 then (0, 0, (riseR bs k).2.2) else (9223372036854775807 - (riseR bs k).1, (riseR bs k).2.1, 0)
end Go.Proofs.YtpabbnddeklpdaaGreat

namespace Go.Proofs.YtpabbnddeklpdaaGreat
open Go.RowKit
set_option linter.unusedVariables false

theorem ints_at {w : World} {x : Addr} {bs : List Nat} (h : At w (some x) bs) : ∀ i, i < bs.length → w.cell? (x.add i) = some (.int .u8 ((bs.map fun n : Nat => (n : Int)).getD i 0)) := by
 intro i hi
 have := h.add i (.int .u8 ((bs.getD i 0 : Nat) : Int)) (by simp [bv, List.getElem?_eq_getElem hi])
 rw [this]
 simp [List.getElem?_eq_getElem hi]

theorem count_eq (bs : List Nat) (h : Bys bs) : Lib.countByte (Lib.bytesOf (bs.map fun n : Nat => (n : Int))) (0 : Int).toNat.toUInt8 = bs.count 0 := by
 unfold Lib.countByte Lib.bytesOf
 induction bs with
 | nil => rfl
 | cons c r ih =>
  have hc := h c (by simp)
  have ih' := ih (fun x hx => h x (by simp [hx]))
  simp only [List.map_cons, List.count_cons]
  rw [ih']
  congr 1
  have e : (UInt8.ofNat ((c : Int)).toNat == (0 : Int).toNat.toUInt8) = (c == 0) := by
   rw [Int.toNat_natCast]
   by_cases h0 : c = 0
   ·subst h0; rfl
   ·have : UInt8.ofNat c ≠ (0 : Int).toNat.toUInt8 := by
     intro hh
     have h2 := congrArg UInt8.toNat hh
     simp at h2
     omega
    rw [beq_eq_false_iff_ne.2 this, beq_eq_false_iff_ne.2 h0]
  rw [e]

set_option maxRecDepth 100000 in
set_option maxHeartbeats 1000000 in
theorem count_any {v : Value} {bs : List Nat} {w : World} (hr : Rd w v bs) (g : Nat) (hg : w.cell? ⟨g, 0, none⟩ = some (.int .u8 0)) :
  Calls Tryz.prog 88 #[v, .slice (some ⟨g, 0, none⟩) 1 1] w fun e w' => e = .returned (.int .i64 ((bs.count 0 : Nat) : Int)) ∧ w' = w := by
 obtain ⟨hby, a, cap, rfl, hle, hm, hl48, hnone, hat⟩ := hr
 cases a with
 | none =>
  have hb0 : bs = [] ∧ cap = 0 := by
   rcases hnone with h | ⟨b, off, h⟩
   ·exact ⟨List.eq_nil_of_length_eq_zero (by omega), h⟩
   ·cases h
  obtain ⟨rfl, rfl⟩ := hb0
  go_enter Tryz.func88, Tryz.ntmps88
  go_wp2
  rw [run_callFunc_extern Tryz.func94 (by kernel_rfl) (by kernel_rfl) (by kernel_rfl) (e := Extern.BytealgCount.count) (by kernel_rfl), Lib.run_countNil w 0 0 0]
  simp only [Result.andThen]
  rw [Oper.upon_value]
  go_wp2
  go_ret
  exact ⟨rfl, rfl⟩
 | some x =>
  have hi := ints_at hat
  obtain ⟨n, hn⟩ : ∃ n, n = bs.length := ⟨_, rfl⟩
  have hc := Lib.run_countAt (P := Tryz.prog) w x n cap (bs.map fun n : Nat => (n : Int)) (by simp [hn]) (by rw [hn]; exact hi) 0
  rw [← hn]
  have HN : Hid (n = bs.length) := hn
  have HCT : Hid (Lib.countByte (Lib.bytesOf (bs.map fun n : Nat => (n : Int))) (0 : Int).toNat.toUInt8 = bs.count 0) := count_eq bs hby
  obtain ⟨C, hC⟩ : ∃ C, C = Lib.countByte (Lib.bytesOf (bs.map fun n : Nat => (n : Int))) (0 : Int).toNat.toUInt8 := ⟨_, rfl⟩
  rw [← hC] at hc
  have HC : Hid (C = bs.count 0) := by unfold Hid; rw [hC]; exact HCT.out
  clear hn hi hat hnone hle hl48 hC HCT
  go_enter Tryz.func88, Tryz.ntmps88
  go_wp2
  rw [run_callFunc_extern Tryz.func94 (by kernel_rfl) (by kernel_rfl) (by kernel_rfl) (e := Extern.BytealgCount.count) (by kernel_rfl), hc]
  simp only [Result.andThen]
  rw [Oper.upon_value]
  go_wp2
  go_ret
  rw [← HC.out]
  exact ⟨rfl, rfl⟩

def escL : List Nat → List Nat
 | [] => []
 | c :: r => if c = 0 then 0 :: 255 :: escL r else c :: escL r
def ordL (bs : List Nat) : List Nat := escL bs ++ [0, 1]
theorem escL_append (a b : List Nat) : escL (a ++ b) = escL a ++ escL b := by
 induction a with
 | nil => rfl
 | cons c a ih =>
  simp only [List.cons_append, escL]
  split <;> simp [ih]
theorem escL_len (bs : List Nat) : (escL bs).length = bs.length + bs.count 0 := by
 induction bs with
 | nil => rfl
 | cons c r ih =>
  simp only [escL, List.count_cons]
  by_cases h : c = 0
  ·subst h; simp [ih]; omega
  ·simp [h, ih]; omega
theorem ordL_len (bs : List Nat) : (ordL bs).length = bs.length + bs.count 0 + 2 := by unfold ordL; rw [List.length_append, escL_len]; rfl
theorem escL_bys (bs : List Nat) (h : Bys bs) : Bys (escL bs) := by
 induction bs with
 | nil => intro x hx; simp [escL] at hx
 | cons c r ih =>
  have ih' := ih (fun x hx => h x (by simp [hx]))
  have hc := h c (by simp)
  simp only [escL]
  split
  ·intro x hx
   simp only [List.mem_cons] at hx
   rcases hx with rfl | rfl | hx
   ·omega
   ·omega
   ·exact ih' x hx
  ·intro x hx
   simp only [List.mem_cons] at hx
   rcases hx with rfl | hx
   ·exact hc
   ·exact ih' x hx
theorem ordL_bys (bs : List Nat) (h : Bys bs) : Bys (ordL bs) := (escL_bys bs h).app (by intro x hx; simp at hx; omega)
theorem escL_le (bs : List Nat) (t : Nat) : (escL (bs.take t)).length ≤ (escL bs).length := by
 conv => rhs; rw [← List.take_append_drop t bs, escL_append]
 simp

theorem own_room {w : World} {B : Nat} {v : Value} {m n C m1 : Nat} {xs : List Nat} (h : Own w B v m (xs ++ [0])) (hm : m1 ≤ n + C) (hs : n + C + 2 ≤ 140737488355328) (h1 : m1 = xs.length) : m + 1 ≤ 140737488355328 := by
 have := h.1
 rw [List.length_append] at this
 simp at this
 omega

set_option maxRecDepth 100000 in
set_option maxHeartbeats 1000000 in
theorem ordered_any {v : Value} {bs : List Nat} {w : World} (hr : Rd w v bs) (hl : (ordL bs).length ≤ 140737488355328) :
  Calls Tryz.prog 77 #[v] w fun e w' => ∃ a m c, e = .returned (.slice a m c) ∧ Own w' w.heap.size (.slice a m c) m (ordL bs) ∧ Below w.heap.size w w' := by
 obtain ⟨i0, hi, hz0, hz1, hz2⟩ := info_parts info_byte
 obtain ⟨a, n, cap, rfl⟩ := rd_slice hr
 obtain ⟨hn, hle, hm, hl48⟩ := rd_lens hr
 have HN : Hid (n = bs.length) := hn
 have hol := ordL_len bs
 rw [← hn] at hol
 obtain ⟨C, hC⟩ : ∃ C, C = bs.count 0 := ⟨_, rfl⟩
 rw [← hC] at hol
 have hsum : n + C + 2 ≤ 140737488355328 := by omega
 have HC : Hid (C = bs.count 0) := hC
 have HOL : Hid ((ordL bs).length = n + C + 2) := hol
 clear hn hC hm hol hl
 have A1 := (Below.refl w.heap.size w).alloc (Nat.le_refl _) (.cells #[.int .u8 0] 5)
 have hg : (w.alloc (.cells #[.int .u8 0] 5)).cell? ⟨w.heap.size, 0, none⟩ = some (.int .u8 0) := news_new w [.int .u8 0] 5 0 _ rfl
 go_enter Tryz.func77, Tryz.ntmps77
 go_wp2_with fail
 refine (count_any (hr.later A1) _ hg).mono ?_
 rintro e w1 ⟨rfl, rfl⟩
 rw [← HC.out]
 have hs1 := A1.size
 clear hg
 go_wp2_with (at_make; refine wpList_make_own _ rfl _ _ 34 rfl w.heap.size 5 i0 (.int .u8 0) 1 und_bytes hi hz0 hz1 .i64 .i64 _ (n + C + 2) rfl rfl ?c0 ?c1 ?c2 ?c3 ?_)
 case c0 => omega
 case c1 => rw [hz2]; omega
 case c2 => unfold maxLen; omega
 case c3 => exact hs1
 intro w2 hown2 hg2
 have hb2 : Below w.heap.size w w2 := A1.grown hg2 hs1 (fun k hk => by simp at hk)
 clear hg2 A1 hs1
 have own2 : Own w2 w.heap.size (.slice (some ⟨w.heap.size + 1, 0, none⟩) 0 (n + C + 2)) 0 [] := ⟨rfl, hown2⟩
 clear hown2
 go_wp2
 go_loopw [3, 16] (fun s i wr => ∃ t a m c, t ≤ n ∧ i = .int .i64 ((t : Nat) : Int) ∧ s = .slice a m c ∧ Own wr w.heap.size (.slice a m c) m (escL (bs.take t)) ∧ Below w.heap.size w wr) (fun _ i _ => n - (intOf i).toNat)
 case atStart => exact ⟨0, _, _, _, Nat.zero_le _, rfl, rfl, own2, hb2⟩
 case round =>
  obtain ⟨t, a1, m1, c1, htl, rfl, rfl, own1, hb1⟩ := hrel
  have hs1 := hb1.size
  have hme := escL_le bs t
  have hm1 : m1 ≤ n + C := by
   rw [own1.1]
   have := HOL.out
   unfold ordL at this
   rw [List.length_append] at this
   simp at this
   omega
  clear hme
  by_cases hlt : t < n
  ·have hlt2 : (t : Int) < (n : Int) := by omega
   rcases rd_some hr with ⟨_, h0, _⟩ | ⟨b, off, rfl⟩
   ·omega
   obtain ⟨hcell0, hcl⟩ := rd_cell hr t hlt
   have hcell : wr.cell? ⟨b, off + t, none⟩ = some (.int .u8 ((bs.getD t 0 : Nat) : Int)) := by
    rw [hb1.cell (p := ⟨b, off + t, none⟩) (World.block_lt_of_cell? w _ hcell0)]; exact hcell0
   have htk := take_succ_getD bs t (by rw [← HN.out]; exact hlt)
   obtain ⟨c, hcd⟩ : ∃ c, c = bs.getD t 0 := ⟨_, rfl⟩
   rw [← hcd] at hcell hcl htk
   have HTK : Hid (bs.take (t + 1) = bs.take t ++ [c]) := htk
   clear hcd htk hcell0
   by_cases hc0 : c = 0
   ·subst hc0
    have HE : Hid (escL (bs.take (t + 1)) = (escL (bs.take t) ++ [0]) ++ [255]) := by
     unfold Hid; rw [HTK.out, escL_append]; simp [escL]
    go_wp2_with (first
     | (at_builtin; refine wpList_append_new rfl (.tmp 20) _ rfl w.heap.size a1 m1 c1 _ rfl own1 [_] 1 rfl [0] rfl rfl (by omega) hs1 ?_; intro a3 m3 c3 w3 own3 hb3)
     | (at_builtin; refine wpList_append_new rfl (.tmp 26) _ rfl w.heap.size a3 m3 c3 _ rfl own3 [_] 1 rfl [255] rfl rfl (own_room own3 hm1 hsum own1.1) (hb1.trans hb3).size ?_; intro a4 m4 c4 w4 own4 hb4))
    go_roundw
    case rel => exact ⟨t + 1, a4, m4, c4, by omega, by go_num, rfl, by rw [HE.out]; exact own4, (hb1.trans hb3).trans hb4⟩
    case measure => simp [intOf]; omega
   ·have HE : Hid (escL (bs.take (t + 1)) = escL (bs.take t) ++ [c]) := by
     unfold Hid; rw [HTK.out, escL_append]; simp [escL, hc0]
    have hcb : ((c : Int) == 0) = false := by simp; omega
    clear hc0
    go_wp2_with (at_builtin; refine wpList_append_new rfl (.tmp 20) _ rfl w.heap.size a1 m1 c1 _ rfl own1 [_] 1 rfl [c] rfl rfl (by omega) hs1 ?_; intro a3 m3 c3 w3 own3 hb3)
    go_roundw
    case rel => exact ⟨t + 1, a3, m3, c3, by omega, by go_num, rfl, by rw [HE.out]; exact own3, hb1.trans hb3⟩
    case measure => simp [intOf]; omega
  ·have hge : (n : Int) ≤ (t : Int) := by omega
   have HE : Hid (escL (bs.take t) = escL bs) := by unfold Hid; rw [List.take_of_length_le (by rw [← HN.out]; omega)]
   go_wp2_with (at_builtin; refine wpList_append_new rfl (.tmp 30) _ rfl w.heap.size a1 m1 c1 _ rfl own1 [_, _] 2 rfl [0, 1] rfl rfl (by omega) hs1 ?_; intro a3 m3 c3 w3 own3 hb3)
   go_ret
   refine ⟨a3, m3, c3, rfl, ?_, hb1.trans hb3⟩
   unfold ordL
   rw [← HE.out]
   exact own3

def zi : List Nat → Int
 | [] => -1
 | b :: l => if b = 0 then 0 else if zi l = -1 then -1 else zi l + 1
end Go.Proofs.YtpabbnddeklpdaaGreat

namespace Go.Proofs.YtpabbnddeklpdaaGreat
open Go.RowKit
set_option linter.unusedVariables false

def rord : List Nat → List Nat → Nat → List Nat × Nat × Nat
 | [], _, _ => ([], 0, 10)
 | [c], acc, i => ([], 0, 10)
 | c :: d :: r, acc, i => if c ≠ 0 then rord (d :: r) (acc ++ [c]) (i + 1) else if d = 1 then (acc, i + 2, 0) else if d = 255 then rord r (acc ++ [0]) (i + 2) else ([], 0, 11)
def ordR (bs : List Nat) (k : Nat) : List Nat × Nat × Nat :=
 ((rord (bs.drop k) [] 0).1, if (rord (bs.drop k) [] 0).2.2 = 0 then k + (rord (bs.drop k) [] 0).2.1 else 0, (rord (bs.drop k) [] 0).2.2)

theorem drop_cons' (l : List Nat) (t : Nat) (h : t < l.length) : l.drop t = l.getD t 0 :: l.drop (t + 1) := by
 rw [List.drop_eq_getElem_cons h]; simp [List.getD, List.getElem?_eq_getElem h]

end Go.Proofs.YtpabbnddeklpdaaGreat

namespace Go.Proofs.YtpabbnddeklpdaaGreat
open Go.RowKit
set_option linter.unusedVariables false

structure EntD where
 vr : Value
 fam : Int
 vq : Value
 ts : Int
 seq : Int
 kind : Int
 vv : Value
 row : List Nat
 qual : List Nat
 val : List Nat
def EntD.cells (e : EntD) : Array Value := #[e.vr, .int .i64 e.fam, e.vq, .int .i64 e.ts, .int .i64 e.seq, .int .i64 e.kind, e.vv]
def EntD.Ok (w : World) (e : EntD) : Prop := Rd w e.vr e.row ∧ Rd w e.vq e.qual ∧ Rd w e.vv e.val
theorem EntD.Ok.later {w w' : World} {e : EntD} (h : EntD.Ok w e) (hb : Below w.heap.size w w') : EntD.Ok w' e := ⟨h.1.later hb, h.2.1.later hb, h.2.2.later hb⟩

def checkS (e : EntD) : Nat :=
 if e.row.length = 0 ∨ 256 < e.row.length then 20
 else if e.fam < 0 ∨ 8 ≤ e.fam then 21
 else if 256 < e.qual.length ∨ (0 < e.qual.length ∧ e.kind = 5) then 22
 else if e.ts < 1 ∨ 1099511627776 < e.ts then 23
 else if e.seq < 0 ∨ 17592186044431 < e.seq then 24
 else if e.kind < 1 ∨ 5 < e.kind then 25
 else if 4096 < e.val.length ∨ (0 < e.val.length ∧ e.kind ≠ 1) then 26
 else 0

set_option maxRecDepth 100000 in
theorem isRow_any {a : Option Addr} {n cap : Nat} {w : World} (hn : n ≤ 281474976710656) :
  Calls Tryz.prog 87 #[.slice a n cap] w fun e w' => e = .returned (.bool (decide (0 < n ∧ n ≤ 256))) ∧ w' = w := by
 by_cases h : 0 < n
 ·have h1 : (0 : Int) < (n : Int) := by omega
  go_enter Tryz.func87, Tryz.ntmps87
  go_wp2
  go_ret
  refine ⟨?_, rfl⟩
  by_cases h2 : n ≤ 256
  ·rw [decide_eq_true (show 0 < n ∧ n ≤ 256 from ⟨h, h2⟩)]; simp; omega
  ·rw [decide_eq_false (show ¬ (0 < n ∧ n ≤ 256) from fun h3 => h2 h3.2)]; simp; omega
 ·have h1 : (n : Int) ≤ 0 := by omega
  have h0 : n = 0 := by omega
  subst h0
  go_enter Tryz.func87, Tryz.ntmps87
  go_wp2
  go_ret
  exact ⟨by first | rfl | simp, rfl⟩
set_option maxRecDepth 100000 in
theorem markOf_any (k a : Int) (w : World) : Calls Tryz.prog 78 #[.int .i64 k, .int .i64 a] w fun e w' => e = .returned (.int .u8 (((if k = a then 0 else 1 : Nat) : Nat) : Int)) ∧ w' = w := by
 by_cases h : k = a
 ·subst h
  go_enter Tryz.func78, Tryz.ntmps78
  go_wp2
  go_ret
  exact ⟨by simp, rfl⟩
 ·have h1 : (k == a) = false := by simp; exact h
  go_enter Tryz.func78, Tryz.ntmps78
  go_wp2
  go_ret
  exact ⟨by first | (rw [if_neg h]; rfl) | (simp; done) | simp [h], rfl⟩

set_option maxRecDepth 100000 in
set_option maxHeartbeats 4000000 in
theorem check_any {e : EntD} {w : World} (hok : EntD.Ok w e) :
  Calls Tryz.prog 76 #[.agg e.cells] w fun r w' => r = .returned (.int .i64 ((checkS e : Nat) : Int)) ∧ Below w.heap.size w w' := by
 obtain ⟨vr, fam, vq, ts, seq, kind, vv, row, qual, val⟩ := e
 obtain ⟨h1, h2, h3⟩ := hok
 simp only [EntD.cells] at *
 obtain ⟨ar, nr, cr, rfl⟩ := rd_slice h1
 obtain ⟨aq, nq, cq, rfl⟩ := rd_slice h2
 obtain ⟨av, nv, cv, rfl⟩ := rd_slice h3
 obtain ⟨er, _, _, lr⟩ := rd_lens h1
 obtain ⟨eq, _, _, lq⟩ := rd_lens h2
 obtain ⟨ev, _, _, lv⟩ := rd_lens h3
 have A1 := (Below.refl w.heap.size w).alloc (Nat.le_refl _) (.cells #[.slice ar nr cr, .int .i64 fam, .slice aq nq cq, .int .i64 ts, .int .i64 seq, .int .i64 kind, .slice av nv cv] 38)
 obtain ⟨S, hS⟩ : ∃ S, S = checkS ⟨.slice ar nr cr, fam, .slice aq nq cq, ts, seq, kind, .slice av nv cv, row, qual, val⟩ := ⟨_, rfl⟩
 rw [← hS]
 unfold checkS at hS
 simp only at hS
 rw [← er, ← eq, ← ev] at hS
 have HS : Hid (S = _) := hS
 clear hS er eq ev h1 h2 h3
 by_cases c1 : 0 < nr ∧ nr ≤ 256
 ·have d1 : decide (0 < nr ∧ nr ≤ 256) = true := by simp; omega
  by_cases c2a : fam < 0
  ·have HE : Hid (S = 21) := by unfold Hid; rw [HS.out]; repeat (first | rw [if_pos (by omega)] | rw [if_neg (by omega)])
   clear HS
   go_enter Tryz.func76, Tryz.ntmps76
   go_wp2_with fail
   refine (isRow_any lr).mono ?_
   rintro e1 w1 ⟨rfl, rfl⟩
   rw [d1]
   go_wp2
   go_ret
   exact ⟨by rw [HE.out]; rfl, A1⟩
  ·have c2q : 0 ≤ fam := by omega
   by_cases c2b : 8 ≤ fam
   ·have HE : Hid (S = 21) := by unfold Hid; rw [HS.out]; repeat (first | rw [if_pos (by omega)] | rw [if_neg (by omega)])
    clear HS
    go_enter Tryz.func76, Tryz.ntmps76
    go_wp2_with fail
    refine (isRow_any lr).mono ?_
    rintro e1 w1 ⟨rfl, rfl⟩
    rw [d1]
    go_wp2
    go_ret
    exact ⟨by rw [HE.out]; rfl, A1⟩
   ·have c2p : fam < 8 := by omega
    by_cases c3a : 256 < nq
    ·have q1 : (256 : Int) < (nq : Int) := by omega
     have HE : Hid (S = 22) := by unfold Hid; rw [HS.out]; repeat (first | rw [if_pos (by omega)] | rw [if_neg (by omega)])
     clear HS
     go_enter Tryz.func76, Tryz.ntmps76
     go_wp2_with fail
     refine (isRow_any lr).mono ?_
     rintro e1 w1 ⟨rfl, rfl⟩
     rw [d1]
     go_wp2
     go_ret
     exact ⟨by rw [HE.out]; rfl, A1⟩
    ·have q1 : (nq : Int) ≤ 256 := by omega
     by_cases c3b : 0 < nq
     ·have q0 : (0 : Int) < (nq : Int) := by omega
      by_cases c3c : kind = 5
      ·subst c3c
       have HE : Hid (S = 22) := by unfold Hid; rw [HS.out]; repeat (first | rw [if_pos (by omega)] | rw [if_neg (by omega)])
       clear HS
       go_enter Tryz.func76, Tryz.ntmps76
       go_wp2_with fail
       refine (isRow_any lr).mono ?_
       rintro e1 w1 ⟨rfl, rfl⟩
       rw [d1]
       go_wp2
       go_ret
       exact ⟨by rw [HE.out]; rfl, A1⟩
      ·have k5 : (kind == 5) = false := by simp; omega
       by_cases c4a : ts < 1
       ·have HE : Hid (S = 23) := by unfold Hid; rw [HS.out]; repeat (first | rw [if_pos (by omega)] | rw [if_neg (by omega)])
        clear HS
        go_enter Tryz.func76, Tryz.ntmps76
        go_wp2_with fail
        refine (isRow_any lr).mono ?_
        rintro e1 w1 ⟨rfl, rfl⟩
        rw [d1]
        go_wp2
        go_ret
        exact ⟨by rw [HE.out]; rfl, A1⟩
       ·have c4q : 1 ≤ ts := by omega
        by_cases c4b : 1099511627776 < ts
        ·have HE : Hid (S = 23) := by unfold Hid; rw [HS.out]; repeat (first | rw [if_pos (by omega)] | rw [if_neg (by omega)])
         clear HS
         go_enter Tryz.func76, Tryz.ntmps76
         go_wp2_with fail
         refine (isRow_any lr).mono ?_
         rintro e1 w1 ⟨rfl, rfl⟩
         rw [d1]
         go_wp2
         go_ret
         exact ⟨by rw [HE.out]; rfl, A1⟩
        ·have c4p : ts ≤ 1099511627776 := by omega
         by_cases c5a : seq < 0
         ·have HE : Hid (S = 24) := by unfold Hid; rw [HS.out]; repeat (first | rw [if_pos (by omega)] | rw [if_neg (by omega)])
          clear HS
          go_enter Tryz.func76, Tryz.ntmps76
          go_wp2_with fail
          refine (isRow_any lr).mono ?_
          rintro e1 w1 ⟨rfl, rfl⟩
          rw [d1]
          go_wp2
          go_ret
          exact ⟨by rw [HE.out]; rfl, A1⟩
         ·have c5q : 0 ≤ seq := by omega
          by_cases c5b : 17592186044431 < seq
          ·have HE : Hid (S = 24) := by unfold Hid; rw [HS.out]; repeat (first | rw [if_pos (by omega)] | rw [if_neg (by omega)])
           clear HS
           go_enter Tryz.func76, Tryz.ntmps76
           go_wp2_with fail
           refine (isRow_any lr).mono ?_
           rintro e1 w1 ⟨rfl, rfl⟩
           rw [d1]
           go_wp2
           go_ret
           exact ⟨by rw [HE.out]; rfl, A1⟩
          ·have c5p : seq ≤ 17592186044431 := by omega
           by_cases c6a : kind < 1
           ·have HE : Hid (S = 25) := by unfold Hid; rw [HS.out]; repeat (first | rw [if_pos (by omega)] | rw [if_neg (by omega)])
            clear HS
            go_enter Tryz.func76, Tryz.ntmps76
            go_wp2_with fail
            refine (isRow_any lr).mono ?_
            rintro e1 w1 ⟨rfl, rfl⟩
            rw [d1]
            go_wp2
            go_ret
            exact ⟨by rw [HE.out]; rfl, A1⟩
           ·have c6q : 1 ≤ kind := by omega
            by_cases c6b : 5 < kind
            ·have HE : Hid (S = 25) := by unfold Hid; rw [HS.out]; repeat (first | rw [if_pos (by omega)] | rw [if_neg (by omega)])
             clear HS
             go_enter Tryz.func76, Tryz.ntmps76
             go_wp2_with fail
             refine (isRow_any lr).mono ?_
             rintro e1 w1 ⟨rfl, rfl⟩
             rw [d1]
             go_wp2
             go_ret
             exact ⟨by rw [HE.out]; rfl, A1⟩
            ·have c6p : kind ≤ 5 := by omega
             by_cases c7a : 4096 < nv
             ·have v1 : (4096 : Int) < (nv : Int) := by omega
              have HE : Hid (S = 26) := by unfold Hid; rw [HS.out]; repeat (first | rw [if_pos (by omega)] | rw [if_neg (by omega)])
              clear HS
              go_enter Tryz.func76, Tryz.ntmps76
              go_wp2_with fail
              refine (isRow_any lr).mono ?_
              rintro e1 w1 ⟨rfl, rfl⟩
              rw [d1]
              go_wp2
              go_ret
              exact ⟨by rw [HE.out]; rfl, A1⟩
             ·have v1 : (nv : Int) ≤ 4096 := by omega
              by_cases c7b : 0 < nv
              ·have v0 : (0 : Int) < (nv : Int) := by omega
               by_cases c7c : kind = 1
               ·subst c7c
                have HE : Hid (S = 0) := by unfold Hid; rw [HS.out]; repeat (first | rw [if_pos (by omega)] | rw [if_neg (by omega)])
                clear HS
                go_enter Tryz.func76, Tryz.ntmps76
                go_wp2_with fail
                refine (isRow_any lr).mono ?_
                rintro e1 w1 ⟨rfl, rfl⟩
                rw [d1]
                go_wp2
                go_ret
                exact ⟨by rw [HE.out]; rfl, A1⟩
               ·have k1 : (kind == 1) = false := by simp; omega
                have k1n : (kind != 1) = true := by simp; omega
                have HE : Hid (S = 26) := by unfold Hid; rw [HS.out]; repeat (first | rw [if_pos (by omega)] | rw [if_neg (by omega)])
                clear HS
                go_enter Tryz.func76, Tryz.ntmps76
                go_wp2_with fail
                refine (isRow_any lr).mono ?_
                rintro e1 w1 ⟨rfl, rfl⟩
                rw [d1]
                go_wp2
                go_ret
                exact ⟨by rw [HE.out]; rfl, A1⟩
              ·have v0 : (nv : Int) ≤ 0 := by omega
               have HE : Hid (S = 0) := by unfold Hid; rw [HS.out]; repeat (first | rw [if_pos (by omega)] | rw [if_neg (by omega)])
               clear HS
               go_enter Tryz.func76, Tryz.ntmps76
               go_wp2_with fail
               refine (isRow_any lr).mono ?_
               rintro e1 w1 ⟨rfl, rfl⟩
               rw [d1]
               go_wp2
               go_ret
               exact ⟨by rw [HE.out]; rfl, A1⟩
     ·have q0 : (nq : Int) ≤ 0 := by omega
      by_cases c4a : ts < 1
      ·have HE : Hid (S = 23) := by unfold Hid; rw [HS.out]; repeat (first | rw [if_pos (by omega)] | rw [if_neg (by omega)])
       clear HS
       go_enter Tryz.func76, Tryz.ntmps76
       go_wp2_with fail
       refine (isRow_any lr).mono ?_
       rintro e1 w1 ⟨rfl, rfl⟩
       rw [d1]
       go_wp2
       go_ret
       exact ⟨by rw [HE.out]; rfl, A1⟩
      ·have c4q : 1 ≤ ts := by omega
       by_cases c4b : 1099511627776 < ts
       ·have HE : Hid (S = 23) := by unfold Hid; rw [HS.out]; repeat (first | rw [if_pos (by omega)] | rw [if_neg (by omega)])
        clear HS
        go_enter Tryz.func76, Tryz.ntmps76
        go_wp2_with fail
        refine (isRow_any lr).mono ?_
        rintro e1 w1 ⟨rfl, rfl⟩
        rw [d1]
        go_wp2
        go_ret
        exact ⟨by rw [HE.out]; rfl, A1⟩
       ·have c4p : ts ≤ 1099511627776 := by omega
        by_cases c5a : seq < 0
        ·have HE : Hid (S = 24) := by unfold Hid; rw [HS.out]; repeat (first | rw [if_pos (by omega)] | rw [if_neg (by omega)])
         clear HS
         go_enter Tryz.func76, Tryz.ntmps76
         go_wp2_with fail
         refine (isRow_any lr).mono ?_
         rintro e1 w1 ⟨rfl, rfl⟩
         rw [d1]
         go_wp2
         go_ret
         exact ⟨by rw [HE.out]; rfl, A1⟩
        ·have c5q : 0 ≤ seq := by omega
         by_cases c5b : 17592186044431 < seq
         ·have HE : Hid (S = 24) := by unfold Hid; rw [HS.out]; repeat (first | rw [if_pos (by omega)] | rw [if_neg (by omega)])
          clear HS
          go_enter Tryz.func76, Tryz.ntmps76
          go_wp2_with fail
          refine (isRow_any lr).mono ?_
          rintro e1 w1 ⟨rfl, rfl⟩
          rw [d1]
          go_wp2
          go_ret
          exact ⟨by rw [HE.out]; rfl, A1⟩
         ·have c5p : seq ≤ 17592186044431 := by omega
          by_cases c6a : kind < 1
          ·have HE : Hid (S = 25) := by unfold Hid; rw [HS.out]; repeat (first | rw [if_pos (by omega)] | rw [if_neg (by omega)])
           clear HS
           go_enter Tryz.func76, Tryz.ntmps76
           go_wp2_with fail
           refine (isRow_any lr).mono ?_
           rintro e1 w1 ⟨rfl, rfl⟩
           rw [d1]
           go_wp2
           go_ret
           exact ⟨by rw [HE.out]; rfl, A1⟩
          ·have c6q : 1 ≤ kind := by omega
           by_cases c6b : 5 < kind
           ·have HE : Hid (S = 25) := by unfold Hid; rw [HS.out]; repeat (first | rw [if_pos (by omega)] | rw [if_neg (by omega)])
            clear HS
            go_enter Tryz.func76, Tryz.ntmps76
            go_wp2_with fail
            refine (isRow_any lr).mono ?_
            rintro e1 w1 ⟨rfl, rfl⟩
            rw [d1]
            go_wp2
            go_ret
            exact ⟨by rw [HE.out]; rfl, A1⟩
           ·have c6p : kind ≤ 5 := by omega
            by_cases c7a : 4096 < nv
            ·have v1 : (4096 : Int) < (nv : Int) := by omega
             have HE : Hid (S = 26) := by unfold Hid; rw [HS.out]; repeat (first | rw [if_pos (by omega)] | rw [if_neg (by omega)])
             clear HS
             go_enter Tryz.func76, Tryz.ntmps76
             go_wp2_with fail
             refine (isRow_any lr).mono ?_
             rintro e1 w1 ⟨rfl, rfl⟩
             rw [d1]
             go_wp2
             go_ret
             exact ⟨by rw [HE.out]; rfl, A1⟩
            ·have v1 : (nv : Int) ≤ 4096 := by omega
             by_cases c7b : 0 < nv
             ·have v0 : (0 : Int) < (nv : Int) := by omega
              by_cases c7c : kind = 1
              ·subst c7c
               have HE : Hid (S = 0) := by unfold Hid; rw [HS.out]; repeat (first | rw [if_pos (by omega)] | rw [if_neg (by omega)])
               clear HS
               go_enter Tryz.func76, Tryz.ntmps76
               go_wp2_with fail
               refine (isRow_any lr).mono ?_
               rintro e1 w1 ⟨rfl, rfl⟩
               rw [d1]
               go_wp2
               go_ret
               exact ⟨by rw [HE.out]; rfl, A1⟩
              ·have k1 : (kind == 1) = false := by simp; omega
               have k1n : (kind != 1) = true := by simp; omega
               have HE : Hid (S = 26) := by unfold Hid; rw [HS.out]; repeat (first | rw [if_pos (by omega)] | rw [if_neg (by omega)])
               clear HS
               go_enter Tryz.func76, Tryz.ntmps76
               go_wp2_with fail
               refine (isRow_any lr).mono ?_
               rintro e1 w1 ⟨rfl, rfl⟩
               rw [d1]
               go_wp2
               go_ret
               exact ⟨by rw [HE.out]; rfl, A1⟩
             ·have v0 : (nv : Int) ≤ 0 := by omega
              have HE : Hid (S = 0) := by unfold Hid; rw [HS.out]; repeat (first | rw [if_pos (by omega)] | rw [if_neg (by omega)])
              clear HS
              go_enter Tryz.func76, Tryz.ntmps76
              go_wp2_with fail
              refine (isRow_any lr).mono ?_
              rintro e1 w1 ⟨rfl, rfl⟩
              rw [d1]
              go_wp2
              go_ret
              exact ⟨by rw [HE.out]; rfl, A1⟩
 ·have d1 : decide (0 < nr ∧ nr ≤ 256) = false := by simp; omega
  have HE : Hid (S = 20) := by unfold Hid; rw [HS.out]; repeat (first | rw [if_pos (by omega)] | rw [if_neg (by omega)])
  clear HS
  go_enter Tryz.func76, Tryz.ntmps76
  go_wp2_with fail
  refine (isRow_any lr).mono ?_
  rintro e1 w1 ⟨rfl, rfl⟩
  rw [d1]
  go_wp2
  go_ret
  exact ⟨by rw [HE.out]; rfl, A1⟩

end Go.Proofs.YtpabbnddeklpdaaGreat
