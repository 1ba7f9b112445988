import Derived.Test.YthhkpkfpifllkaaGreatProg
import Derived.WalkKit
import Derived.WalkSpells
import Derived.WalkLawsBesides
import Derived.Laws.BytesArg
import Derived.Laws.BitsAllLaws
import Derived.RowKit
import Derived.Deep.QuietTactic
import Derived.BigQuiet
import Derived.Laws.AppendOwnNone
import Derived.Shelf.Bytes.SlCountOne
import Derived.Deep.RegionHeld3
import Derived.Lib.Bytealg
namespace Go.Proofs.YthhkpkfpifllkaaGreat
open Go.RowKit
set_option linter.unusedVariables false

theorem und_bytes : Tryz.prog.underlying 82 = some (.slice 5) := by kernel_rfl
theorem und_byte : Tryz.prog.underlying 5 = some (.int .u8) := by kernel_rfl
theorem und_string : Tryz.prog.underlying 9 = some .string := by kernel_rfl
theorem info_byte : (Tryz.prog.info? 5).map (fun i => (i.zero, i.size, i.bytes)) = some (some (.int .u8 0), 1, 1) := by kernel_rfl

def bv (bs : List Nat) : List Value := bs.map fun n : Nat => Value.int .u8 (n : Int)

theorem bv_length (bs : List Nat) : (bv bs).length = bs.length := by simp [bv]
theorem bv_append (a b : List Nat) : bv (a ++ b) = bv a ++ bv b := by simp [bv]
theorem bv_oneCell (bs : List Nat) : ∀ u ∈ bv bs, u.oneCell' = true := by
  intro u hu
  simp only [bv, List.mem_map] at hu
  obtain ⟨n, _, rfl⟩ := hu
  rfl
theorem bv_get (bs : List Nat) (j : Nat) (u : Value) (h : (bv bs)[j]? = some u) : j < bs.length ∧ u = .int .u8 ((bs.getD j 0 : Nat) : Int) := by
  simp only [bv, List.getElem?_map, Option.map_eq_some_iff] at h
  obtain ⟨n, hn, rfl⟩ := h
  obtain ⟨hj, rfl⟩ := List.getElem?_eq_some_iff.1 hn
  exact ⟨hj, by simp [List.getD, List.getElem?_eq_getElem hj]⟩

def Bys (bs : List Nat) : Prop := ∀ x ∈ bs, x < 256

def At (w : World) (a : Option Addr) (bs : List Nat) : Prop :=
  bs = [] ∨ ∃ b off, a = some ⟨b, off, none⟩ ∧ ∀ i, i < bs.length → w.cell? ⟨b, off + i, none⟩ = some (.int .u8 ((bs.getD i 0 : Nat) : Int))

def Rd (w : World) (v : Value) (bs : List Nat) : Prop :=
  Bys bs ∧ ∃ a cap, v = .slice a bs.length cap ∧ bs.length ≤ cap ∧ cap ≤ maxLen ∧ bs.length ≤ 281474976710656 ∧ (cap = 0 ∨ ∃ b off, a = some ⟨b, off, none⟩) ∧ At w a bs

theorem At.later {w w' : World} {a : Option Addr} {bs : List Nat} (h : At w a bs) (hb : Below w.heap.size w w') : At w' a bs := by
  rcases h with h | ⟨b, off, rfl, hc⟩
  · exact .inl h
  · refine .inr ⟨b, off, rfl, fun i hi => ?_⟩
    have := hc i hi
    rw [hb.cell (p := ⟨b, off + i, none⟩) (World.block_lt_of_cell? w _ this)]
    exact this

theorem At.add {w : World} {x : Addr} {bs : List Nat} (h : At w (some x) bs) : ∀ j u, (bv bs)[j]? = some u → w.cell? (x.add j) = some u := by
  intro j u hj
  obtain ⟨hjl, rfl⟩ := bv_get bs j u hj
  rcases h with rfl | ⟨b, off, h2, hc⟩
  · simp at hjl
  · cases h2
    have : (⟨b, off, none⟩ : Addr).add j = ⟨b, off + j, none⟩ := by unfold Addr.add; split <;> simp_all
    rw [this]
    exact hc j hjl

theorem Rd.later {w w' : World} {v : Value} {bs : List Nat} (h : Rd w v bs) (hb : Below w.heap.size w w') : Rd w' v bs := by
  obtain ⟨h1, a, cap, h2, h3, h4, h5, h6, h7⟩ := h
  exact ⟨h1, a, cap, h2, h3, h4, h5, h6, h7.later hb⟩

theorem Rd.nil (w : World) : Rd w (.slice none 0 0) [] := ⟨by intro x hx; simp at hx, none, 0, rfl, Nat.le_refl _, Nat.zero_le _, by simp, .inl rfl, .inl rfl⟩
theorem Rd.of_owns {w : World} {base n : Nat} {v : Value} {bs : List Nat} (hn : n = bs.length) (h : w.ownsRow base 5 1 v n (bv bs)) (hb : Bys bs) (hlen : n ≤ 281474976710656) : Rd w v bs := by
  subst hn
  refine ⟨hb, ?_⟩
  rcases h.2 with ⟨rfl, hn⟩ | ⟨g, cap, cur, rfl, _, hg, hle, hm, hsz, htk⟩
  · exact ⟨none, 0, by simp [hn], by omega, Nat.zero_le _, hlen, .inl rfl, .inl (List.eq_nil_of_length_eq_zero hn)⟩
  · refine ⟨_, cap, rfl, hle, hm, hlen, .inr ⟨g, 0, rfl⟩, .inr ⟨g, 0, rfl, fun i hi => ?_⟩⟩
    have hx : (bv bs)[i]? = some (.int .u8 ((bs.getD i 0 : Nat) : Int)) := by
      simp [bv, List.getElem?_eq_getElem hi]
    rw [← htk] at hx
    have hx2 : cur[i]? = some (.int .u8 ((bs.getD i 0 : Nat) : Int)) := by
      rw [List.getElem?_take_of_lt (by omega)] at hx
      simpa using hx
    simp [World.cell?, hg, hx2]

def Own (w : World) (B : Nat) (v : Value) (m : Nat) (xs : List Nat) : Prop := m = xs.length ∧ w.ownsRow B 5 1 v m (bv xs)
theorem Own.len {w : World} {B : Nat} {v : Value} {m : Nat} {xs : List Nat} (h : Own w B v m xs) : m = xs.length := h.1
theorem Own.rd {w : World} {B : Nat} {v : Value} {m : Nat} {xs : List Nat} (h : Own w B v m xs) (hb : Bys xs) (hl : m ≤ 281474976710656) : Rd w v xs := Rd.of_owns h.1 h.2 hb hl
theorem Own.mono {w : World} {B B' : Nat} {v : Value} {m : Nat} {xs : List Nat} (h : Own w B v m xs) (hB : B' ≤ B) : Own w B' v m xs := by
  refine ⟨h.1, h.2.1, ?_⟩
  rcases h.2.2 with h2 | ⟨g, cap, cur, h3, h4, h5⟩
  · exact .inl h2
  · exact .inr ⟨g, cap, cur, h3, Nat.le_trans hB h4, h5⟩
theorem Own.later {w w' : World} {B : Nat} {v : Value} {m : Nat} {xs : List Nat} (h : Own w B v m xs) (hb : Below w.heap.size w w') : Own w' B v m xs := by
  refine ⟨h.1, h.2.1, ?_⟩
  rcases h.2.2 with h2 | ⟨g, cap, cur, h3, h4, h5, h6⟩
  · exact .inl h2
  · exact .inr ⟨g, cap, cur, h3, h4, by rw [hb.block g (Array.getElem?_eq_some_iff.1 h5).1]; exact h5, h6⟩
theorem own_form {w : World} {B n : Nat} {v : Value} {xs : List Value} (h : w.ownsRow B 5 1 v n xs) : ∃ a c, v = .slice a n c := by
  rcases h.2 with ⟨rfl, rfl⟩ | ⟨g, cap, cur, rfl, _⟩
  · exact ⟨_, _, rfl⟩
  · exact ⟨_, _, rfl⟩
theorem handed {P : Program} {f : Nat} {args : Array Value} {w : World} {B : Nat} {L : List Nat}
    (h : Calls P f args w fun e w' => ∃ s, e = .returned s ∧ w'.ownsRow B 5 1 s L.length (bv L) ∧ Below B w w') :
    Calls P f args w fun e w' => ∃ a m c, e = .returned (.slice a m c) ∧ Own w' B (.slice a m c) m L ∧ Below B w w' := by
  refine h.mono ?_
  rintro e w' ⟨s, rfl, ho, hb⟩
  obtain ⟨a, c, rfl⟩ := own_form ho
  exact ⟨a, L.length, c, rfl, ⟨rfl, ho⟩, hb⟩

def str (bs : List Nat) : ByteArray := strOfNums (bs.map fun n : Nat => (n : Int))

theorem str_inj {a b : List Nat} (ha : Bys a) (hb : Bys b) (h : str a = str b) : a = b := by
  have h2 : (a.map fun n => UInt8.ofNat n) = (b.map fun n => UInt8.ofNat n) := by
    simpa [str, strOfNums, Function.comp_def] using h
  have key : ∀ (x : List Nat), Bys x → (x.map fun n => UInt8.ofNat n).map UInt8.toNat = x := by
    intro x hx
    rw [List.map_map]
    conv => rhs; rw [← List.map_id x]
    apply List.map_congr_left
    intro n hn
    have := hx n hn
    simp [Nat.mod_eq_of_lt this]
  rw [← key a ha, ← key b hb, h2]

theorem conv_none (w : World) (a : Option Addr) (c : Nat) : (convert 82 9 (.slice a 0 c)).run Tryz.prog w = .ok (.string (str [])) w := by
  rw [run_convert_bytes_string w _ _ _ a 0 c und_bytes und_byte und_string]
  unfold Conv.bytesToString
  cases a with
  | none => rfl
  | some x => rfl
theorem conv_str {w : World} {v : Value} {bs : List Nat} (h : Rd w v bs) : (convert 82 9 v).run Tryz.prog w = .ok (.string (str bs)) w := by
  obtain ⟨_, a, cap, rfl, hle, hm, _, hn, ha⟩ := h
  rcases ha with rfl | ⟨b, off, rfl, hc⟩
  · exact conv_none w a cap
  · refine run_convert_bytes_arg w _ _ und_bytes und_byte b off _ cap _ (by simp) (fun i hi => ?_) _ und_string
    rw [hc i hi]
    simp [List.getElem?_eq_getElem hi]

theorem beq_str {a b : List Nat} (ha : Bys a) (hb : Bys b) : ((str a).toList == (str b).toList) = decide (a = b) := by
  rw [ByteArray.toList_eq, ByteArray.toList_eq]
  by_cases h : a = b
  · subst h; simp
  · have h2 : str a ≠ str b := fun e => h (str_inj ha hb e)
    have h3 : (str a).data.toList ≠ (str b).data.toList := by
      intro e
      apply h2
      have e2 := Array.toList_inj.1 e
      cases hx : str a; cases hy : str b
      rw [hx, hy] at e2
      simp_all
    simp [h]
    simpa using h3

set_option maxRecDepth 100000 in
theorem num_any (n : Int) (w : World) : Calls Tryz.prog 17 #[.int .i64 n] w fun e w' => e = .returned (.int .i64 n) ∧ w' = w := by
  go_enter Tryz.func17, Tryz.ntmps17
  go_wp2
  go_ret
  exact ⟨rfl, rfl⟩

end Go.Proofs.YthhkpkfpifllkaaGreat

namespace Go.Proofs.YthhkpkfpifllkaaGreat
open Go.RowKit
set_option linter.unusedVariables false

def uintF : Nat → Nat → List Nat
  | 0, v => [v]
  | f + 1, v => if 127 < v then (v % 128 + 128) :: uintF f (v / 128) else [v]
def uintL (v : Nat) : List Nat := uintF 9 v

def tab : List Nat := [0, 274646895, 549293790, 820201905, 1098587580, 1361435347, 1640403810, 1905808397, 2197175160, 2460548119, 2722870694, 2987750089, 3280807620, 3553878443, 3811616794, 4084100981]
def half (r : Nat) : Nat := (r / 16) ^^^ tab.getD (r % 16) 0
def crcB (r c : Nat) : Nat := half (half (r ^^^ c))
def crcL (r : Nat) (bs : List Nat) : Nat := bs.foldl crcB r
def sumL (bs : List Nat) : Nat := 4294967295 - crcL 4294967295 bs

def rdle (a b c d : Nat) : Nat := a + 256 * b + 65536 * c + 16777216 * d
end Go.Proofs.YthhkpkfpifllkaaGreat

namespace Go.Proofs.YthhkpkfpifllkaaGreat
open Go.RowKit
set_option linter.unusedVariables false

def RdP (w : World) (v : Value) (ps : List (List Nat)) : Prop :=
  ps.length ≤ 281474976710656 ∧ ∃ a cap, v = .slice a ps.length cap ∧ (ps = [] ∨ ∃ b off, a = some ⟨b, off, none⟩ ∧ ∀ i, i < ps.length → ∃ u, w.cell? ⟨b, off + i, none⟩ = some u ∧ Rd w u (ps.getD i []))

end Go.Proofs.YthhkpkfpifllkaaGreat

namespace Go.Proofs.YthhkpkfpifllkaaGreat
open Go.RowKit
set_option linter.unusedVariables false

def be4 (n : Nat) : List Nat := [n / 16777216, n / 65536 % 256, n / 256 % 256, n % 256]
def le4 (n : Nat) : List Nat := [n % 256, n / 256 % 256, n / 65536 % 256, n / 16777216]

end Go.Proofs.YthhkpkfpifllkaaGreat

namespace Go.Proofs.YthhkpkfpifllkaaGreat
open Go.RowKit
set_option linter.unusedVariables false

theorem rd_lens {w : World} {a : Option Addr} {n cap : Nat} {bs : List Nat} (h : Rd w (.slice a n cap) bs) : n = bs.length ∧ n ≤ cap ∧ cap ≤ maxLen ∧ n ≤ 281474976710656 := by
  obtain ⟨_, a1, c1, h2, hle, hm, hl48, _⟩ := h
  simp only [Value.slice.injEq] at h2
  obtain ⟨rfl, rfl, rfl⟩ := h2
  exact ⟨rfl, hle, hm, hl48⟩
theorem rd_slice {w : World} {v : Value} {bs : List Nat} (h : Rd w v bs) : ∃ a n cap, v = .slice a n cap := by
  obtain ⟨_, a1, c1, h2, _⟩ := h
  exact ⟨_, _, _, h2⟩
set_option maxRecDepth 100000 in
set_option maxHeartbeats 400000 in
theorem clone_any {v : Value} {bs : List Nat} {w : World} (hr : Rd w v bs) (h47 : bs.length ≤ 140737488355328) :
    Calls Tryz.prog 83 #[v] w fun e w' => ∃ s, e = .returned s ∧ w'.ownsRow w.heap.size 5 1 s bs.length (bv bs) ∧ Below w.heap.size w w' := by
  obtain ⟨i0, hi, hz0, hz1, hz2⟩ := info_parts info_byte
  obtain ⟨hby, a, cap, rfl, hle, hm, hl48, hnone, hat⟩ := hr
  have heq := fun w => Lib.run_eql_slice_nil (P := Tryz.prog) w 82 5 a bs.length cap 0 0 und_bytes
  cases a with
  | none =>
    have hb0 : bs = [] := by
      rcases hnone with h | ⟨b, off, h⟩
      · exact List.eq_nil_of_length_eq_zero (by omega)
      · cases h
    subst hb0
    simp only [List.length_nil, Option.isNone_none] at heq
    go_enter Tryz.func83, Tryz.ntmps83
    go_wp2
    go_ret
    exact ⟨_, rfl, World.ownsRow_nil _ _ _ _, Below.refl _ _⟩
  | some x =>
    have hc' := (hat.later ((Below.refl _ _).alloc (Nat.le_refl _) (.cells #[] 5))).add
    clear hat hnone
    go_enter Tryz.func83, Tryz.ntmps83
    go_wp2_with (at_builtin; refine wpList_append_own _ rfl _ _ 82 rfl w.heap.size 5 i0 (.int .u8 0) 1 1 und_bytes hi hz0 hz1 hz2 rfl (by decide) _ 0 (bv []) rfl (World.ownsRow_made w #[] 0 (Nat.le_refl _) (Nat.zero_le _) rfl) x bs.length cap (bv bs) rfl ?c0 hc' (bv_oneCell bs) ?c3 ?c4 ?c5 ?_)
    case c0 => simp [bv]
    case c3 => unfold maxLen; omega
    case c4 => omega
    case c5 => simp
    intro v' w1 hown' hgrow _
    have hb1 : Below w.heap.size w w1 := ((Below.refl _ w).alloc (Nat.le_refl _) _).grown hgrow (by simp) (fun k hk => by simp [Value.ownBlock] at hk; omega)
    clear hgrow hc'
    go_wp2
    go_ret
    refine ⟨_, rfl, ?_, hb1⟩
    simpa [bv] using hown'

theorem wpList_append_at {w : World} {ops : Array Oper} {rest : List Oper} {o : Oper} {a : Act} {Q : Exit → Act → World → Prop} (hgd : o.guard = none) (s x : Operand)
    (ho : o.op = .call { callee := .builtin .append, args := #[s, x], argTypes := #[82, 82] })
    (B : Nat) (a0 : Option Addr) (m0 c0 : Nat) (acc : List Nat) (hs : a.eval s = .slice a0 m0 c0) (hown : Own w B (.slice a0 m0 c0) m0 acc)
    (ao : Option Addr) (m c : Nat) (bs : List Nat) (hx : a.eval x = .slice ao m c) (hrd : Rd w (.slice ao m c) bs)
    (hbytes : m0 + m ≤ 140737488355328) (hB : B ≤ w.heap.size)
    (h : ∀ a' m' c' w', Own w' B (.slice a' m' c') m' (acc ++ bs) → Below B w w' → wpList Tryz.prog ops Q rest (a.put o.dst (.slice a' m' c')) w') : wpList Tryz.prog ops Q (o :: rest) a w := by
  obtain ⟨i0, hi, hz0, hz1, hz2⟩ := info_parts info_byte
  obtain ⟨hby, a1, c1, h2, hle, hm, hl48, hnone, hat⟩ := hrd
  simp only [Value.slice.injEq] at h2
  obtain ⟨rfl, rfl, rfl⟩ := h2
  cases ao with
  | none =>
    have hb0 : bs = [] ∧ c = 0 := by
      rcases hnone with h | ⟨b, off, h⟩
      · exact ⟨List.eq_nil_of_length_eq_zero (by omega), h⟩
      · cases h
    obtain ⟨rfl, rfl⟩ := hb0
    refine wpList_append_own_none hgd s x 82 ho B 5 i0 1 und_bytes hi _ _ _ hs hown.2 (by simpa using hx) ?_
    exact h _ _ _ _ (by simpa using hown) (Below.refl _ _)
  | some ad =>
    refine wpList_append_own _ hgd s x 82 ho B 5 i0 (.int .u8 0) 1 1 und_bytes hi hz0 hz1 hz2 rfl (by decide) _ m0 (bv acc) hs hown.2 ad bs.length c (bv bs) hx (by simp [bv]) hat.add (bv_oneCell bs) (by unfold maxLen; omega) (by omega) hB ?_
    intro v' w' h1 h2 _
    obtain ⟨a', c', rfl⟩ := own_form h1
    refine h a' _ c' w' ⟨by rw [hown.1]; simp, by simpa [bv] using h1⟩ ((Below.refl B w).grown h2 hB (fun k hk => (hown.2.lt k hk).1))

end Go.Proofs.YthhkpkfpifllkaaGreat

namespace Go.Proofs.YthhkpkfpifllkaaGreat
open Go.RowKit
set_option linter.unusedVariables false

def frameL (body : List Nat) : List Nat := ((be4 body.length ++ le4 (sumL (be4 body.length))) ++ body) ++ le4 (sumL body)

end Go.Proofs.YthhkpkfpifllkaaGreat

namespace Go.Proofs.YthhkpkfpifllkaaGreat
open Go.RowKit
set_option linter.unusedVariables false

def headR (bs : List Nat) : Nat × Nat :=
  if bs.length < 8 then (0, 10)
  else if rdle (bs.getD 4 0) (bs.getD 5 0) (bs.getD 6 0) (bs.getD 7 0) ≠ sumL (bs.take 4) then (0, 12)
  else if 1048576 < rdle (bs.getD 3 0) (bs.getD 2 0) (bs.getD 1 0) (bs.getD 0 0) then (0, 13)
  else (rdle (bs.getD 3 0) (bs.getD 2 0) (bs.getD 1 0) (bs.getD 0 0), 0)

def frameR (bs : List Nat) (k : Nat) : List Nat × Nat × Nat :=
  if (headR (bs.drop k)).2 ≠ 0 then ([], 0, (headR (bs.drop k)).2)
  else if bs.length < k + 8 + (headR (bs.drop k)).1 + 4 then ([], 0, 10)
  else if rdle ((bs.drop (k + 8 + (headR (bs.drop k)).1)).getD 0 0) ((bs.drop (k + 8 + (headR (bs.drop k)).1)).getD 1 0) ((bs.drop (k + 8 + (headR (bs.drop k)).1)).getD 2 0) ((bs.drop (k + 8 + (headR (bs.drop k)).1)).getD 3 0) ≠ sumL ((bs.drop (k + 8)).take (headR (bs.drop k)).1) then ([], 0, 12)
  else ((bs.drop (k + 8)).take (headR (bs.drop k)).1, k + 12 + (headR (bs.drop k)).1, 0)

end Go.Proofs.YthhkpkfpifllkaaGreat

namespace Go.Proofs.YthhkpkfpifllkaaGreat
open Go.RowKit
set_option linter.unusedVariables false

def ruint : Nat → List Nat → Nat → Nat → Nat × Nat × Nat
  | _, [], _, _ => (0, 0, 10)
  | 0, c :: _, i, v => if i = 9 ∧ 1 < c then (0, 0, 13) else if 128 ≤ c then (0, 0, 13) else if c = 0 ∧ 0 < i then (0, 0, 11) else (v + c % 128 * 128 ^ i, i + 1, 0)
  | f + 1, c :: r, i, v => if i = 9 ∧ 1 < c then (0, 0, 13) else if 128 ≤ c then ruint f r (i + 1) (v + c % 128 * 128 ^ i) else if c = 0 ∧ 0 < i then (0, 0, 11) else (v + c % 128 * 128 ^ i, i + 1, 0)
def uintR (bs : List Nat) (k : Nat) : Nat × Nat × Nat :=
  ((ruint 9 (bs.drop k) 0 0).1, if (ruint 9 (bs.drop k) 0 0).2.2 = 0 then k + (ruint 9 (bs.drop k) 0 0).2.1 else 0, (ruint 9 (bs.drop k) 0 0).2.2)

end Go.Proofs.YthhkpkfpifllkaaGreat

namespace Go.Proofs.YthhkpkfpifllkaaGreat
open Go.RowKit
set_option linter.unusedVariables false

def be8 (n : Nat) : List Nat := [n / 2 ^ 56 % 256, n / 2 ^ 48 % 256, n / 2 ^ 40 % 256, n / 2 ^ 32 % 256, n / 2 ^ 24 % 256, n / 2 ^ 16 % 256, n / 2 ^ 8 % 256, n % 256]
def fill8 (n t : Nat) : List Nat := (be8 n).take t ++ List.replicate (8 - t) 0
def num8 (l : List Nat) : Nat := l.foldl (fun v c => v * 256 + c) 0
def riseR (bs : List Nat) (k : Nat) : Nat × Nat × Nat :=
  if bs.length < k + 8 then (0, 0, 10)
  else if 9223372036854775807 < num8 ((bs.drop k).take 8) then (0, 0, 13)
  else (num8 ((bs.drop k).take 8), k + 8, 0)

def fallR (bs : List Nat) (k : Nat) : Nat × Nat × Nat :=
  if (riseR bs k).2.2 ≠ 0 then (0, 0, (riseR bs k).2.2) else (9223372036854775807 - (riseR bs k).1, (riseR bs k).2.1, 0)
end Go.Proofs.YthhkpkfpifllkaaGreat

namespace Go.Proofs.YthhkpkfpifllkaaGreat
open Go.RowKit
set_option linter.unusedVariables false

theorem ints_at {w : World} {x : Addr} {bs : List Nat} (h : At w (some x) bs) : ∀ i, i < bs.length → w.cell? (x.add i) = some (.int .u8 ((bs.map fun n : Nat => (n : Int)).getD i 0)) := by
  intro i hi
  have := h.add i (.int .u8 ((bs.getD i 0 : Nat) : Int)) (by simp [bv, List.getElem?_eq_getElem hi])
  rw [this]
  simp [List.getElem?_eq_getElem hi]

def escL : List Nat → List Nat
  | [] => []
  | c :: r => if c = 0 then 0 :: 255 :: escL r else c :: escL r
def ordL (bs : List Nat) : List Nat := escL bs ++ [0, 1]
def zi : List Nat → Int
  | [] => -1
  | b :: l => if b = 0 then 0 else if zi l = -1 then -1 else zi l + 1
end Go.Proofs.YthhkpkfpifllkaaGreat

namespace Go.Proofs.YthhkpkfpifllkaaGreat
open Go.RowKit
set_option linter.unusedVariables false

def rord : List Nat → List Nat → Nat → List Nat × Nat × Nat
  | [], _, _ => ([], 0, 10)
  | [c], acc, i => ([], 0, 10)
  | c :: d :: r, acc, i => if c ≠ 0 then rord (d :: r) (acc ++ [c]) (i + 1) else if d = 1 then (acc, i + 2, 0) else if d = 255 then rord r (acc ++ [0]) (i + 2) else ([], 0, 11)
def ordR (bs : List Nat) (k : Nat) : List Nat × Nat × Nat :=
  ((rord (bs.drop k) [] 0).1, if (rord (bs.drop k) [] 0).2.2 = 0 then k + (rord (bs.drop k) [] 0).2.1 else 0, (rord (bs.drop k) [] 0).2.2)

end Go.Proofs.YthhkpkfpifllkaaGreat

namespace Go.Proofs.YthhkpkfpifllkaaGreat
open Go.RowKit
set_option linter.unusedVariables false

structure EntD where
  vr : Value
  fam : Int
  vq : Value
  ts : Int
  seq : Int
  kind : Int
  vv : Value
  row : List Nat
  qual : List Nat
  val : List Nat
def EntD.cells (e : EntD) : Array Value := #[e.vr, .int .i64 e.fam, e.vq, .int .i64 e.ts, .int .i64 e.seq, .int .i64 e.kind, e.vv]
def EntD.Ok (w : World) (e : EntD) : Prop := Rd w e.vr e.row ∧ Rd w e.vq e.qual ∧ Rd w e.vv e.val
theorem EntD.Ok.later {w w' : World} {e : EntD} (h : EntD.Ok w e) (hb : Below w.heap.size w w') : EntD.Ok w' e := ⟨h.1.later hb, h.2.1.later hb, h.2.2.later hb⟩

def checkS (e : EntD) : Nat :=
  if e.row.length = 0 ∨ 256 < e.row.length then 20
  else if e.fam < 0 ∨ 8 ≤ e.fam then 21
  else if 256 < e.qual.length ∨ (0 < e.qual.length ∧ e.kind = 5) then 22
  else if e.ts < 1 ∨ 1099511627776 < e.ts then 23
  else if e.seq < 0 ∨ 17592186044431 < e.seq then 24
  else if e.kind < 1 ∨ 5 < e.kind then 25
  else if 4096 < e.val.length ∨ (0 < e.val.length ∧ e.kind ≠ 1) then 26
  else 0

set_option maxRecDepth 100000 in
theorem isRow_any {a : Option Addr} {n cap : Nat} {w : World} (hn : n ≤ 281474976710656) :
    Calls Tryz.prog 82 #[.slice a n cap] w fun e w' => e = .returned (.bool (decide (0 < n ∧ n ≤ 256))) ∧ w' = w := by
  by_cases h : 0 < n
  · have h1 : (0 : Int) < (n : Int) := by omega
    go_enter Tryz.func82, Tryz.ntmps82
    go_wp2
    go_ret
    refine ⟨?_, rfl⟩
    by_cases h2 : n ≤ 256
    · rw [decide_eq_true (show 0 < n ∧ n ≤ 256 from ⟨h, h2⟩)]; simp; omega
    · rw [decide_eq_false (show ¬ (0 < n ∧ n ≤ 256) from fun h3 => h2 h3.2)]; simp; omega
  · have h1 : (n : Int) ≤ 0 := by omega
    have h0 : n = 0 := by omega
    subst h0
    go_enter Tryz.func82, Tryz.ntmps82
    go_wp2
    go_ret
    exact ⟨by first | rfl | simp, rfl⟩
set_option maxRecDepth 100000 in
theorem markOf_any (k a : Int) (w : World) : Calls Tryz.prog 157 #[.int .i64 k, .int .i64 a] w fun e w' => e = .returned (.int .u8 (((if k = a then 0 else 1 : Nat) : Nat) : Int)) ∧ w' = w := by
  by_cases h : k = a
  · subst h
    go_enter Tryz.func157, Tryz.ntmps157
    go_wp2
    go_ret
    exact ⟨by simp, rfl⟩
  · have h1 : (k == a) = false := by simp; exact h
    go_enter Tryz.func157, Tryz.ntmps157
    go_wp2
    go_ret
    exact ⟨by first | (rw [if_neg h]; rfl) | (simp; done) | simp [h], rfl⟩

set_option maxRecDepth 100000 in
set_option maxHeartbeats 4000000 in
theorem check_any {e : EntD} {w : World} (hok : EntD.Ok w e) :
    Calls Tryz.prog 48 #[.agg e.cells] w fun r w' => r = .returned (.int .i64 ((checkS e : Nat) : Int)) ∧ Below w.heap.size w w' := by
  obtain ⟨vr, fam, vq, ts, seq, kind, vv, row, qual, val⟩ := e
  obtain ⟨h1, h2, h3⟩ := hok
  simp only [EntD.cells] at *
  obtain ⟨ar, nr, cr, rfl⟩ := rd_slice h1
  obtain ⟨aq, nq, cq, rfl⟩ := rd_slice h2
  obtain ⟨av, nv, cv, rfl⟩ := rd_slice h3
  obtain ⟨er, _, _, lr⟩ := rd_lens h1
  obtain ⟨eq, _, _, lq⟩ := rd_lens h2
  obtain ⟨ev, _, _, lv⟩ := rd_lens h3
  have A1 := (Below.refl w.heap.size w).alloc (Nat.le_refl _) (.cells #[.slice ar nr cr, .int .i64 fam, .slice aq nq cq, .int .i64 ts, .int .i64 seq, .int .i64 kind, .slice av nv cv] 84)
  obtain ⟨S, hS⟩ : ∃ S, S = checkS ⟨.slice ar nr cr, fam, .slice aq nq cq, ts, seq, kind, .slice av nv cv, row, qual, val⟩ := ⟨_, rfl⟩
  rw [← hS]
  unfold checkS at hS
  simp only at hS
  rw [← er, ← eq, ← ev] at hS
  have HS : Hid (S = _) := hS
  clear hS er eq ev h1 h2 h3
  by_cases c1 : 0 < nr ∧ nr ≤ 256
  · have d1 : decide (0 < nr ∧ nr ≤ 256) = true := by simp; omega
    by_cases c2a : fam < 0
    · have HE : Hid (S = 21) := by unfold Hid; rw [HS.out]; repeat (first | rw [if_pos (by omega)] | rw [if_neg (by omega)])
      clear HS
      go_enter Tryz.func48, Tryz.ntmps48
      go_wp2_with fail
      refine (isRow_any lr).mono ?_
      rintro e1 w1 ⟨rfl, rfl⟩
      rw [d1]
      go_wp2
      go_ret
      exact ⟨by rw [HE.out]; rfl, A1⟩
    · have c2q : 0 ≤ fam := by omega
      by_cases c2b : 8 ≤ fam
      · have HE : Hid (S = 21) := by unfold Hid; rw [HS.out]; repeat (first | rw [if_pos (by omega)] | rw [if_neg (by omega)])
        clear HS
        go_enter Tryz.func48, Tryz.ntmps48
        go_wp2_with fail
        refine (isRow_any lr).mono ?_
        rintro e1 w1 ⟨rfl, rfl⟩
        rw [d1]
        go_wp2
        go_ret
        exact ⟨by rw [HE.out]; rfl, A1⟩
      · have c2p : fam < 8 := by omega
        by_cases c3a : 256 < nq
        · have q1 : (256 : Int) < (nq : Int) := by omega
          have HE : Hid (S = 22) := by unfold Hid; rw [HS.out]; repeat (first | rw [if_pos (by omega)] | rw [if_neg (by omega)])
          clear HS
          go_enter Tryz.func48, Tryz.ntmps48
          go_wp2_with fail
          refine (isRow_any lr).mono ?_
          rintro e1 w1 ⟨rfl, rfl⟩
          rw [d1]
          go_wp2
          go_ret
          exact ⟨by rw [HE.out]; rfl, A1⟩
        · have q1 : (nq : Int) ≤ 256 := by omega
          by_cases c3b : 0 < nq
          · have q0 : (0 : Int) < (nq : Int) := by omega
            by_cases c3c : kind = 5
            · subst c3c
              have HE : Hid (S = 22) := by unfold Hid; rw [HS.out]; repeat (first | rw [if_pos (by omega)] | rw [if_neg (by omega)])
              clear HS
              go_enter Tryz.func48, Tryz.ntmps48
              go_wp2_with fail
              refine (isRow_any lr).mono ?_
              rintro e1 w1 ⟨rfl, rfl⟩
              rw [d1]
              go_wp2
              go_ret
              exact ⟨by rw [HE.out]; rfl, A1⟩
            · have k5 : (kind == 5) = false := by simp; omega
              by_cases c4a : ts < 1
              · have HE : Hid (S = 23) := by unfold Hid; rw [HS.out]; repeat (first | rw [if_pos (by omega)] | rw [if_neg (by omega)])
                clear HS
                go_enter Tryz.func48, Tryz.ntmps48
                go_wp2_with fail
                refine (isRow_any lr).mono ?_
                rintro e1 w1 ⟨rfl, rfl⟩
                rw [d1]
                go_wp2
                go_ret
                exact ⟨by rw [HE.out]; rfl, A1⟩
              · have c4q : 1 ≤ ts := by omega
                by_cases c4b : 1099511627776 < ts
                · have HE : Hid (S = 23) := by unfold Hid; rw [HS.out]; repeat (first | rw [if_pos (by omega)] | rw [if_neg (by omega)])
                  clear HS
                  go_enter Tryz.func48, Tryz.ntmps48
                  go_wp2_with fail
                  refine (isRow_any lr).mono ?_
                  rintro e1 w1 ⟨rfl, rfl⟩
                  rw [d1]
                  go_wp2
                  go_ret
                  exact ⟨by rw [HE.out]; rfl, A1⟩
                · have c4p : ts ≤ 1099511627776 := by omega
                  by_cases c5a : seq < 0
                  · have HE : Hid (S = 24) := by unfold Hid; rw [HS.out]; repeat (first | rw [if_pos (by omega)] | rw [if_neg (by omega)])
                    clear HS
                    go_enter Tryz.func48, Tryz.ntmps48
                    go_wp2_with fail
                    refine (isRow_any lr).mono ?_
                    rintro e1 w1 ⟨rfl, rfl⟩
                    rw [d1]
                    go_wp2
                    go_ret
                    exact ⟨by rw [HE.out]; rfl, A1⟩
                  · have c5q : 0 ≤ seq := by omega
                    by_cases c5b : 17592186044431 < seq
                    · have HE : Hid (S = 24) := by unfold Hid; rw [HS.out]; repeat (first | rw [if_pos (by omega)] | rw [if_neg (by omega)])
                      clear HS
                      go_enter Tryz.func48, Tryz.ntmps48
                      go_wp2_with fail
                      refine (isRow_any lr).mono ?_
                      rintro e1 w1 ⟨rfl, rfl⟩
                      rw [d1]
                      go_wp2
                      go_ret
                      exact ⟨by rw [HE.out]; rfl, A1⟩
                    · have c5p : seq ≤ 17592186044431 := by omega
                      by_cases c6a : kind < 1
                      · have HE : Hid (S = 25) := by unfold Hid; rw [HS.out]; repeat (first | rw [if_pos (by omega)] | rw [if_neg (by omega)])
                        clear HS
                        go_enter Tryz.func48, Tryz.ntmps48
                        go_wp2_with fail
                        refine (isRow_any lr).mono ?_
                        rintro e1 w1 ⟨rfl, rfl⟩
                        rw [d1]
                        go_wp2
                        go_ret
                        exact ⟨by rw [HE.out]; rfl, A1⟩
                      · have c6q : 1 ≤ kind := by omega
                        by_cases c6b : 5 < kind
                        · have HE : Hid (S = 25) := by unfold Hid; rw [HS.out]; repeat (first | rw [if_pos (by omega)] | rw [if_neg (by omega)])
                          clear HS
                          go_enter Tryz.func48, Tryz.ntmps48
                          go_wp2_with fail
                          refine (isRow_any lr).mono ?_
                          rintro e1 w1 ⟨rfl, rfl⟩
                          rw [d1]
                          go_wp2
                          go_ret
                          exact ⟨by rw [HE.out]; rfl, A1⟩
                        · have c6p : kind ≤ 5 := by omega
                          by_cases c7a : 4096 < nv
                          · have v1 : (4096 : Int) < (nv : Int) := by omega
                            have HE : Hid (S = 26) := by unfold Hid; rw [HS.out]; repeat (first | rw [if_pos (by omega)] | rw [if_neg (by omega)])
                            clear HS
                            go_enter Tryz.func48, Tryz.ntmps48
                            go_wp2_with fail
                            refine (isRow_any lr).mono ?_
                            rintro e1 w1 ⟨rfl, rfl⟩
                            rw [d1]
                            go_wp2
                            go_ret
                            exact ⟨by rw [HE.out]; rfl, A1⟩
                          · have v1 : (nv : Int) ≤ 4096 := by omega
                            by_cases c7b : 0 < nv
                            · have v0 : (0 : Int) < (nv : Int) := by omega
                              by_cases c7c : kind = 1
                              · subst c7c
                                have HE : Hid (S = 0) := by unfold Hid; rw [HS.out]; repeat (first | rw [if_pos (by omega)] | rw [if_neg (by omega)])
                                clear HS
                                go_enter Tryz.func48, Tryz.ntmps48
                                go_wp2_with fail
                                refine (isRow_any lr).mono ?_
                                rintro e1 w1 ⟨rfl, rfl⟩
                                rw [d1]
                                go_wp2
                                go_ret
                                exact ⟨by rw [HE.out]; rfl, A1⟩
                              · have k1 : (kind == 1) = false := by simp; omega
                                have k1n : (kind != 1) = true := by simp; omega
                                have HE : Hid (S = 26) := by unfold Hid; rw [HS.out]; repeat (first | rw [if_pos (by omega)] | rw [if_neg (by omega)])
                                clear HS
                                go_enter Tryz.func48, Tryz.ntmps48
                                go_wp2_with fail
                                refine (isRow_any lr).mono ?_
                                rintro e1 w1 ⟨rfl, rfl⟩
                                rw [d1]
                                go_wp2
                                go_ret
                                exact ⟨by rw [HE.out]; rfl, A1⟩
                            · have v0 : (nv : Int) ≤ 0 := by omega
                              have HE : Hid (S = 0) := by unfold Hid; rw [HS.out]; repeat (first | rw [if_pos (by omega)] | rw [if_neg (by omega)])
                              clear HS
                              go_enter Tryz.func48, Tryz.ntmps48
                              go_wp2_with fail
                              refine (isRow_any lr).mono ?_
                              rintro e1 w1 ⟨rfl, rfl⟩
                              rw [d1]
                              go_wp2
                              go_ret
                              exact ⟨by rw [HE.out]; rfl, A1⟩
          · have q0 : (nq : Int) ≤ 0 := by omega
            by_cases c4a : ts < 1
            · have HE : Hid (S = 23) := by unfold Hid; rw [HS.out]; repeat (first | rw [if_pos (by omega)] | rw [if_neg (by omega)])
              clear HS
              go_enter Tryz.func48, Tryz.ntmps48
              go_wp2_with fail
              refine (isRow_any lr).mono ?_
              rintro e1 w1 ⟨rfl, rfl⟩
              rw [d1]
              go_wp2
              go_ret
              exact ⟨by rw [HE.out]; rfl, A1⟩
            · have c4q : 1 ≤ ts := by omega
              by_cases c4b : 1099511627776 < ts
              · have HE : Hid (S = 23) := by unfold Hid; rw [HS.out]; repeat (first | rw [if_pos (by omega)] | rw [if_neg (by omega)])
                clear HS
                go_enter Tryz.func48, Tryz.ntmps48
                go_wp2_with fail
                refine (isRow_any lr).mono ?_
                rintro e1 w1 ⟨rfl, rfl⟩
                rw [d1]
                go_wp2
                go_ret
                exact ⟨by rw [HE.out]; rfl, A1⟩
              · have c4p : ts ≤ 1099511627776 := by omega
                by_cases c5a : seq < 0
                · have HE : Hid (S = 24) := by unfold Hid; rw [HS.out]; repeat (first | rw [if_pos (by omega)] | rw [if_neg (by omega)])
                  clear HS
                  go_enter Tryz.func48, Tryz.ntmps48
                  go_wp2_with fail
                  refine (isRow_any lr).mono ?_
                  rintro e1 w1 ⟨rfl, rfl⟩
                  rw [d1]
                  go_wp2
                  go_ret
                  exact ⟨by rw [HE.out]; rfl, A1⟩
                · have c5q : 0 ≤ seq := by omega
                  by_cases c5b : 17592186044431 < seq
                  · have HE : Hid (S = 24) := by unfold Hid; rw [HS.out]; repeat (first | rw [if_pos (by omega)] | rw [if_neg (by omega)])
                    clear HS
                    go_enter Tryz.func48, Tryz.ntmps48
                    go_wp2_with fail
                    refine (isRow_any lr).mono ?_
                    rintro e1 w1 ⟨rfl, rfl⟩
                    rw [d1]
                    go_wp2
                    go_ret
                    exact ⟨by rw [HE.out]; rfl, A1⟩
                  · have c5p : seq ≤ 17592186044431 := by omega
                    by_cases c6a : kind < 1
                    · have HE : Hid (S = 25) := by unfold Hid; rw [HS.out]; repeat (first | rw [if_pos (by omega)] | rw [if_neg (by omega)])
                      clear HS
                      go_enter Tryz.func48, Tryz.ntmps48
                      go_wp2_with fail
                      refine (isRow_any lr).mono ?_
                      rintro e1 w1 ⟨rfl, rfl⟩
                      rw [d1]
                      go_wp2
                      go_ret
                      exact ⟨by rw [HE.out]; rfl, A1⟩
                    · have c6q : 1 ≤ kind := by omega
                      by_cases c6b : 5 < kind
                      · have HE : Hid (S = 25) := by unfold Hid; rw [HS.out]; repeat (first | rw [if_pos (by omega)] | rw [if_neg (by omega)])
                        clear HS
                        go_enter Tryz.func48, Tryz.ntmps48
                        go_wp2_with fail
                        refine (isRow_any lr).mono ?_
                        rintro e1 w1 ⟨rfl, rfl⟩
                        rw [d1]
                        go_wp2
                        go_ret
                        exact ⟨by rw [HE.out]; rfl, A1⟩
                      · have c6p : kind ≤ 5 := by omega
                        by_cases c7a : 4096 < nv
                        · have v1 : (4096 : Int) < (nv : Int) := by omega
                          have HE : Hid (S = 26) := by unfold Hid; rw [HS.out]; repeat (first | rw [if_pos (by omega)] | rw [if_neg (by omega)])
                          clear HS
                          go_enter Tryz.func48, Tryz.ntmps48
                          go_wp2_with fail
                          refine (isRow_any lr).mono ?_
                          rintro e1 w1 ⟨rfl, rfl⟩
                          rw [d1]
                          go_wp2
                          go_ret
                          exact ⟨by rw [HE.out]; rfl, A1⟩
                        · have v1 : (nv : Int) ≤ 4096 := by omega
                          by_cases c7b : 0 < nv
                          · have v0 : (0 : Int) < (nv : Int) := by omega
                            by_cases c7c : kind = 1
                            · subst c7c
                              have HE : Hid (S = 0) := by unfold Hid; rw [HS.out]; repeat (first | rw [if_pos (by omega)] | rw [if_neg (by omega)])
                              clear HS
                              go_enter Tryz.func48, Tryz.ntmps48
                              go_wp2_with fail
                              refine (isRow_any lr).mono ?_
                              rintro e1 w1 ⟨rfl, rfl⟩
                              rw [d1]
                              go_wp2
                              go_ret
                              exact ⟨by rw [HE.out]; rfl, A1⟩
                            · have k1 : (kind == 1) = false := by simp; omega
                              have k1n : (kind != 1) = true := by simp; omega
                              have HE : Hid (S = 26) := by unfold Hid; rw [HS.out]; repeat (first | rw [if_pos (by omega)] | rw [if_neg (by omega)])
                              clear HS
                              go_enter Tryz.func48, Tryz.ntmps48
                              go_wp2_with fail
                              refine (isRow_any lr).mono ?_
                              rintro e1 w1 ⟨rfl, rfl⟩
                              rw [d1]
                              go_wp2
                              go_ret
                              exact ⟨by rw [HE.out]; rfl, A1⟩
                          · have v0 : (nv : Int) ≤ 0 := by omega
                            have HE : Hid (S = 0) := by unfold Hid; rw [HS.out]; repeat (first | rw [if_pos (by omega)] | rw [if_neg (by omega)])
                            clear HS
                            go_enter Tryz.func48, Tryz.ntmps48
                            go_wp2_with fail
                            refine (isRow_any lr).mono ?_
                            rintro e1 w1 ⟨rfl, rfl⟩
                            rw [d1]
                            go_wp2
                            go_ret
                            exact ⟨by rw [HE.out]; rfl, A1⟩
  · have d1 : decide (0 < nr ∧ nr ≤ 256) = false := by simp; omega
    have HE : Hid (S = 20) := by unfold Hid; rw [HS.out]; repeat (first | rw [if_pos (by omega)] | rw [if_neg (by omega)])
    clear HS
    go_enter Tryz.func48, Tryz.ntmps48
    go_wp2_with fail
    refine (isRow_any lr).mono ?_
    rintro e1 w1 ⟨rfl, rfl⟩
    rw [d1]
    go_wp2
    go_ret
    exact ⟨by rw [HE.out]; rfl, A1⟩

end Go.Proofs.YthhkpkfpifllkaaGreat

namespace Go.Proofs.YthhkpkfpifllkaaGreat
open Go.RowKit
set_option linter.unusedVariables false

def EBox (w : World) (g : Nat) (e : EntD) : Prop := w.heap[g]? = some (.cells e.cells 84 (0, 0))
theorem EBox.later {w w' : World} {g : Nat} {e : EntD} (h : EBox w g e) (hb : Below w.heap.size w w') : EBox w' g e := by
  unfold EBox at *
  rw [hb.block g (Array.getElem?_eq_some_iff.1 h).1]; exact h
theorem EBox.new (w : World) (e : EntD) : EBox (w.alloc (.cells e.cells 84)) w.heap.size e := by
  show (w.heap.push _)[w.heap.size]? = some _
  simp
theorem EBox.vr {w : World} {g : Nat} {e : EntD} (h : EBox w g e) : w.cell? ⟨g, 0, none⟩ = some e.vr := by unfold EBox EntD.cells at h; simp [World.cell?, h]
theorem EBox.fam {w : World} {g : Nat} {e : EntD} (h : EBox w g e) : w.cell? ⟨g, 1, none⟩ = some (.int .i64 e.fam) := by unfold EBox EntD.cells at h; simp [World.cell?, h]
theorem EBox.vq {w : World} {g : Nat} {e : EntD} (h : EBox w g e) : w.cell? ⟨g, 2, none⟩ = some e.vq := by unfold EBox EntD.cells at h; simp [World.cell?, h]
theorem EBox.ts {w : World} {g : Nat} {e : EntD} (h : EBox w g e) : w.cell? ⟨g, 3, none⟩ = some (.int .i64 e.ts) := by unfold EBox EntD.cells at h; simp [World.cell?, h]
theorem EBox.seq {w : World} {g : Nat} {e : EntD} (h : EBox w g e) : w.cell? ⟨g, 4, none⟩ = some (.int .i64 e.seq) := by unfold EBox EntD.cells at h; simp [World.cell?, h]
theorem EBox.kind {w : World} {g : Nat} {e : EntD} (h : EBox w g e) : w.cell? ⟨g, 5, none⟩ = some (.int .i64 e.kind) := by unfold EBox EntD.cells at h; simp [World.cell?, h]
theorem EBox.vv {w : World} {g : Nat} {e : EntD} (h : EBox w g e) : w.cell? ⟨g, 6, none⟩ = some e.vv := by unfold EBox EntD.cells at h; simp [World.cell?, h]

def mark (k a : Int) : Nat := if k = a then 0 else 1
def keyL (e : EntD) : List Nat :=
  ((((ordL e.row ++ [e.fam.toNat, mark e.kind 5]) ++ (if e.kind = 5 then [] else ordL e.qual ++ [mark e.kind 4])) ++ be8 (9223372036854775807 - e.ts.toNat)) ++ be8 (9223372036854775807 - e.seq.toNat)) ++ [e.kind.toNat]

end Go.Proofs.YthhkpkfpifllkaaGreat

namespace Go.Proofs.YthhkpkfpifllkaaGreat
open Go.RowKit
set_option linter.unusedVariables false

def ordC : List Nat → List Nat → Int
  | [], [] => 0
  | [], _ :: _ => -1
  | _ :: _, [] => 1
  | x :: a, y :: b => if x < y then -1 else if y < x then 1 else ordC a b
theorem ordC_self (a : List Nat) : ordC a a = 0 := by
  induction a with
  | nil => rfl
  | cons x a ih => simp [ordC, ih]
theorem ordC_eq : ∀ (a b : List Nat), ordC a b = 0 → a = b
  | [], [], _ => rfl
  | [], y :: b, h => by simp [ordC] at h
  | x :: a, [], h => by simp [ordC] at h
  | x :: a, y :: b, h => by
    simp only [ordC] at h
    split at h
    · simp at h
    · split at h
      · simp at h
      · rename_i h1 h2
        have : x = y := by omega
        rw [this, ordC_eq a b h]
theorem ordC_swap (a b : List Nat) : ordC b a = -ordC a b := by
  induction a generalizing b with
  | nil => cases b <;> simp [ordC]
  | cons x a ih =>
    cases b with
    | nil => simp [ordC]
    | cons y b =>
      simp only [ordC]
      by_cases h1 : x < y
      · simp [h1, show ¬ y < x by omega]
      · by_cases h2 : y < x
        · simp [h1, h2]
        · simp [h1, h2, ih b]
def val : List Nat → Nat
  | [] => 0
  | c :: r => c * 256 ^ r.length + val r
def cmpN (m n : Nat) : Int := if m < n then -1 else if n < m then 1 else 0
end Go.Proofs.YthhkpkfpifllkaaGreat

namespace Go.Proofs.YthhkpkfpifllkaaGreat
open Go.RowKit
set_option linter.unusedVariables false

theorem bytesOf_rd {w : World} {v : Value} {bs : List Nat} (h : Rd w v bs) : (Extern.Bytes.bytesOf v).run Tryz.prog w = .ok ⟨(Lib.bytesOf (bs.map fun n : Nat => (n : Int))).toArray⟩ w := by
  obtain ⟨hby, a, cap, rfl, hle, hm, hl48, hnone, hat⟩ := h
  cases a with
  | none =>
    have hb0 : bs = [] := by
      rcases hnone with h | ⟨b, off, h⟩
      · exact List.eq_nil_of_length_eq_zero (by omega)
      · cases h
    subst hb0
    rfl
  | some x =>
    have hi := ints_at hat
    have := Lib.run_loadBytesX (P := Tryz.prog) w (bs.map fun n : Nat => (n : Int)) x .empty (fun j y hj => by
      have hjl : j < bs.length := by
        have := (List.getElem?_eq_some_iff.1 hj).1
        simpa using this
      rw [hi j hjl]
      simp [List.getD, hj])
    simp only [List.length_map] at this
    show (Extern.Bytes.loadBytes x bs.length .empty).run Tryz.prog w = _
    rw [this]
    simp
theorem compare_ordC : ∀ (xs ys : List Nat), Bys xs → Bys ys → Lib.compareBytes (Lib.bytesOf (xs.map fun n : Nat => (n : Int))) (Lib.bytesOf (ys.map fun n : Nat => (n : Int))) = ordC xs ys
  | [], [], _, _ => rfl
  | [], _ :: _, _, _ => rfl
  | _ :: _, [], _, _ => rfl
  | a :: r1, b :: r2, ha, hb => by
    have ih := compare_ordC r1 r2 (fun x hx => ha x (by simp [hx])) (fun x hx => hb x (by simp [hx]))
    have h1 := ha a (by simp)
    have h2 := hb b (by simp)
    have e1 : ∀ c : Nat, c < 256 → ∀ d : Nat, d < 256 → ((c : Int).toNat.toUInt8 < (d : Int).toNat.toUInt8 ↔ c < d) := by
      intro c hc d hd
      simp [UInt8.lt_iff_toNat_lt, Nat.toUInt8, Nat.mod_eq_of_lt hc, Nat.mod_eq_of_lt hd]
    show (if (a : Int).toNat.toUInt8 < (b : Int).toNat.toUInt8 then -1 else if (b : Int).toNat.toUInt8 < (a : Int).toNat.toUInt8 then 1 else Lib.compareBytes (Lib.bytesOf (r1.map fun n : Nat => (n : Int))) (Lib.bytesOf (r2.map fun n : Nat => (n : Int)))) = ordC (a :: r1) (b :: r2)
    rw [ih]
    simp only [e1 a h1 b h2, e1 b h2 a h1]
    rfl

set_option maxRecDepth 100000 in
set_option maxHeartbeats 1000000 in
theorem bytesCompare_any {va vb : Value} {xs ys : List Nat} {w : World} (ha : Rd w va xs) (hb : Rd w vb ys) :
    Calls Tryz.prog 138 #[va, vb] w fun e w' => e = .returned (.int .i64 (ordC xs ys)) ∧ w' = w := by
  have h1 := bytesOf_rd ha
  have h2 := bytesOf_rd hb
  have hcmp : (Extern.BytealgCompare.compare #[va, vb]).run Tryz.prog w = .ok (.int .i64 (ordC xs ys)) w := by
    change Sem.run Tryz.prog (do pure (goInt (Extern.BytealgCompare.cmp (← Extern.Bytes.bytesOf va) (← Extern.Bytes.bytesOf vb)))) w = _
    simp only [Sem.run_bind, h1, h2, Sem.run_pure, Result.andThen]
    rw [Lib.cmp_eq, ← compare_ordC xs ys ha.1 hb.1]
    rfl
  have HCMP : Hid ((Extern.BytealgCompare.compare #[va, vb]).run Tryz.prog w = .ok (.int .i64 (ordC xs ys)) w) := hcmp
  clear h1 h2 hcmp
  go_enter Tryz.func138, Tryz.ntmps138
  go_wp2
  rw [run_callFunc_extern Tryz.func154 (by kernel_rfl) (by kernel_rfl) (by kernel_rfl) (e := Extern.BytealgCompare.compare) (by kernel_rfl), HCMP.out]
  simp only [Result.andThen]
  rw [Oper.upon_value]
  go_wp2
  go_ret
  exact ⟨rfl, rfl⟩

def cmpI (a b : Int) : Int := if a < b then -1 else if b < a then 1 else 0
theorem isNaN_int (a : Int) (w : World) : Calls Tryz.prog 155 #[.int .i64 a] w fun e w' => e = .returned (.bool false) ∧ w' = w := by
  go_enter Tryz.func155, Tryz.ntmps155
  go_wp2
  go_ret
  exact ⟨by simp, rfl⟩
theorem isNaN_byte (a : Int) (w : World) : Calls Tryz.prog 161 #[.int .u8 a] w fun e w' => e = .returned (.bool false) ∧ w' = w := by
  go_enter Tryz.func161, Tryz.ntmps161
  go_wp2
  go_ret
  exact ⟨by simp, rfl⟩
set_option maxHeartbeats 1000000 in
theorem cmpInt_any (a b : Int) (w : World) : Calls Tryz.prog 140 #[.int .i64 a, .int .i64 b] w fun e w' => e = .returned (.int .i64 (cmpI a b)) ∧ w' = w := by
  by_cases h1 : a < b
  · have HE : Hid (cmpI a b = -1) := by unfold Hid cmpI; rw [if_pos h1]
    go_enter Tryz.func140, Tryz.ntmps140
    go_wp2_with (go_at_call 155; refine (isNaN_int _ _).mono ?_; rintro e1 w1 ⟨rfl, rfl⟩)
    go_ret
    exact ⟨by rw [HE.out]; rfl, rfl⟩
  · by_cases h2 : b < a
    · have HE : Hid (cmpI a b = 1) := by unfold Hid cmpI; rw [if_neg h1, if_pos h2]
      have h3 : b ≤ a := by omega
      clear h1
      go_enter Tryz.func140, Tryz.ntmps140
      go_wp2_with (go_at_call 155; refine (isNaN_int _ _).mono ?_; rintro e1 w1 ⟨rfl, rfl⟩)
      go_ret
      exact ⟨by rw [HE.out]; rfl, rfl⟩
    · have HE : Hid (cmpI a b = 0) := by unfold Hid cmpI; rw [if_neg h1, if_neg h2]
      obtain rfl : a = b := by omega
      clear h1 h2
      go_enter Tryz.func140, Tryz.ntmps140
      go_wp2_with (go_at_call 155; refine (isNaN_int _ _).mono ?_; rintro e1 w1 ⟨rfl, rfl⟩)
      go_ret
      exact ⟨by rw [HE.out]; rfl, rfl⟩
set_option maxHeartbeats 1000000 in
theorem cmpByte_any (a b : Int) (w : World) : Calls Tryz.prog 156 #[.int .u8 a, .int .u8 b] w fun e w' => e = .returned (.int .i64 (cmpI a b)) ∧ w' = w := by
  by_cases h1 : a < b
  · have HE : Hid (cmpI a b = -1) := by unfold Hid cmpI; rw [if_pos h1]
    go_enter Tryz.func156, Tryz.ntmps156
    go_wp2_with (go_at_call 161; refine (isNaN_byte _ _).mono ?_; rintro e1 w1 ⟨rfl, rfl⟩)
    go_ret
    exact ⟨by rw [HE.out]; rfl, rfl⟩
  · by_cases h2 : b < a
    · have HE : Hid (cmpI a b = 1) := by unfold Hid cmpI; rw [if_neg h1, if_pos h2]
      have h3 : b ≤ a := by omega
      clear h1
      go_enter Tryz.func156, Tryz.ntmps156
      go_wp2_with (go_at_call 161; refine (isNaN_byte _ _).mono ?_; rintro e1 w1 ⟨rfl, rfl⟩)
      go_ret
      exact ⟨by rw [HE.out]; rfl, rfl⟩
    · have HE : Hid (cmpI a b = 0) := by unfold Hid cmpI; rw [if_neg h1, if_neg h2]
      obtain rfl : a = b := by omega
      clear h1 h2
      go_enter Tryz.func156, Tryz.ntmps156
      go_wp2_with (go_at_call 161; refine (isNaN_byte _ _).mono ?_; rintro e1 w1 ⟨rfl, rfl⟩)
      go_ret
      exact ⟨by rw [HE.out]; rfl, rfl⟩

end Go.Proofs.YthhkpkfpifllkaaGreat
