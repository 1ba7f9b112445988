import Derived.Test.YtlkhphhmhffdjaaProg
import Derived.WalkKit
import Derived.WalkSpells
import Derived.WalkLawsBesides
import Derived.Laws.BytesArg
import Derived.Lib.Hide
import Derived.MapKept
set_option linter.unusedSimpArgs false
set_option linter.unusedVariables false
namespace Go.Proofs.Ytlkhphhmhffdjaa
open Go.RowKit

theorem und_bytes : Try.prog.underlying 27 = some (.slice 5) := by kernel_rfl
theorem und_byte : Try.prog.underlying 5 = some (.int .u8) := by kernel_rfl
theorem und_string : Try.prog.underlying 9 = some .string := by kernel_rfl
theorem und_parts : Try.prog.underlying 33 = some (.slice 27) := by kernel_rfl
theorem info_byte : (Try.prog.info? 5).map (fun i => (i.zero, i.size, i.bytes)) = some (some (.int .u8 0), 1, 1) := by kernel_rfl

def bv (bs : List Nat) : List Value := bs.map fun n : Nat => Value.int .u8 (n : Int)

theorem bv_length (bs : List Nat) : (bv bs).length = bs.length := by simp [bv]
theorem bv_append (a b : List Nat) : bv (a ++ b) = bv a ++ bv b := by simp [bv]
theorem bv_oneCell (bs : List Nat) : ∀ u ∈ bv bs, u.oneCell' = true := by
 intro u hu
 simp only [bv, List.mem_map] at hu
 obtain ⟨n, _, rfl⟩ := hu
 rfl
theorem bv_get (bs : List Nat) (j : Nat) (u : Value) (h : (bv bs)[j]? = some u) : j < bs.length ∧ u = .int .u8 ((bs.getD j 0 : Nat) : Int) := by
 simp only [bv, List.getElem?_map, Option.map_eq_some_iff] at h
 obtain ⟨n, hn, rfl⟩ := h
 obtain ⟨hj, rfl⟩ := List.getElem?_eq_some_iff.1 hn
 exact ⟨hj, by simp [List.getD, List.getElem?_eq_getElem hj]⟩

def Bys (bs : List Nat) : Prop := ∀ x ∈ bs, x < 256

def At (w : World) (a : Option Addr) (bs : List Nat) : Prop :=
 bs = [] ∨ ∃ b off, a = some ⟨b, off, none⟩ ∧ ∀ i, i < bs.length → w.cell? ⟨b, off + i, none⟩ = some (.int .u8 ((bs.getD i 0 : Nat) : Int))

def Rd (w : World) (v : Value) (bs : List Nat) : Prop :=
 Bys bs ∧ ∃ a cap, v = .slice a bs.length cap ∧ bs.length ≤ cap ∧ cap ≤ maxLen ∧ bs.length ≤ 281474976710656 ∧ (cap = 0 ∨ ∃ b off, a = some ⟨b, off, none⟩) ∧ At w a bs

theorem At.later {w w' : World} {a : Option Addr} {bs : List Nat} (h : At w a bs) (hb : Below w.heap.size w w') : At w' a bs := by
 rcases h with h | ⟨b, off, rfl, hc⟩
 ·exact .inl h
 ·refine .inr ⟨b, off, rfl, fun i hi => ?_⟩
  have := hc i hi
  rw [hb.cell (p := ⟨b, off + i, none⟩) (World.block_lt_of_cell? w _ this)]
  exact this

theorem At.add {w : World} {x : Addr} {bs : List Nat} (h : At w (some x) bs) : ∀ j u, (bv bs)[j]? = some u → w.cell? (x.add j) = some u := by
 intro j u hj
 obtain ⟨hjl, rfl⟩ := bv_get bs j u hj
 rcases h with rfl | ⟨b, off, h2, hc⟩
 ·simp at hjl
 ·cases h2
  have : (⟨b, off, none⟩ : Addr).add j = ⟨b, off + j, none⟩ := by unfold Addr.add; split <;> simp_all
  rw [this]
  exact hc j hjl

theorem Rd.later {w w' : World} {v : Value} {bs : List Nat} (h : Rd w v bs) (hb : Below w.heap.size w w') : Rd w' v bs := by
 obtain ⟨h1, a, cap, h2, h3, h4, h5, h6, h7⟩ := h
 exact ⟨h1, a, cap, h2, h3, h4, h5, h6, h7.later hb⟩

theorem Rd.nil (w : World) : Rd w (.slice none 0 0) [] := ⟨by intro x hx; simp at hx, none, 0, rfl, Nat.le_refl _, Nat.zero_le _, by simp, .inl rfl, .inl rfl⟩
theorem Rd.of_owns {w : World} {base n : Nat} {v : Value} {bs : List Nat} (hn : n = bs.length) (h : w.ownsRow base 5 1 v n (bv bs)) (hb : Bys bs) (hlen : n ≤ 281474976710656) : Rd w v bs := by
 subst hn
 refine ⟨hb, ?_⟩
 rcases h.2 with ⟨rfl, hn⟩ | ⟨g, cap, cur, rfl, _, hg, hle, hm, hsz, htk⟩
 ·exact ⟨none, 0, by simp [hn], by omega, Nat.zero_le _, hlen, .inl rfl, .inl (List.eq_nil_of_length_eq_zero hn)⟩
 ·refine ⟨_, cap, rfl, hle, hm, hlen, .inr ⟨g, 0, rfl⟩, .inr ⟨g, 0, rfl, fun i hi => ?_⟩⟩
  have hx : (bv bs)[i]? = some (.int .u8 ((bs.getD i 0 : Nat) : Int)) := by
   simp [bv, List.getElem?_eq_getElem hi]
  rw [← htk] at hx
  have hx2 : cur[i]? = some (.int .u8 ((bs.getD i 0 : Nat) : Int)) := by
   rw [List.getElem?_take_of_lt (by omega)] at hx
   simpa using hx
  simp [World.cell?, hg, hx2]

def Own (w : World) (B : Nat) (v : Value) (m : Nat) (xs : List Nat) : Prop := m = xs.length ∧ w.ownsRow B 5 1 v m (bv xs)
theorem Own.own {w : World} {B : Nat} {v : Value} {m : Nat} {xs : List Nat} (h : Own w B v m xs) : w.ownsRow B 5 1 v xs.length (bv xs) := by rw [← h.1]; exact h.2
theorem Own.rd {w : World} {B : Nat} {v : Value} {m : Nat} {xs : List Nat} (h : Own w B v m xs) (hb : Bys xs) (hl : m ≤ 281474976710656) : Rd w v xs := Rd.of_owns h.1 h.2 hb hl
theorem Own.mono {w : World} {B B' : Nat} {v : Value} {m : Nat} {xs : List Nat} (h : Own w B v m xs) (hB : B' ≤ B) : Own w B' v m xs := by
 refine ⟨h.1, h.2.1, ?_⟩
 rcases h.2.2 with h2 | ⟨g, cap, cur, h3, h4, h5⟩
 ·exact .inl h2
 ·exact .inr ⟨g, cap, cur, h3, Nat.le_trans hB h4, h5⟩
theorem Own.later {w w' : World} {B : Nat} {v : Value} {m : Nat} {xs : List Nat} (h : Own w B v m xs) (hb : Below w.heap.size w w') : Own w' B v m xs := by
 refine ⟨h.1, h.2.1, ?_⟩
 rcases h.2.2 with h2 | ⟨g, cap, cur, h3, h4, h5, h6⟩
 ·exact .inl h2
 ·exact .inr ⟨g, cap, cur, h3, h4, by rw [hb.block g (Array.getElem?_eq_some_iff.1 h5).1]; exact h5, h6⟩
theorem own_form {w : World} {B n : Nat} {v : Value} {xs : List Value} (h : w.ownsRow B 5 1 v n xs) : ∃ a c, v = .slice a n c := by
 rcases h.2 with ⟨rfl, rfl⟩ | ⟨g, cap, cur, rfl, _⟩
 ·exact ⟨_, _, rfl⟩
 ·exact ⟨_, _, rfl⟩
def str (bs : List Nat) : ByteArray := strOfNums (bs.map fun n : Nat => (n : Int))

theorem str_inj {a b : List Nat} (ha : Bys a) (hb : Bys b) (h : str a = str b) : a = b := by
 have h2 : (a.map fun n => UInt8.ofNat n) = (b.map fun n => UInt8.ofNat n) := by
  simpa [str, strOfNums, Function.comp_def] using h
 have key : ∀ (x : List Nat), Bys x → (x.map fun n => UInt8.ofNat n).map UInt8.toNat = x := by
  intro x hx
  rw [List.map_map]
  conv => rhs; rw [← List.map_id x]
  apply List.map_congr_left
  intro n hn
  have := hx n hn
  simp [Nat.mod_eq_of_lt this]
 rw [← key a ha, ← key b hb, h2]

theorem conv_none (w : World) (a : Option Addr) (c : Nat) : (convert 27 9 (.slice a 0 c)).run Try.prog w = .ok (.string (str [])) w := by
 rw [run_convert_bytes_string w _ _ _ a 0 c und_bytes und_byte und_string]
 unfold Conv.bytesToString
 cases a with
 | none => rfl
 | some x => rfl
theorem conv_str {w : World} {v : Value} {bs : List Nat} (h : Rd w v bs) : (convert 27 9 v).run Try.prog w = .ok (.string (str bs)) w := by
 obtain ⟨_, a, cap, rfl, hle, hm, _, hn, ha⟩ := h
 rcases ha with rfl | ⟨b, off, rfl, hc⟩
 ·exact conv_none w a cap
 ·refine run_convert_bytes_arg w _ _ und_bytes und_byte b off _ cap _ (by simp) (fun i hi => ?_) _ und_string
  rw [hc i hi]
  simp [List.getElem?_eq_getElem hi]

theorem beq_str {a b : List Nat} (ha : Bys a) (hb : Bys b) : ((str a).toList == (str b).toList) = decide (a = b) := by
 rw [ByteArray.toList_eq, ByteArray.toList_eq]
 by_cases h : a = b
 ·subst h; simp
 ·have h2 : str a ≠ str b := fun e => h (str_inj ha hb e)
  have h3 : (str a).data.toList ≠ (str b).data.toList := by
   intro e
   apply h2
   have e2 := Array.toList_inj.1 e
   cases hx : str a; cases hy : str b
   rw [hx, hy] at e2
   simp_all
  simp [h]
  simpa using h3

set_option maxRecDepth 100000 in
theorem same_any {a b : Value} {xs ys : List Nat} {w : World} (ha : Rd w a xs) (hb : Rd w b ys) :
  Calls Try.prog 31 #[a, b] w fun e w' => e = .returned (.bool (decide (xs = ys))) ∧ w' = w := by
 have h1 := conv_str ha
 have h2 := conv_str hb
 go_enter Try.func31, Try.ntmps31
 go_wp2
 go_ret
 exact ⟨by rw [← beq_str ha.1 hb.1]; rfl, rfl⟩

end Go.Proofs.Ytlkhphhmhffdjaa

namespace Go.Proofs.Ytlkhphhmhffdjaa
open Go.RowKit

def DkCh (c : Nat) : Prop := (97 ≤ c ∧ c ≤ 122) ∨ (65 ≤ c ∧ c ≤ 90) ∨ (48 ≤ c ∧ c ≤ 57) ∨ c = 46 ∨ c = 45 ∨ c = 95 ∨ c = 47
instance (c : Nat) : Decidable (DkCh c) := by unfold DkCh; infer_instance

set_option maxRecDepth 100000 in
theorem inNames_45 (w : World) : Calls Try.prog 96 #[.int .u8 45] w fun e w' => e = .returned (.bool true) ∧ w' = w := by
 go_enter Try.func96, Try.ntmps96
 go_wp2
 go_ret
 exact ⟨by first | rfl | simp_all, rfl⟩

set_option maxRecDepth 100000 in
theorem inNames_46 (w : World) : Calls Try.prog 96 #[.int .u8 46] w fun e w' => e = .returned (.bool true) ∧ w' = w := by
 go_enter Try.func96, Try.ntmps96
 go_wp2
 go_ret
 exact ⟨by first | rfl | simp_all, rfl⟩

set_option maxRecDepth 100000 in
theorem inNames_47 (w : World) : Calls Try.prog 96 #[.int .u8 47] w fun e w' => e = .returned (.bool true) ∧ w' = w := by
 go_enter Try.func96, Try.ntmps96
 go_wp2
 go_ret
 exact ⟨by first | rfl | simp_all, rfl⟩

set_option maxRecDepth 100000 in
theorem inNames_95 (w : World) : Calls Try.prog 96 #[.int .u8 95] w fun e w' => e = .returned (.bool true) ∧ w' = w := by
 go_enter Try.func96, Try.ntmps96
 go_wp2
 go_ret
 exact ⟨by first | rfl | simp_all, rfl⟩

set_option maxRecDepth 100000 in
theorem inNames_r0 {c : Nat} (h1 : 0 ≤ c) (h2 : c ≤ 44) (w : World) : Calls Try.prog 96 #[.int .u8 (c : Int)] w fun e w' => e = .returned (.bool false) ∧ w' = w := by
 have p97 : ¬ (97 : Int) ≤ (c : Int) := by omega
 have d97 : decide ((97 : Int) ≤ (c : Int)) = false := by simp; omega
 have p65 : ¬ (65 : Int) ≤ (c : Int) := by omega
 have d65 : decide ((65 : Int) ≤ (c : Int)) = false := by simp; omega
 have p48 : ¬ (48 : Int) ≤ (c : Int) := by omega
 have d48 : decide ((48 : Int) ≤ (c : Int)) = false := by simp; omega
 have p122 :  (c : Int) ≤ (122 : Int) := by omega
 have d122 : decide ((c : Int) ≤ (122 : Int)) = true := by simp; omega
 have p90 :  (c : Int) ≤ (90 : Int) := by omega
 have d90 : decide ((c : Int) ≤ (90 : Int)) = true := by simp; omega
 have p57 :  (c : Int) ≤ (57 : Int) := by omega
 have d57 : decide ((c : Int) ≤ (57 : Int)) = true := by simp; omega
 have q46 : ¬ (c : Int) = 46 := by omega
 have b46 : ((c : Int) == 46) = false := by simp; omega
 have q45 : ¬ (c : Int) = 45 := by omega
 have b45 : ((c : Int) == 45) = false := by simp; omega
 have q95 : ¬ (c : Int) = 95 := by omega
 have b95 : ((c : Int) == 95) = false := by simp; omega
 have q47 : ¬ (c : Int) = 47 := by omega
 have b47 : ((c : Int) == 47) = false := by simp; omega
 go_enter Try.func96, Try.ntmps96
 go_wp2
 go_ret
 exact ⟨by first | rfl | simp_all, rfl⟩

set_option maxRecDepth 100000 in
theorem inNames_r48 {c : Nat} (h1 : 48 ≤ c) (h2 : c ≤ 57) (w : World) : Calls Try.prog 96 #[.int .u8 (c : Int)] w fun e w' => e = .returned (.bool true) ∧ w' = w := by
 have p97 : ¬ (97 : Int) ≤ (c : Int) := by omega
 have d97 : decide ((97 : Int) ≤ (c : Int)) = false := by simp; omega
 have p65 : ¬ (65 : Int) ≤ (c : Int) := by omega
 have d65 : decide ((65 : Int) ≤ (c : Int)) = false := by simp; omega
 have p48 :  (48 : Int) ≤ (c : Int) := by omega
 have d48 : decide ((48 : Int) ≤ (c : Int)) = true := by simp; omega
 have p122 :  (c : Int) ≤ (122 : Int) := by omega
 have d122 : decide ((c : Int) ≤ (122 : Int)) = true := by simp; omega
 have p90 :  (c : Int) ≤ (90 : Int) := by omega
 have d90 : decide ((c : Int) ≤ (90 : Int)) = true := by simp; omega
 have p57 :  (c : Int) ≤ (57 : Int) := by omega
 have d57 : decide ((c : Int) ≤ (57 : Int)) = true := by simp; omega
 go_enter Try.func96, Try.ntmps96
 go_wp2
 go_ret
 exact ⟨by first | rfl | simp_all, rfl⟩

set_option maxRecDepth 100000 in
theorem inNames_r58 {c : Nat} (h1 : 58 ≤ c) (h2 : c ≤ 64) (w : World) : Calls Try.prog 96 #[.int .u8 (c : Int)] w fun e w' => e = .returned (.bool false) ∧ w' = w := by
 have p97 : ¬ (97 : Int) ≤ (c : Int) := by omega
 have d97 : decide ((97 : Int) ≤ (c : Int)) = false := by simp; omega
 have p65 : ¬ (65 : Int) ≤ (c : Int) := by omega
 have d65 : decide ((65 : Int) ≤ (c : Int)) = false := by simp; omega
 have p48 :  (48 : Int) ≤ (c : Int) := by omega
 have d48 : decide ((48 : Int) ≤ (c : Int)) = true := by simp; omega
 have p122 :  (c : Int) ≤ (122 : Int) := by omega
 have d122 : decide ((c : Int) ≤ (122 : Int)) = true := by simp; omega
 have p90 :  (c : Int) ≤ (90 : Int) := by omega
 have d90 : decide ((c : Int) ≤ (90 : Int)) = true := by simp; omega
 have p57 : ¬ (c : Int) ≤ (57 : Int) := by omega
 have d57 : decide ((c : Int) ≤ (57 : Int)) = false := by simp; omega
 have q46 : ¬ (c : Int) = 46 := by omega
 have b46 : ((c : Int) == 46) = false := by simp; omega
 have q45 : ¬ (c : Int) = 45 := by omega
 have b45 : ((c : Int) == 45) = false := by simp; omega
 have q95 : ¬ (c : Int) = 95 := by omega
 have b95 : ((c : Int) == 95) = false := by simp; omega
 have q47 : ¬ (c : Int) = 47 := by omega
 have b47 : ((c : Int) == 47) = false := by simp; omega
 go_enter Try.func96, Try.ntmps96
 go_wp2
 go_ret
 exact ⟨by first | rfl | simp_all, rfl⟩

set_option maxRecDepth 100000 in
theorem inNames_r65 {c : Nat} (h1 : 65 ≤ c) (h2 : c ≤ 90) (w : World) : Calls Try.prog 96 #[.int .u8 (c : Int)] w fun e w' => e = .returned (.bool true) ∧ w' = w := by
 have p97 : ¬ (97 : Int) ≤ (c : Int) := by omega
 have d97 : decide ((97 : Int) ≤ (c : Int)) = false := by simp; omega
 have p65 :  (65 : Int) ≤ (c : Int) := by omega
 have d65 : decide ((65 : Int) ≤ (c : Int)) = true := by simp; omega
 have p48 :  (48 : Int) ≤ (c : Int) := by omega
 have d48 : decide ((48 : Int) ≤ (c : Int)) = true := by simp; omega
 have p122 :  (c : Int) ≤ (122 : Int) := by omega
 have d122 : decide ((c : Int) ≤ (122 : Int)) = true := by simp; omega
 have p90 :  (c : Int) ≤ (90 : Int) := by omega
 have d90 : decide ((c : Int) ≤ (90 : Int)) = true := by simp; omega
 have p57 : ¬ (c : Int) ≤ (57 : Int) := by omega
 have d57 : decide ((c : Int) ≤ (57 : Int)) = false := by simp; omega
 go_enter Try.func96, Try.ntmps96
 go_wp2
 go_ret
 exact ⟨by first | rfl | simp_all, rfl⟩

set_option maxRecDepth 100000 in
theorem inNames_r91 {c : Nat} (h1 : 91 ≤ c) (h2 : c ≤ 94) (w : World) : Calls Try.prog 96 #[.int .u8 (c : Int)] w fun e w' => e = .returned (.bool false) ∧ w' = w := by
 have p97 : ¬ (97 : Int) ≤ (c : Int) := by omega
 have d97 : decide ((97 : Int) ≤ (c : Int)) = false := by simp; omega
 have p65 :  (65 : Int) ≤ (c : Int) := by omega
 have d65 : decide ((65 : Int) ≤ (c : Int)) = true := by simp; omega
 have p48 :  (48 : Int) ≤ (c : Int) := by omega
 have d48 : decide ((48 : Int) ≤ (c : Int)) = true := by simp; omega
 have p122 :  (c : Int) ≤ (122 : Int) := by omega
 have d122 : decide ((c : Int) ≤ (122 : Int)) = true := by simp; omega
 have p90 : ¬ (c : Int) ≤ (90 : Int) := by omega
 have d90 : decide ((c : Int) ≤ (90 : Int)) = false := by simp; omega
 have p57 : ¬ (c : Int) ≤ (57 : Int) := by omega
 have d57 : decide ((c : Int) ≤ (57 : Int)) = false := by simp; omega
 have q46 : ¬ (c : Int) = 46 := by omega
 have b46 : ((c : Int) == 46) = false := by simp; omega
 have q45 : ¬ (c : Int) = 45 := by omega
 have b45 : ((c : Int) == 45) = false := by simp; omega
 have q95 : ¬ (c : Int) = 95 := by omega
 have b95 : ((c : Int) == 95) = false := by simp; omega
 have q47 : ¬ (c : Int) = 47 := by omega
 have b47 : ((c : Int) == 47) = false := by simp; omega
 go_enter Try.func96, Try.ntmps96
 go_wp2
 go_ret
 exact ⟨by first | rfl | simp_all, rfl⟩

set_option maxRecDepth 100000 in
theorem inNames_r96 {c : Nat} (h1 : 96 ≤ c) (h2 : c ≤ 96) (w : World) : Calls Try.prog 96 #[.int .u8 (c : Int)] w fun e w' => e = .returned (.bool false) ∧ w' = w := by
 have p97 : ¬ (97 : Int) ≤ (c : Int) := by omega
 have d97 : decide ((97 : Int) ≤ (c : Int)) = false := by simp; omega
 have p65 :  (65 : Int) ≤ (c : Int) := by omega
 have d65 : decide ((65 : Int) ≤ (c : Int)) = true := by simp; omega
 have p48 :  (48 : Int) ≤ (c : Int) := by omega
 have d48 : decide ((48 : Int) ≤ (c : Int)) = true := by simp; omega
 have p122 :  (c : Int) ≤ (122 : Int) := by omega
 have d122 : decide ((c : Int) ≤ (122 : Int)) = true := by simp; omega
 have p90 : ¬ (c : Int) ≤ (90 : Int) := by omega
 have d90 : decide ((c : Int) ≤ (90 : Int)) = false := by simp; omega
 have p57 : ¬ (c : Int) ≤ (57 : Int) := by omega
 have d57 : decide ((c : Int) ≤ (57 : Int)) = false := by simp; omega
 have q46 : ¬ (c : Int) = 46 := by omega
 have b46 : ((c : Int) == 46) = false := by simp; omega
 have q45 : ¬ (c : Int) = 45 := by omega
 have b45 : ((c : Int) == 45) = false := by simp; omega
 have q95 : ¬ (c : Int) = 95 := by omega
 have b95 : ((c : Int) == 95) = false := by simp; omega
 have q47 : ¬ (c : Int) = 47 := by omega
 have b47 : ((c : Int) == 47) = false := by simp; omega
 go_enter Try.func96, Try.ntmps96
 go_wp2
 go_ret
 exact ⟨by first | rfl | simp_all, rfl⟩

set_option maxRecDepth 100000 in
theorem inNames_r97 {c : Nat} (h1 : 97 ≤ c) (h2 : c ≤ 122) (w : World) : Calls Try.prog 96 #[.int .u8 (c : Int)] w fun e w' => e = .returned (.bool true) ∧ w' = w := by
 have p97 :  (97 : Int) ≤ (c : Int) := by omega
 have d97 : decide ((97 : Int) ≤ (c : Int)) = true := by simp; omega
 have p65 :  (65 : Int) ≤ (c : Int) := by omega
 have d65 : decide ((65 : Int) ≤ (c : Int)) = true := by simp; omega
 have p48 :  (48 : Int) ≤ (c : Int) := by omega
 have d48 : decide ((48 : Int) ≤ (c : Int)) = true := by simp; omega
 have p122 :  (c : Int) ≤ (122 : Int) := by omega
 have d122 : decide ((c : Int) ≤ (122 : Int)) = true := by simp; omega
 have p90 : ¬ (c : Int) ≤ (90 : Int) := by omega
 have d90 : decide ((c : Int) ≤ (90 : Int)) = false := by simp; omega
 have p57 : ¬ (c : Int) ≤ (57 : Int) := by omega
 have d57 : decide ((c : Int) ≤ (57 : Int)) = false := by simp; omega
 go_enter Try.func96, Try.ntmps96
 go_wp2
 go_ret
 exact ⟨by first | rfl | simp_all, rfl⟩

set_option maxRecDepth 100000 in
theorem inNames_r123 {c : Nat} (h1 : 123 ≤ c) (h2 : c ≤ 255) (w : World) : Calls Try.prog 96 #[.int .u8 (c : Int)] w fun e w' => e = .returned (.bool false) ∧ w' = w := by
 have p97 :  (97 : Int) ≤ (c : Int) := by omega
 have d97 : decide ((97 : Int) ≤ (c : Int)) = true := by simp; omega
 have p65 :  (65 : Int) ≤ (c : Int) := by omega
 have d65 : decide ((65 : Int) ≤ (c : Int)) = true := by simp; omega
 have p48 :  (48 : Int) ≤ (c : Int) := by omega
 have d48 : decide ((48 : Int) ≤ (c : Int)) = true := by simp; omega
 have p122 : ¬ (c : Int) ≤ (122 : Int) := by omega
 have d122 : decide ((c : Int) ≤ (122 : Int)) = false := by simp; omega
 have p90 : ¬ (c : Int) ≤ (90 : Int) := by omega
 have d90 : decide ((c : Int) ≤ (90 : Int)) = false := by simp; omega
 have p57 : ¬ (c : Int) ≤ (57 : Int) := by omega
 have d57 : decide ((c : Int) ≤ (57 : Int)) = false := by simp; omega
 have q46 : ¬ (c : Int) = 46 := by omega
 have b46 : ((c : Int) == 46) = false := by simp; omega
 have q45 : ¬ (c : Int) = 45 := by omega
 have b45 : ((c : Int) == 45) = false := by simp; omega
 have q95 : ¬ (c : Int) = 95 := by omega
 have b95 : ((c : Int) == 95) = false := by simp; omega
 have q47 : ¬ (c : Int) = 47 := by omega
 have b47 : ((c : Int) == 47) = false := by simp; omega
 go_enter Try.func96, Try.ntmps96
 go_wp2
 go_ret
 exact ⟨by first | rfl | simp_all, rfl⟩

theorem inNames_any {c : Nat} (hc : c ≤ 255) (w : World) : Calls Try.prog 96 #[.int .u8 (c : Int)] w fun e w' => e = .returned (.bool (decide (DkCh c))) ∧ w' = w := by
 have y : ∀ {b : Bool}, (b = true ↔ DkCh c) → (Calls Try.prog 96 #[.int .u8 (c : Int)] w fun e w' => e = .returned (.bool b) ∧ w' = w) → Calls Try.prog 96 #[.int .u8 (c : Int)] w fun e w' => e = .returned (.bool (decide (DkCh c))) ∧ w' = w := fun {b} hb h => by
  have e : decide (DkCh c) = b := by
   cases b with
   | true => exact decide_eq_true (hb.1 rfl)
   | false => exact decide_eq_false (fun k => by have := hb.2 k; cases this)
  rw [e]
  exact h
 have n : ∀ {P : Prop}, ¬ P → ((false : Bool) = true ↔ P) := fun h => iff_of_false (by decide) h
 have t : ∀ {P : Prop}, P → ((true : Bool) = true ↔ P) := fun h => iff_of_true rfl h
 unfold DkCh at y
 by_cases g1 : c ≤ 44
 ·exact y (n (by omega)) (inNames_r0 (Nat.zero_le _) g1 w)
 by_cases g2 : c = 45
 ·subst g2; exact y (t (by omega)) (inNames_45 w)
 by_cases g3 : c = 46
 ·subst g3; exact y (t (by omega)) (inNames_46 w)
 by_cases g4 : c = 47
 ·subst g4; exact y (t (by omega)) (inNames_47 w)
 by_cases g5 : c ≤ 57
 ·exact y (t (by omega)) (inNames_r48 (by omega) g5 w)
 by_cases g6 : c ≤ 64
 ·exact y (n (by omega)) (inNames_r58 (by omega) g6 w)
 by_cases g7 : c ≤ 90
 ·exact y (t (by omega)) (inNames_r65 (by omega) g7 w)
 by_cases g8 : c ≤ 94
 ·exact y (n (by omega)) (inNames_r91 (by omega) g8 w)
 by_cases g9 : c = 95
 ·subst g9; exact y (t (by omega)) (inNames_95 w)
 by_cases g10 : c ≤ 96
 ·exact y (n (by omega)) (inNames_r96 (by omega) g10 w)
 by_cases g11 : c ≤ 122
 ·exact y (t (by omega)) (inNames_r97 (by omega) g11 w)
 ·exact y (n (by omega)) (inNames_r123 (by omega) hc w)
end Go.Proofs.Ytlkhphhmhffdjaa

namespace Go.Proofs.Ytlkhphhmhffdjaa
open Go.RowKit

def byt4 (s : ByteArray) (i : Nat) : Nat := if h : i < s.size then (s[i]'h).toNat else 0
theorem byt4_in {s : ByteArray} {i : Nat} (h : i < s.size) : byt4 s i = (s[i]'h).toNat := by unfold byt4; rw [dif_pos h]
theorem byt4_le (s : ByteArray) (i : Nat) : byt4 s i ≤ 255 := by
 unfold byt4
 split
 ·rename_i h; have := (s[i]'h).toNat_lt; omega
 ·omega
def DkName (s : ByteArray) : Prop := 1 ≤ s.size ∧ s.size ≤ 64 ∧ ∀ i, i < s.size → DkCh (byt4 s i)
set_option maxRecDepth 100000 in
theorem dkName_len {s : ByteArray} (h : s.size < 1 ∨ 64 < s.size) (w : World) : Calls Try.prog 83 #[.string s] w fun e w' => e = .returned (.bool false) ∧ w' = w := by
 by_cases h1 : s.size < 1
 ·have d1 : decide ((s.size : Int) < 1) = true := decide_eq_true (by omega)
  have i1 : (s.size : Int) < 1 := by omega
  clear h
  go_enter Try.func83, Try.ntmps83
  go_wp2
  go_ret
  exact ⟨rfl, rfl⟩
 ·have d1 : decide ((s.size : Int) < 1) = false := decide_eq_false (by omega)
  have d2 : decide ((64 : Int) < (s.size : Int)) = true := decide_eq_true (by omega)
  have i1 : (1 : Int) ≤ (s.size : Int) := by omega
  have i2 : (64 : Int) < (s.size : Int) := by omega
  clear h
  go_enter Try.func83, Try.ntmps83
  go_wp2
  go_ret
  exact ⟨rfl, rfl⟩
set_option maxRecDepth 100000 in
set_option maxHeartbeats 4000000 in
theorem dkName_in {s : ByteArray} (h1 : 1 ≤ s.size) (h2 : s.size ≤ 64) (w : World) (R : Bool) (hR : R = true ↔ ∀ i, i < s.size → DkCh (byt4 s i)) : Calls Try.prog 83 #[.string s] w fun e w' => e = .returned (.bool R) ∧ w' = w := by
 have HR : Hid (R = true ↔ ∀ i, i < s.size → DkCh (byt4 s i)) := hR
 have i1 : (1 : Int) ≤ (s.size : Int) := by omega
 have i2 : (s.size : Int) ≤ 64 := by omega
 have d1 : decide ((s.size : Int) < 1) = false := decide_eq_false (by omega)
 have d2 : decide ((64 : Int) < (s.size : Int)) = false := decide_eq_false (by omega)
 clear hR
 go_enter Try.func83, Try.ntmps83
 go_wp2
 go_loopw [3, 14] (fun _ i wr => ∃ t : Nat, t ≤ s.size ∧ i = .int .i64 (t : Int) ∧ wr = w ∧ ∀ j, j < t → DkCh (byt4 s j)) (fun _ i _ => s.size - (intOf i).toNat)
 case atStart => exact ⟨0, by omega, rfl, rfl, fun j hj => absurd hj (by omega)⟩
 case round =>
  obtain ⟨t, ht, rfl, rfl, hj⟩ := hrel
  have HJ : Hid (∀ j, j < t → DkCh (byt4 s j)) := hj
  clear hj
  by_cases hlt : t < s.size
  ·have j1 : (t : Int) < (s.size : Int) := by omega
   have j2 : (0 : Int) ≤ (t : Int) := by omega
   have HBY : Hid (byt4 s t = (s[t]'hlt).toNat) := byt4_in hlt
   have HC := Lib.hid (inNames_any (c := (s[t]'hlt).toNat) (by have := byt4_le s t; rw [HBY.out] at this; exact this) wr)
   by_cases hok : DkCh (byt4 s t)
   ·have hok2 : decide (DkCh (s[t]'hlt).toNat) = true := decide_eq_true (by rw [← HBY.out]; exact hok)
    rw [hok2] at HC
    have HOK := Lib.hid hok
    clear hok hok2
    go_wp2_with fail
    refine HC.out.mono ?_
    rintro e w2 ⟨rfl, rfl⟩
    go_wp2
    go_roundw
    case rel => exact ⟨t + 1, by omega, by go_num, trivial, fun j hj => by
     by_cases e : j = t
     ·rw [e]; exact HOK.out
     ·exact HJ.out j (by omega)⟩
    case measure => simp [intOf]; omega
   ·have hok2 : decide (DkCh (s[t]'hlt).toNat) = false := decide_eq_false (by rw [← HBY.out]; exact hok)
    rw [hok2] at HC
    have hRf : R = false := by
     cases hr : R with
     | false => rfl
     | true => exact absurd ((HR.out.1 hr) t hlt) hok
    subst hRf
    clear hok hok2
    go_wp2_with fail
    refine HC.out.mono ?_
    rintro e w2 ⟨rfl, rfl⟩
    go_wp2
    go_ret
    exact ⟨rfl, rfl⟩
  ·have j1 : (s.size : Int) ≤ (t : Int) := by omega
   have hRt : R = true := HR.out.2 (fun i hi => HJ.out i (by omega))
   subst hRt
   go_wp2
   go_ret
   exact ⟨rfl, rfl⟩
instance (s : ByteArray) : Decidable (DkName s) := by unfold DkName; infer_instance
theorem dkName_any (s : ByteArray) (w : World) : Calls Try.prog 83 #[.string s] w fun e w' => e = .returned (.bool (decide (DkName s))) ∧ w' = w := by
 by_cases h : s.size < 1 ∨ 64 < s.size
 ·rw [decide_eq_false (fun k : DkName s => by have := k.1; have := k.2.1; omega)]
  exact dkName_len h w
 ·refine dkName_in (by omega) (by omega) w _ ?_
  rw [decide_eq_true_iff]
  exact ⟨fun k => k.2.2, fun k => ⟨by omega, by omega, k⟩⟩
end Go.Proofs.Ytlkhphhmhffdjaa

namespace Go.Proofs.Ytlkhphhmhffdjaa
open Go.RowKit
theorem refName_len {s : ByteArray} (h : s.size < 1 ∨ 64 < s.size) (w : World) : Calls Try.prog 40 #[.string s] w fun e w' => e = .returned (.bool false) ∧ w' = w := by
 by_cases h1 : s.size < 1
 ·have d1 : decide ((s.size : Int) < 1) = true := decide_eq_true (by omega)
  have i1 : (s.size : Int) < 1 := by omega
  clear h
  go_enter Try.func40, Try.ntmps40
  go_wp2
  go_ret
  exact ⟨rfl, rfl⟩
 ·have d1 : decide ((s.size : Int) < 1) = false := decide_eq_false (by omega)
  have d2 : decide ((64 : Int) < (s.size : Int)) = true := decide_eq_true (by omega)
  have i1 : (1 : Int) ≤ (s.size : Int) := by omega
  have i2 : (64 : Int) < (s.size : Int) := by omega
  clear h
  go_enter Try.func40, Try.ntmps40
  go_wp2
  go_ret
  exact ⟨rfl, rfl⟩
set_option maxRecDepth 100000 in
set_option maxHeartbeats 8000000 in
theorem refName_in {s : ByteArray} (h1 : 1 ≤ s.size) (h2 : s.size ≤ 64) (w : World) (R : Bool) (hR : R = true ↔ ∀ i, i < s.size → DkCh (byt4 s i)) : Calls Try.prog 40 #[.string s] w fun e w' => e = .returned (.bool R) ∧ w' = w := by
 have HR : Hid (R = true ↔ ∀ i, i < s.size → DkCh (byt4 s i)) := hR
 have i1 : (1 : Int) ≤ (s.size : Int) := by omega
 have i2 : (s.size : Int) ≤ 64 := by omega
 have d1 : decide ((s.size : Int) < 1) = false := decide_eq_false (by omega)
 have d2 : decide ((64 : Int) < (s.size : Int)) = false := decide_eq_false (by omega)
 clear hR
 go_enter Try.func40, Try.ntmps40
 go_wp2
 go_loopw [3] (fun i wr => ∃ t : Nat, t ≤ s.size ∧ i = .int .i64 (t : Int) ∧ wr = w ∧ ∀ j, j < t → DkCh (byt4 s j)) (fun i _ => s.size - (intOf i).toNat)
 case atStart => exact ⟨0, by omega, rfl, rfl, fun j hj => absurd hj (by omega)⟩
 case round =>
  obtain ⟨t, ht, rfl, rfl, hj⟩ := hrel
  have HJ : Hid (∀ j, j < t → DkCh (byt4 s j)) := hj
  clear hj
  by_cases hlt : t < s.size
  ·have j1 : (t : Int) < (s.size : Int) := by omega
   have j2 : (0 : Int) ≤ (t : Int) := by omega
   have HBY : Hid (byt4 s t = (s[t]'hlt).toNat) := byt4_in hlt
   have hb : (s[t]'hlt).toNat ≤ 255 := by have := byt4_le s t; rw [HBY.out] at this; exact this
   by_cases r0 : (s[t]'hlt).toNat ≤ 44
   ·have p97 : ¬ (97 : Int) ≤ ((s[t]'hlt).toNat : Int) := by omega
    have d97 : decide ((97 : Int) ≤ ((s[t]'hlt).toNat : Int)) = false := by simp; omega
    have p65 : ¬ (65 : Int) ≤ ((s[t]'hlt).toNat : Int) := by omega
    have d65 : decide ((65 : Int) ≤ ((s[t]'hlt).toNat : Int)) = false := by simp; omega
    have p48 : ¬ (48 : Int) ≤ ((s[t]'hlt).toNat : Int) := by omega
    have d48 : decide ((48 : Int) ≤ ((s[t]'hlt).toNat : Int)) = false := by simp; omega
    have p122 :  ((s[t]'hlt).toNat : Int) ≤ (122 : Int) := by omega
    have d122 : decide (((s[t]'hlt).toNat : Int) ≤ (122 : Int)) = true := by simp; omega
    have p90 :  ((s[t]'hlt).toNat : Int) ≤ (90 : Int) := by omega
    have d90 : decide (((s[t]'hlt).toNat : Int) ≤ (90 : Int)) = true := by simp; omega
    have p57 :  ((s[t]'hlt).toNat : Int) ≤ (57 : Int) := by omega
    have d57 : decide (((s[t]'hlt).toNat : Int) ≤ (57 : Int)) = true := by simp; omega
    have q46 : ¬ ((s[t]'hlt).toNat : Int) = 46 := by omega
    have b46 : (((s[t]'hlt).toNat : Int) == 46) = false := by simp; omega
    have n46 : (((s[t]'hlt).toNat : Int) != 46) = true := by simp; omega
    have q45 : ¬ ((s[t]'hlt).toNat : Int) = 45 := by omega
    have b45 : (((s[t]'hlt).toNat : Int) == 45) = false := by simp; omega
    have n45 : (((s[t]'hlt).toNat : Int) != 45) = true := by simp; omega
    have q95 : ¬ ((s[t]'hlt).toNat : Int) = 95 := by omega
    have b95 : (((s[t]'hlt).toNat : Int) == 95) = false := by simp; omega
    have n95 : (((s[t]'hlt).toNat : Int) != 95) = true := by simp; omega
    have q47 : ¬ ((s[t]'hlt).toNat : Int) = 47 := by omega
    have b47 : (((s[t]'hlt).toNat : Int) == 47) = false := by simp; omega
    have n47 : (((s[t]'hlt).toNat : Int) != 47) = true := by simp; omega
    have hok : ¬ DkCh (byt4 s t) := by rw [HBY.out]; unfold DkCh; omega
    have hRf : R = false := by
     cases hr : R with
     | false => rfl
     | true => exact absurd ((HR.out.1 hr) t hlt) hok
    subst hRf
    clear hok r0 hb
    go_wp2
    go_ret
    exact ⟨rfl, rfl⟩
   by_cases r45 : (s[t]'hlt).toNat ≤ 45
   ·have p97 : ¬ (97 : Int) ≤ ((s[t]'hlt).toNat : Int) := by omega
    have d97 : decide ((97 : Int) ≤ ((s[t]'hlt).toNat : Int)) = false := by simp; omega
    have p65 : ¬ (65 : Int) ≤ ((s[t]'hlt).toNat : Int) := by omega
    have d65 : decide ((65 : Int) ≤ ((s[t]'hlt).toNat : Int)) = false := by simp; omega
    have p48 : ¬ (48 : Int) ≤ ((s[t]'hlt).toNat : Int) := by omega
    have d48 : decide ((48 : Int) ≤ ((s[t]'hlt).toNat : Int)) = false := by simp; omega
    have p122 :  ((s[t]'hlt).toNat : Int) ≤ (122 : Int) := by omega
    have d122 : decide (((s[t]'hlt).toNat : Int) ≤ (122 : Int)) = true := by simp; omega
    have p90 :  ((s[t]'hlt).toNat : Int) ≤ (90 : Int) := by omega
    have d90 : decide (((s[t]'hlt).toNat : Int) ≤ (90 : Int)) = true := by simp; omega
    have p57 :  ((s[t]'hlt).toNat : Int) ≤ (57 : Int) := by omega
    have d57 : decide (((s[t]'hlt).toNat : Int) ≤ (57 : Int)) = true := by simp; omega
    have q46 : ¬ ((s[t]'hlt).toNat : Int) = 46 := by omega
    have b46 : (((s[t]'hlt).toNat : Int) == 46) = false := by simp; omega
    have n46 : (((s[t]'hlt).toNat : Int) != 46) = true := by simp; omega
    have q45 :  ((s[t]'hlt).toNat : Int) = 45 := by omega
    have b45 : (((s[t]'hlt).toNat : Int) == 45) = true := by simp; omega
    have n45 : (((s[t]'hlt).toNat : Int) != 45) = false := by simp; omega
    have q95 : ¬ ((s[t]'hlt).toNat : Int) = 95 := by omega
    have b95 : (((s[t]'hlt).toNat : Int) == 95) = false := by simp; omega
    have n95 : (((s[t]'hlt).toNat : Int) != 95) = true := by simp; omega
    have q47 : ¬ ((s[t]'hlt).toNat : Int) = 47 := by omega
    have b47 : (((s[t]'hlt).toNat : Int) == 47) = false := by simp; omega
    have n47 : (((s[t]'hlt).toNat : Int) != 47) = true := by simp; omega
    have HOK : Hid (DkCh (byt4 s t)) := by rw [HBY.out]; unfold DkCh Hid; omega
    clear r0 r45 hb
    go_wp2
    go_roundw
    case rel => exact ⟨t + 1, by omega, by go_num, trivial, fun j hj => by
     by_cases e : j = t
     ·rw [e]; exact HOK.out
     ·exact HJ.out j (by omega)⟩
    case measure => simp [intOf]; omega
   by_cases r46 : (s[t]'hlt).toNat ≤ 46
   ·have p97 : ¬ (97 : Int) ≤ ((s[t]'hlt).toNat : Int) := by omega
    have d97 : decide ((97 : Int) ≤ ((s[t]'hlt).toNat : Int)) = false := by simp; omega
    have p65 : ¬ (65 : Int) ≤ ((s[t]'hlt).toNat : Int) := by omega
    have d65 : decide ((65 : Int) ≤ ((s[t]'hlt).toNat : Int)) = false := by simp; omega
    have p48 : ¬ (48 : Int) ≤ ((s[t]'hlt).toNat : Int) := by omega
    have d48 : decide ((48 : Int) ≤ ((s[t]'hlt).toNat : Int)) = false := by simp; omega
    have p122 :  ((s[t]'hlt).toNat : Int) ≤ (122 : Int) := by omega
    have d122 : decide (((s[t]'hlt).toNat : Int) ≤ (122 : Int)) = true := by simp; omega
    have p90 :  ((s[t]'hlt).toNat : Int) ≤ (90 : Int) := by omega
    have d90 : decide (((s[t]'hlt).toNat : Int) ≤ (90 : Int)) = true := by simp; omega
    have p57 :  ((s[t]'hlt).toNat : Int) ≤ (57 : Int) := by omega
    have d57 : decide (((s[t]'hlt).toNat : Int) ≤ (57 : Int)) = true := by simp; omega
    have q46 :  ((s[t]'hlt).toNat : Int) = 46 := by omega
    have b46 : (((s[t]'hlt).toNat : Int) == 46) = true := by simp; omega
    have n46 : (((s[t]'hlt).toNat : Int) != 46) = false := by simp; omega
    have q45 : ¬ ((s[t]'hlt).toNat : Int) = 45 := by omega
    have b45 : (((s[t]'hlt).toNat : Int) == 45) = false := by simp; omega
    have n45 : (((s[t]'hlt).toNat : Int) != 45) = true := by simp; omega
    have q95 : ¬ ((s[t]'hlt).toNat : Int) = 95 := by omega
    have b95 : (((s[t]'hlt).toNat : Int) == 95) = false := by simp; omega
    have n95 : (((s[t]'hlt).toNat : Int) != 95) = true := by simp; omega
    have q47 : ¬ ((s[t]'hlt).toNat : Int) = 47 := by omega
    have b47 : (((s[t]'hlt).toNat : Int) == 47) = false := by simp; omega
    have n47 : (((s[t]'hlt).toNat : Int) != 47) = true := by simp; omega
    have HOK : Hid (DkCh (byt4 s t)) := by rw [HBY.out]; unfold DkCh Hid; omega
    clear r0 r45 r46 hb
    go_wp2
    go_roundw
    case rel => exact ⟨t + 1, by omega, by go_num, trivial, fun j hj => by
     by_cases e : j = t
     ·rw [e]; exact HOK.out
     ·exact HJ.out j (by omega)⟩
    case measure => simp [intOf]; omega
   by_cases r47 : (s[t]'hlt).toNat ≤ 47
   ·have p97 : ¬ (97 : Int) ≤ ((s[t]'hlt).toNat : Int) := by omega
    have d97 : decide ((97 : Int) ≤ ((s[t]'hlt).toNat : Int)) = false := by simp; omega
    have p65 : ¬ (65 : Int) ≤ ((s[t]'hlt).toNat : Int) := by omega
    have d65 : decide ((65 : Int) ≤ ((s[t]'hlt).toNat : Int)) = false := by simp; omega
    have p48 : ¬ (48 : Int) ≤ ((s[t]'hlt).toNat : Int) := by omega
    have d48 : decide ((48 : Int) ≤ ((s[t]'hlt).toNat : Int)) = false := by simp; omega
    have p122 :  ((s[t]'hlt).toNat : Int) ≤ (122 : Int) := by omega
    have d122 : decide (((s[t]'hlt).toNat : Int) ≤ (122 : Int)) = true := by simp; omega
    have p90 :  ((s[t]'hlt).toNat : Int) ≤ (90 : Int) := by omega
    have d90 : decide (((s[t]'hlt).toNat : Int) ≤ (90 : Int)) = true := by simp; omega
    have p57 :  ((s[t]'hlt).toNat : Int) ≤ (57 : Int) := by omega
    have d57 : decide (((s[t]'hlt).toNat : Int) ≤ (57 : Int)) = true := by simp; omega
    have q46 : ¬ ((s[t]'hlt).toNat : Int) = 46 := by omega
    have b46 : (((s[t]'hlt).toNat : Int) == 46) = false := by simp; omega
    have n46 : (((s[t]'hlt).toNat : Int) != 46) = true := by simp; omega
    have q45 : ¬ ((s[t]'hlt).toNat : Int) = 45 := by omega
    have b45 : (((s[t]'hlt).toNat : Int) == 45) = false := by simp; omega
    have n45 : (((s[t]'hlt).toNat : Int) != 45) = true := by simp; omega
    have q95 : ¬ ((s[t]'hlt).toNat : Int) = 95 := by omega
    have b95 : (((s[t]'hlt).toNat : Int) == 95) = false := by simp; omega
    have n95 : (((s[t]'hlt).toNat : Int) != 95) = true := by simp; omega
    have q47 :  ((s[t]'hlt).toNat : Int) = 47 := by omega
    have b47 : (((s[t]'hlt).toNat : Int) == 47) = true := by simp; omega
    have n47 : (((s[t]'hlt).toNat : Int) != 47) = false := by simp; omega
    have HOK : Hid (DkCh (byt4 s t)) := by rw [HBY.out]; unfold DkCh Hid; omega
    clear r0 r45 r46 r47 hb
    go_wp2
    go_roundw
    case rel => exact ⟨t + 1, by omega, by go_num, trivial, fun j hj => by
     by_cases e : j = t
     ·rw [e]; exact HOK.out
     ·exact HJ.out j (by omega)⟩
    case measure => simp [intOf]; omega
   by_cases r48 : (s[t]'hlt).toNat ≤ 57
   ·have p97 : ¬ (97 : Int) ≤ ((s[t]'hlt).toNat : Int) := by omega
    have d97 : decide ((97 : Int) ≤ ((s[t]'hlt).toNat : Int)) = false := by simp; omega
    have p65 : ¬ (65 : Int) ≤ ((s[t]'hlt).toNat : Int) := by omega
    have d65 : decide ((65 : Int) ≤ ((s[t]'hlt).toNat : Int)) = false := by simp; omega
    have p48 :  (48 : Int) ≤ ((s[t]'hlt).toNat : Int) := by omega
    have d48 : decide ((48 : Int) ≤ ((s[t]'hlt).toNat : Int)) = true := by simp; omega
    have p122 :  ((s[t]'hlt).toNat : Int) ≤ (122 : Int) := by omega
    have d122 : decide (((s[t]'hlt).toNat : Int) ≤ (122 : Int)) = true := by simp; omega
    have p90 :  ((s[t]'hlt).toNat : Int) ≤ (90 : Int) := by omega
    have d90 : decide (((s[t]'hlt).toNat : Int) ≤ (90 : Int)) = true := by simp; omega
    have p57 :  ((s[t]'hlt).toNat : Int) ≤ (57 : Int) := by omega
    have d57 : decide (((s[t]'hlt).toNat : Int) ≤ (57 : Int)) = true := by simp; omega
    have q46 : ¬ ((s[t]'hlt).toNat : Int) = 46 := by omega
    have b46 : (((s[t]'hlt).toNat : Int) == 46) = false := by simp; omega
    have n46 : (((s[t]'hlt).toNat : Int) != 46) = true := by simp; omega
    have q45 : ¬ ((s[t]'hlt).toNat : Int) = 45 := by omega
    have b45 : (((s[t]'hlt).toNat : Int) == 45) = false := by simp; omega
    have n45 : (((s[t]'hlt).toNat : Int) != 45) = true := by simp; omega
    have q95 : ¬ ((s[t]'hlt).toNat : Int) = 95 := by omega
    have b95 : (((s[t]'hlt).toNat : Int) == 95) = false := by simp; omega
    have n95 : (((s[t]'hlt).toNat : Int) != 95) = true := by simp; omega
    have q47 : ¬ ((s[t]'hlt).toNat : Int) = 47 := by omega
    have b47 : (((s[t]'hlt).toNat : Int) == 47) = false := by simp; omega
    have n47 : (((s[t]'hlt).toNat : Int) != 47) = true := by simp; omega
    have HOK : Hid (DkCh (byt4 s t)) := by rw [HBY.out]; unfold DkCh Hid; omega
    clear r0 r45 r46 r47 r48 hb
    go_wp2
    go_roundw
    case rel => exact ⟨t + 1, by omega, by go_num, trivial, fun j hj => by
     by_cases e : j = t
     ·rw [e]; exact HOK.out
     ·exact HJ.out j (by omega)⟩
    case measure => simp [intOf]; omega
   by_cases r58 : (s[t]'hlt).toNat ≤ 64
   ·have p97 : ¬ (97 : Int) ≤ ((s[t]'hlt).toNat : Int) := by omega
    have d97 : decide ((97 : Int) ≤ ((s[t]'hlt).toNat : Int)) = false := by simp; omega
    have p65 : ¬ (65 : Int) ≤ ((s[t]'hlt).toNat : Int) := by omega
    have d65 : decide ((65 : Int) ≤ ((s[t]'hlt).toNat : Int)) = false := by simp; omega
    have p48 :  (48 : Int) ≤ ((s[t]'hlt).toNat : Int) := by omega
    have d48 : decide ((48 : Int) ≤ ((s[t]'hlt).toNat : Int)) = true := by simp; omega
    have p122 :  ((s[t]'hlt).toNat : Int) ≤ (122 : Int) := by omega
    have d122 : decide (((s[t]'hlt).toNat : Int) ≤ (122 : Int)) = true := by simp; omega
    have p90 :  ((s[t]'hlt).toNat : Int) ≤ (90 : Int) := by omega
    have d90 : decide (((s[t]'hlt).toNat : Int) ≤ (90 : Int)) = true := by simp; omega
    have p57 : ¬ ((s[t]'hlt).toNat : Int) ≤ (57 : Int) := by omega
    have d57 : decide (((s[t]'hlt).toNat : Int) ≤ (57 : Int)) = false := by simp; omega
    have q46 : ¬ ((s[t]'hlt).toNat : Int) = 46 := by omega
    have b46 : (((s[t]'hlt).toNat : Int) == 46) = false := by simp; omega
    have n46 : (((s[t]'hlt).toNat : Int) != 46) = true := by simp; omega
    have q45 : ¬ ((s[t]'hlt).toNat : Int) = 45 := by omega
    have b45 : (((s[t]'hlt).toNat : Int) == 45) = false := by simp; omega
    have n45 : (((s[t]'hlt).toNat : Int) != 45) = true := by simp; omega
    have q95 : ¬ ((s[t]'hlt).toNat : Int) = 95 := by omega
    have b95 : (((s[t]'hlt).toNat : Int) == 95) = false := by simp; omega
    have n95 : (((s[t]'hlt).toNat : Int) != 95) = true := by simp; omega
    have q47 : ¬ ((s[t]'hlt).toNat : Int) = 47 := by omega
    have b47 : (((s[t]'hlt).toNat : Int) == 47) = false := by simp; omega
    have n47 : (((s[t]'hlt).toNat : Int) != 47) = true := by simp; omega
    have hok : ¬ DkCh (byt4 s t) := by rw [HBY.out]; unfold DkCh; omega
    have hRf : R = false := by
     cases hr : R with
     | false => rfl
     | true => exact absurd ((HR.out.1 hr) t hlt) hok
    subst hRf
    clear hok r0 r45 r46 r47 r48 r58 hb
    go_wp2
    go_ret
    exact ⟨rfl, rfl⟩
   by_cases r65 : (s[t]'hlt).toNat ≤ 90
   ·have p97 : ¬ (97 : Int) ≤ ((s[t]'hlt).toNat : Int) := by omega
    have d97 : decide ((97 : Int) ≤ ((s[t]'hlt).toNat : Int)) = false := by simp; omega
    have p65 :  (65 : Int) ≤ ((s[t]'hlt).toNat : Int) := by omega
    have d65 : decide ((65 : Int) ≤ ((s[t]'hlt).toNat : Int)) = true := by simp; omega
    have p48 :  (48 : Int) ≤ ((s[t]'hlt).toNat : Int) := by omega
    have d48 : decide ((48 : Int) ≤ ((s[t]'hlt).toNat : Int)) = true := by simp; omega
    have p122 :  ((s[t]'hlt).toNat : Int) ≤ (122 : Int) := by omega
    have d122 : decide (((s[t]'hlt).toNat : Int) ≤ (122 : Int)) = true := by simp; omega
    have p90 :  ((s[t]'hlt).toNat : Int) ≤ (90 : Int) := by omega
    have d90 : decide (((s[t]'hlt).toNat : Int) ≤ (90 : Int)) = true := by simp; omega
    have p57 : ¬ ((s[t]'hlt).toNat : Int) ≤ (57 : Int) := by omega
    have d57 : decide (((s[t]'hlt).toNat : Int) ≤ (57 : Int)) = false := by simp; omega
    have q46 : ¬ ((s[t]'hlt).toNat : Int) = 46 := by omega
    have b46 : (((s[t]'hlt).toNat : Int) == 46) = false := by simp; omega
    have n46 : (((s[t]'hlt).toNat : Int) != 46) = true := by simp; omega
    have q45 : ¬ ((s[t]'hlt).toNat : Int) = 45 := by omega
    have b45 : (((s[t]'hlt).toNat : Int) == 45) = false := by simp; omega
    have n45 : (((s[t]'hlt).toNat : Int) != 45) = true := by simp; omega
    have q95 : ¬ ((s[t]'hlt).toNat : Int) = 95 := by omega
    have b95 : (((s[t]'hlt).toNat : Int) == 95) = false := by simp; omega
    have n95 : (((s[t]'hlt).toNat : Int) != 95) = true := by simp; omega
    have q47 : ¬ ((s[t]'hlt).toNat : Int) = 47 := by omega
    have b47 : (((s[t]'hlt).toNat : Int) == 47) = false := by simp; omega
    have n47 : (((s[t]'hlt).toNat : Int) != 47) = true := by simp; omega
    have HOK : Hid (DkCh (byt4 s t)) := by rw [HBY.out]; unfold DkCh Hid; omega
    clear r0 r45 r46 r47 r48 r58 r65 hb
    go_wp2
    go_roundw
    case rel => exact ⟨t + 1, by omega, by go_num, trivial, fun j hj => by
     by_cases e : j = t
     ·rw [e]; exact HOK.out
     ·exact HJ.out j (by omega)⟩
    case measure => simp [intOf]; omega
   by_cases r91 : (s[t]'hlt).toNat ≤ 94
   ·have p97 : ¬ (97 : Int) ≤ ((s[t]'hlt).toNat : Int) := by omega
    have d97 : decide ((97 : Int) ≤ ((s[t]'hlt).toNat : Int)) = false := by simp; omega
    have p65 :  (65 : Int) ≤ ((s[t]'hlt).toNat : Int) := by omega
    have d65 : decide ((65 : Int) ≤ ((s[t]'hlt).toNat : Int)) = true := by simp; omega
    have p48 :  (48 : Int) ≤ ((s[t]'hlt).toNat : Int) := by omega
    have d48 : decide ((48 : Int) ≤ ((s[t]'hlt).toNat : Int)) = true := by simp; omega
    have p122 :  ((s[t]'hlt).toNat : Int) ≤ (122 : Int) := by omega
    have d122 : decide (((s[t]'hlt).toNat : Int) ≤ (122 : Int)) = true := by simp; omega
    have p90 : ¬ ((s[t]'hlt).toNat : Int) ≤ (90 : Int) := by omega
    have d90 : decide (((s[t]'hlt).toNat : Int) ≤ (90 : Int)) = false := by simp; omega
    have p57 : ¬ ((s[t]'hlt).toNat : Int) ≤ (57 : Int) := by omega
    have d57 : decide (((s[t]'hlt).toNat : Int) ≤ (57 : Int)) = false := by simp; omega
    have q46 : ¬ ((s[t]'hlt).toNat : Int) = 46 := by omega
    have b46 : (((s[t]'hlt).toNat : Int) == 46) = false := by simp; omega
    have n46 : (((s[t]'hlt).toNat : Int) != 46) = true := by simp; omega
    have q45 : ¬ ((s[t]'hlt).toNat : Int) = 45 := by omega
    have b45 : (((s[t]'hlt).toNat : Int) == 45) = false := by simp; omega
    have n45 : (((s[t]'hlt).toNat : Int) != 45) = true := by simp; omega
    have q95 : ¬ ((s[t]'hlt).toNat : Int) = 95 := by omega
    have b95 : (((s[t]'hlt).toNat : Int) == 95) = false := by simp; omega
    have n95 : (((s[t]'hlt).toNat : Int) != 95) = true := by simp; omega
    have q47 : ¬ ((s[t]'hlt).toNat : Int) = 47 := by omega
    have b47 : (((s[t]'hlt).toNat : Int) == 47) = false := by simp; omega
    have n47 : (((s[t]'hlt).toNat : Int) != 47) = true := by simp; omega
    have hok : ¬ DkCh (byt4 s t) := by rw [HBY.out]; unfold DkCh; omega
    have hRf : R = false := by
     cases hr : R with
     | false => rfl
     | true => exact absurd ((HR.out.1 hr) t hlt) hok
    subst hRf
    clear hok r0 r45 r46 r47 r48 r58 r65 r91 hb
    go_wp2
    go_ret
    exact ⟨rfl, rfl⟩
   by_cases r95 : (s[t]'hlt).toNat ≤ 95
   ·have p97 : ¬ (97 : Int) ≤ ((s[t]'hlt).toNat : Int) := by omega
    have d97 : decide ((97 : Int) ≤ ((s[t]'hlt).toNat : Int)) = false := by simp; omega
    have p65 :  (65 : Int) ≤ ((s[t]'hlt).toNat : Int) := by omega
    have d65 : decide ((65 : Int) ≤ ((s[t]'hlt).toNat : Int)) = true := by simp; omega
    have p48 :  (48 : Int) ≤ ((s[t]'hlt).toNat : Int) := by omega
    have d48 : decide ((48 : Int) ≤ ((s[t]'hlt).toNat : Int)) = true := by simp; omega
    have p122 :  ((s[t]'hlt).toNat : Int) ≤ (122 : Int) := by omega
    have d122 : decide (((s[t]'hlt).toNat : Int) ≤ (122 : Int)) = true := by simp; omega
    have p90 : ¬ ((s[t]'hlt).toNat : Int) ≤ (90 : Int) := by omega
    have d90 : decide (((s[t]'hlt).toNat : Int) ≤ (90 : Int)) = false := by simp; omega
    have p57 : ¬ ((s[t]'hlt).toNat : Int) ≤ (57 : Int) := by omega
    have d57 : decide (((s[t]'hlt).toNat : Int) ≤ (57 : Int)) = false := by simp; omega
    have q46 : ¬ ((s[t]'hlt).toNat : Int) = 46 := by omega
    have b46 : (((s[t]'hlt).toNat : Int) == 46) = false := by simp; omega
    have n46 : (((s[t]'hlt).toNat : Int) != 46) = true := by simp; omega
    have q45 : ¬ ((s[t]'hlt).toNat : Int) = 45 := by omega
    have b45 : (((s[t]'hlt).toNat : Int) == 45) = false := by simp; omega
    have n45 : (((s[t]'hlt).toNat : Int) != 45) = true := by simp; omega
    have q95 :  ((s[t]'hlt).toNat : Int) = 95 := by omega
    have b95 : (((s[t]'hlt).toNat : Int) == 95) = true := by simp; omega
    have n95 : (((s[t]'hlt).toNat : Int) != 95) = false := by simp; omega
    have q47 : ¬ ((s[t]'hlt).toNat : Int) = 47 := by omega
    have b47 : (((s[t]'hlt).toNat : Int) == 47) = false := by simp; omega
    have n47 : (((s[t]'hlt).toNat : Int) != 47) = true := by simp; omega
    have HOK : Hid (DkCh (byt4 s t)) := by rw [HBY.out]; unfold DkCh Hid; omega
    clear r0 r45 r46 r47 r48 r58 r65 r91 r95 hb
    go_wp2
    go_roundw
    case rel => exact ⟨t + 1, by omega, by go_num, trivial, fun j hj => by
     by_cases e : j = t
     ·rw [e]; exact HOK.out
     ·exact HJ.out j (by omega)⟩
    case measure => simp [intOf]; omega
   by_cases r96 : (s[t]'hlt).toNat ≤ 96
   ·have p97 : ¬ (97 : Int) ≤ ((s[t]'hlt).toNat : Int) := by omega
    have d97 : decide ((97 : Int) ≤ ((s[t]'hlt).toNat : Int)) = false := by simp; omega
    have p65 :  (65 : Int) ≤ ((s[t]'hlt).toNat : Int) := by omega
    have d65 : decide ((65 : Int) ≤ ((s[t]'hlt).toNat : Int)) = true := by simp; omega
    have p48 :  (48 : Int) ≤ ((s[t]'hlt).toNat : Int) := by omega
    have d48 : decide ((48 : Int) ≤ ((s[t]'hlt).toNat : Int)) = true := by simp; omega
    have p122 :  ((s[t]'hlt).toNat : Int) ≤ (122 : Int) := by omega
    have d122 : decide (((s[t]'hlt).toNat : Int) ≤ (122 : Int)) = true := by simp; omega
    have p90 : ¬ ((s[t]'hlt).toNat : Int) ≤ (90 : Int) := by omega
    have d90 : decide (((s[t]'hlt).toNat : Int) ≤ (90 : Int)) = false := by simp; omega
    have p57 : ¬ ((s[t]'hlt).toNat : Int) ≤ (57 : Int) := by omega
    have d57 : decide (((s[t]'hlt).toNat : Int) ≤ (57 : Int)) = false := by simp; omega
    have q46 : ¬ ((s[t]'hlt).toNat : Int) = 46 := by omega
    have b46 : (((s[t]'hlt).toNat : Int) == 46) = false := by simp; omega
    have n46 : (((s[t]'hlt).toNat : Int) != 46) = true := by simp; omega
    have q45 : ¬ ((s[t]'hlt).toNat : Int) = 45 := by omega
    have b45 : (((s[t]'hlt).toNat : Int) == 45) = false := by simp; omega
    have n45 : (((s[t]'hlt).toNat : Int) != 45) = true := by simp; omega
    have q95 : ¬ ((s[t]'hlt).toNat : Int) = 95 := by omega
    have b95 : (((s[t]'hlt).toNat : Int) == 95) = false := by simp; omega
    have n95 : (((s[t]'hlt).toNat : Int) != 95) = true := by simp; omega
    have q47 : ¬ ((s[t]'hlt).toNat : Int) = 47 := by omega
    have b47 : (((s[t]'hlt).toNat : Int) == 47) = false := by simp; omega
    have n47 : (((s[t]'hlt).toNat : Int) != 47) = true := by simp; omega
    have hok : ¬ DkCh (byt4 s t) := by rw [HBY.out]; unfold DkCh; omega
    have hRf : R = false := by
     cases hr : R with
     | false => rfl
     | true => exact absurd ((HR.out.1 hr) t hlt) hok
    subst hRf
    clear hok r0 r45 r46 r47 r48 r58 r65 r91 r95 r96 hb
    go_wp2
    go_ret
    exact ⟨rfl, rfl⟩
   by_cases r97 : (s[t]'hlt).toNat ≤ 122
   ·have p97 :  (97 : Int) ≤ ((s[t]'hlt).toNat : Int) := by omega
    have d97 : decide ((97 : Int) ≤ ((s[t]'hlt).toNat : Int)) = true := by simp; omega
    have p65 :  (65 : Int) ≤ ((s[t]'hlt).toNat : Int) := by omega
    have d65 : decide ((65 : Int) ≤ ((s[t]'hlt).toNat : Int)) = true := by simp; omega
    have p48 :  (48 : Int) ≤ ((s[t]'hlt).toNat : Int) := by omega
    have d48 : decide ((48 : Int) ≤ ((s[t]'hlt).toNat : Int)) = true := by simp; omega
    have p122 :  ((s[t]'hlt).toNat : Int) ≤ (122 : Int) := by omega
    have d122 : decide (((s[t]'hlt).toNat : Int) ≤ (122 : Int)) = true := by simp; omega
    have p90 : ¬ ((s[t]'hlt).toNat : Int) ≤ (90 : Int) := by omega
    have d90 : decide (((s[t]'hlt).toNat : Int) ≤ (90 : Int)) = false := by simp; omega
    have p57 : ¬ ((s[t]'hlt).toNat : Int) ≤ (57 : Int) := by omega
    have d57 : decide (((s[t]'hlt).toNat : Int) ≤ (57 : Int)) = false := by simp; omega
    have q46 : ¬ ((s[t]'hlt).toNat : Int) = 46 := by omega
    have b46 : (((s[t]'hlt).toNat : Int) == 46) = false := by simp; omega
    have n46 : (((s[t]'hlt).toNat : Int) != 46) = true := by simp; omega
    have q45 : ¬ ((s[t]'hlt).toNat : Int) = 45 := by omega
    have b45 : (((s[t]'hlt).toNat : Int) == 45) = false := by simp; omega
    have n45 : (((s[t]'hlt).toNat : Int) != 45) = true := by simp; omega
    have q95 : ¬ ((s[t]'hlt).toNat : Int) = 95 := by omega
    have b95 : (((s[t]'hlt).toNat : Int) == 95) = false := by simp; omega
    have n95 : (((s[t]'hlt).toNat : Int) != 95) = true := by simp; omega
    have q47 : ¬ ((s[t]'hlt).toNat : Int) = 47 := by omega
    have b47 : (((s[t]'hlt).toNat : Int) == 47) = false := by simp; omega
    have n47 : (((s[t]'hlt).toNat : Int) != 47) = true := by simp; omega
    have HOK : Hid (DkCh (byt4 s t)) := by rw [HBY.out]; unfold DkCh Hid; omega
    clear r0 r45 r46 r47 r48 r58 r65 r91 r95 r96 r97 hb
    go_wp2
    go_roundw
    case rel => exact ⟨t + 1, by omega, by go_num, trivial, fun j hj => by
     by_cases e : j = t
     ·rw [e]; exact HOK.out
     ·exact HJ.out j (by omega)⟩
    case measure => simp [intOf]; omega
   have p97 :  (97 : Int) ≤ ((s[t]'hlt).toNat : Int) := by omega
   have d97 : decide ((97 : Int) ≤ ((s[t]'hlt).toNat : Int)) = true := by simp; omega
   have p65 :  (65 : Int) ≤ ((s[t]'hlt).toNat : Int) := by omega
   have d65 : decide ((65 : Int) ≤ ((s[t]'hlt).toNat : Int)) = true := by simp; omega
   have p48 :  (48 : Int) ≤ ((s[t]'hlt).toNat : Int) := by omega
   have d48 : decide ((48 : Int) ≤ ((s[t]'hlt).toNat : Int)) = true := by simp; omega
   have p122 : ¬ ((s[t]'hlt).toNat : Int) ≤ (122 : Int) := by omega
   have d122 : decide (((s[t]'hlt).toNat : Int) ≤ (122 : Int)) = false := by simp; omega
   have p90 : ¬ ((s[t]'hlt).toNat : Int) ≤ (90 : Int) := by omega
   have d90 : decide (((s[t]'hlt).toNat : Int) ≤ (90 : Int)) = false := by simp; omega
   have p57 : ¬ ((s[t]'hlt).toNat : Int) ≤ (57 : Int) := by omega
   have d57 : decide (((s[t]'hlt).toNat : Int) ≤ (57 : Int)) = false := by simp; omega
   have q46 : ¬ ((s[t]'hlt).toNat : Int) = 46 := by omega
   have b46 : (((s[t]'hlt).toNat : Int) == 46) = false := by simp; omega
   have n46 : (((s[t]'hlt).toNat : Int) != 46) = true := by simp; omega
   have q45 : ¬ ((s[t]'hlt).toNat : Int) = 45 := by omega
   have b45 : (((s[t]'hlt).toNat : Int) == 45) = false := by simp; omega
   have n45 : (((s[t]'hlt).toNat : Int) != 45) = true := by simp; omega
   have q95 : ¬ ((s[t]'hlt).toNat : Int) = 95 := by omega
   have b95 : (((s[t]'hlt).toNat : Int) == 95) = false := by simp; omega
   have n95 : (((s[t]'hlt).toNat : Int) != 95) = true := by simp; omega
   have q47 : ¬ ((s[t]'hlt).toNat : Int) = 47 := by omega
   have b47 : (((s[t]'hlt).toNat : Int) == 47) = false := by simp; omega
   have n47 : (((s[t]'hlt).toNat : Int) != 47) = true := by simp; omega
   have hok : ¬ DkCh (byt4 s t) := by rw [HBY.out]; unfold DkCh; omega
   have hRf : R = false := by
    cases hr : R with
    | false => rfl
    | true => exact absurd ((HR.out.1 hr) t hlt) hok
   subst hRf
   clear hok r0 r45 r46 r47 r48 r58 r65 r91 r95 r96 r97 hb
   go_wp2
   go_ret
   exact ⟨rfl, rfl⟩
  ·have j1 : (s.size : Int) ≤ (t : Int) := by omega
   have hRt : R = true := HR.out.2 (fun i hi => HJ.out i (by omega))
   subst hRt
   go_wp2
   go_ret
   exact ⟨rfl, rfl⟩
theorem refName_any (s : ByteArray) (w : World) : Calls Try.prog 40 #[.string s] w fun e w' => e = .returned (.bool (decide (DkName s))) ∧ w' = w := by
 by_cases h : s.size < 1 ∨ 64 < s.size
 ·rw [decide_eq_false (fun k : DkName s => by have := k.1; have := k.2.1; omega)]
  exact refName_len h w
 ·refine refName_in (by omega) (by omega) w _ ?_
  rw [decide_eq_true_iff]
  exact ⟨fun k => k.2.2, fun k => ⟨by omega, by omega, k⟩⟩
end Go.Proofs.Ytlkhphhmhffdjaa

namespace Go.Proofs.Ytlkhphhmhffdjaa
open Go.RowKit Go.MapKept

theorem und_fmap : Try.prog.underlying 77 = some (.map 9 76) := by kernel_rfl
theorem und_str4 : Try.prog.underlying 9 = some .string := by kernel_rfl
theorem zero_fptr (w : World) : (zeroValue 76).run Try.prog w = .ok (.pointer none) w := by kernel_rfl
def atN : List (ByteArray × Nat) → ByteArray → Option Nat
 | [], _ => none
 | f :: fs, s => if f.1 = s then some f.2 else atN fs s
theorem atN_none {s : ByteArray} : ∀ {fs : List (ByteArray × Nat)}, (∀ f ∈ fs, f.1 ≠ s) → atN fs s = none
 | [], _ => rfl
 | f :: fs, h => by
  rw [atN, if_neg (h f (by simp))]
  exact atN_none (fun g hg => h g (by simp [hg]))
theorem atN_some {s : ByteArray} {b : Nat} : ∀ {fs : List (ByteArray × Nat)}, (fs.map (·.1)).Nodup → (s, b) ∈ fs → atN fs s = some b
 | f :: fs, hn, hm => by
  rw [List.map_cons, List.nodup_cons] at hn
  rcases List.mem_cons.1 hm with e | e
  ·subst e; rw [atN, if_pos rfl]
  ·rw [atN, if_neg (fun e2 => hn.1 (by rw [e2]; exact List.mem_map.2 ⟨_, e, rfl⟩))]
   exact atN_some hn.2 e
def ptrO (o : Option Nat) : Value := .pointer (o.map (fun b => ⟨b, 0, none⟩))
def entOf (f : ByteArray × Nat) : Value × Value := (.string f.1, .pointer (some ⟨f.2, 0, none⟩))
structure MpB (w : World) (mb : Nat) (fs : List (ByteArray × Nat)) (es : Array MapEntry) (clock : Nat) : Prop where
 blk : w.heap[mb]? = some (.map es clock)
 st : Stamped es clock
 ent : es.toList.map (fun e => (e.key, e.val)) = fs.map entOf
variable {w w' : World} {mb clock : Nat} {fs : List (ByteArray × Nat)} {es : Array MapEntry}
theorem MpB.lt (h : MpB w mb fs es clock) : mb < w.heap.size := (Array.getElem?_eq_some_iff.1 h.blk).1
theorem MpB.kept (h : MpB w mb fs es clock) (k : w'.heap[mb]? = w.heap[mb]?) : MpB w' mb fs es clock := ⟨k.trans h.blk, h.st, h.ent⟩
theorem MpB.len (h : MpB w mb fs es clock) : es.size = fs.length := by
 have := congrArg List.length h.ent
 simpa using this
theorem MpB.mem (h : MpB w mb fs es clock) {x : MapEntry} (hx : x ∈ es.toList) : ∃ f ∈ fs, x.key = .string f.1 ∧ x.val = .pointer (some ⟨f.2, 0, none⟩) := by
 have : (x.key, x.val) ∈ fs.map entOf := by rw [← h.ent]; exact List.mem_map.2 ⟨x, hx, rfl⟩
 obtain ⟨f, hf, e⟩ := List.mem_map.1 this
 unfold entOf at e
 exact ⟨f, hf, (congrArg Prod.fst e).symm, (congrArg Prod.snd e).symm⟩
theorem MpB.nodup (h : MpB w mb fs es clock) : (fs.map (·.1)).Nodup := by
 have e : es.toList.map (·.key) = fs.map (fun f => Value.string f.1) := by
  have := congrArg (List.map Prod.fst) h.ent
  simpa [List.map_map, entOf, Function.comp_def] using this
 have n := h.st.2.2
 rw [e] at n
 have : (fs.map (fun f => Value.string f.1)) = (fs.map (·.1)).map Value.string := by simp
 rw [this, List.Nodup, List.pairwise_map] at n
 exact n.imp (fun h e => h (congrArg _ e))
theorem MpB.keys (h : MpB w mb fs es clock) : ∀ x ∈ es.toList, IsKey .string x.key := fun x hx => by
 obtain ⟨f, -, e, -⟩ := h.mem hx
 rw [e]
 exact trivial
theorem MpB.look (h : MpB w mb fs es clock) (s : ByteArray) : (Instr.lookup 77 (.map (some mb)) (.string s) false).run Try.prog w = .ok (ptrO (atN fs s)) w := by
 have hk : IsKey .string (.string s) := trivial
 rcases findNow_spec hk es.toList 0 h.keys with ⟨h1, h2⟩ | ⟨j, e, h1, h2, h3⟩
 ·have e0 : atN fs s = none := atN_none (fun f hf e => by
   have : entOf f ∈ es.toList.map (fun e => (e.key, e.val)) := by rw [h.ent]; exact List.mem_map.2 ⟨f, hf, rfl⟩
   obtain ⟨x, hx, ex⟩ := List.mem_map.1 this
   refine h2 x hx ?_
   have := congrArg Prod.fst ex
   simp only [entOf] at this
   rw [this, e])
  rw [e0]
  simp [Instr.lookup, run_underlying und_fmap, MapKept.run_getObj_map h.blk, run_checkKey und_str4 hk, run_findKey und_str4 h1, zero_fptr, Result.andThen, ptrO]
 ·have hm := List.mem_of_getElem? h2
  obtain ⟨f, hf, e1, e2⟩ := h.mem hm
  have e3 : f.1 = s := by
   rw [h3] at e1
   injection e1 with e1
   exact e1.symm
  have e0 : atN fs s = some f.2 := atN_some h.nodup (by rw [← e3]; exact hf)
  rw [e0]
  simp [Instr.lookup, run_underlying und_fmap, MapKept.run_getObj_map h.blk, run_checkKey und_str4 hk, run_findKey und_str4 h1, Result.andThen, ptrO, e2]
end Go.Proofs.Ytlkhphhmhffdjaa
