import Derived.Test.YtpabbnddeklpdaaGreatK04
namespace Go.Proofs.YtpabbnddeklpdaaGreat
open Go.RowKit
set_option linter.unusedVariables false

theorem appendR {w : World} {o : Oper} {a : Act} {K : Act → World → Prop} {Q : Exit → Act → World → Prop} (s x : Operand)
  (ho : o.op = .call { callee := .builtin .append, args := #[s, x], argTypes := #[34, 34] })
  (B : Nat) (a0 : Option Addr) (m0 c0 : Nat) (acc : List Nat) (hs : a.eval s = .slice a0 m0 c0) (hown : Own w B (.slice a0 m0 c0) m0 acc)
  (ad : Addr) (m c : Nat) (bs : List Nat) (hx : a.eval x = .slice (some ad) m c) (hrd : Rd w (.slice (some ad) m c) bs)
  (hbytes : m0 + m ≤ 140737488355328) (hB : B ≤ w.heap.size)
  (h : ∀ a' m' c' w', Own w' B (.slice a' m' c') m' (acc ++ bs) → Below B w w' → K (a.put o.dst (.slice a' m' c')) w') : o.wp Tryz.prog a w K Q := by
 obtain ⟨i0, hi, hz0, hz1, hz2⟩ := info_parts info_byte
 obtain ⟨hby, a1, c1, h2, hle, hm, hl48, hnone, hat⟩ := hrd
 simp only [Value.slice.injEq] at h2
 obtain ⟨rfl, rfl, rfl⟩ := h2
 refine wp_append_own _ s x 34 ho B 5 i0 (.int .u8 0) 1 1 und_bytes hi hz0 hz1 hz2 rfl (by decide) _ m0 (bv acc) hs hown.2 ad bs.length c (bv bs) hx (by simp [bv]) hat.add (bv_oneCell bs) (by unfold maxLen; omega) (by omega) hB ?_
 intro v' w' h1 h2 _
 obtain ⟨a', c', rfl⟩ := own_form h1
 refine h a' _ c' w' ⟨by rw [hown.1]; simp, by simpa [bv] using h1⟩ ((Below.refl B w).grown h2 hB (fun k hk => (hown.2.lt k hk).1))
theorem bytesL_pos (l : List Nat) : 1 ≤ (bytesL l).length := by
 have := uintL_len l.length
 simp [bytesL]; omega
theorem bytesL_bys {l : List Nat} (h : Bys l) (hl : l.length < 18446744073709551616) : Bys (bytesL l) := Bys.app (uintL_bys _ hl) h
theorem bytesL_le (l : List Nat) : (bytesL l).length ≤ l.length + 10 := by
 have := uintL_len l.length
 simp [bytesL]; omega
theorem own_some {w : World} {B m c : Nat} {a : Option Addr} {xs : List Nat} (h : Own w B (.slice a m c) m xs) (hp : 1 ≤ xs.length) : ∃ ad, a = some ad := by
 rcases h.2.2 with ⟨h1, h2⟩ | ⟨g, cap, cur, h1, _⟩
 ·have := h.1; omega
 ·simp only [Value.slice.injEq] at h1
  exact ⟨_, h1.1⟩

def packL (e : EntD) : List Nat := bytesL (keyL e) ++ bytesL e.val

set_option maxRecDepth 100000 in
set_option maxHeartbeats 4000000 in
theorem pack_ok {e : EntD} {w : World} (hok : EntD.Ok w e) (hc : checkS e = 0) :
  Calls Tryz.prog 37 #[.agg e.cells] w fun r w' => ∃ a m c, r = .returned (.tuple #[.slice a m c, .int .i64 0]) ∧ Own w' w.heap.size (.slice a m c) m (packL e) ∧ Below w.heap.size w w' := by
 have hvl : e.val.length ≤ 4096 := (check_facts hc).2.2.2.2.2.2.2.1
 have A1 := (Below.refl w.heap.size w).alloc (Nat.le_refl _) (.cells e.cells 38)
 have bx1 : Hid (EBox (w.alloc (.cells e.cells 38)) w.heap.size e) := EBox.new w e
 have c1 := key_ok (hok.later A1) hc
 have HC1 : Hid (Calls _ _ _ _ _) := c1
 have HKL : Hid (Bys (keyL e) ∧ (keyL e).length ≤ 2000) := ⟨keyL_bys hok.1.1 hok.2.1.1 hc, keyL_len hc⟩
 have HV : Hid (Rd w e.vv e.val ∧ e.val.length ≤ 4096) := ⟨hok.2.2, hvl⟩
 obtain ⟨av, mv, cv, ev⟩ := rd_slice hok.2.2
 have HEV : Hid (e.vv = .slice av mv cv) := ev
 clear c1 hc hok hvl ev
 simp only [EntD.cells] at *
 go_enter Tryz.func37, Tryz.ntmps37
 go_wp2_with fail
 refine HC1.out.mono ?_
 rintro e1 w2 ⟨a2, m2, c2, rfl, own2, hb2⟩
 have B2 := A1.trans (hb2.mono A1.size)
 have bx2 : Hid (EBox w2 w.heap.size e) := bx1.out.later hb2
 have R2 : Hid (Rd w2 (.slice a2 m2 c2) (keyL e)) := own2.rd HKL.out.1 (by rw [own2.1]; have := HKL.out.2; omega)
 clear own2 hb2 bx1 HC1 A1
 have D0 : Below w2.heap.size w2 w2.drew := (Below.refl _ _).drew
 have KS : Hid (∀ wx, Below w2.heap.size w2 wx → wx.cell? ⟨w.heap.size, 6, none⟩ = some (.slice av mv cv)) := fun wx hx => by rw [(bx2.out.later hx).vv, HEV.out]
 have RV : Hid (∀ wx, Below w2.heap.size w2 wx → Rd wx (.slice av mv cv) e.val) := fun wx hx => by
  have := (HV.out.1.later B2).later hx
  rw [HEV.out] at this
  exact this
 go_wp2_with fail
 go_region_held3 (fun wx => wx.cell? ⟨w.heap.size, 6, none⟩ = some (.slice av mv cv)) (first | exact KS.out _ D0 | exact KS.out _ D1 | exact KS.out _ D2 | exact KS.out _ D3)
  (first
   | (go_at_call 55; refine (bytes_any (R2.out.later D0) (by have := HKL.out.2; omega)).mono ?_; rintro e3 w3 ⟨a3, m3, c3, rfl, own3, hb3⟩; have D1 := D0.trans (hb3.mono D0.size); clear D0)
   | (go_at_call 55; refine (bytes_any (RV.out _ D1) (by have := HV.out.2; omega)).mono ?_; rintro e4 w4 ⟨a4, m4, c4, rfl, own4, hb4⟩; have D2 := D1.trans (hb4.mono D1.size); obtain ⟨ad4, rfl⟩ := own_some own4 (bytesL_pos _); have own34 := own3.later hb4; have r4 := own4.rd (bytesL_bys HV.out.1.1 (by have := HV.out.2; omega)) (by rw [own4.1]; have := bytesL_le e.val; have := HV.out.2; omega); have hm : m3 + m4 ≤ 140737488355328 := (by rw [own3.1, own4.1]; have := bytesL_le e.val; have := HV.out.2; have := bytesL_le (keyL e); have := HKL.out.2; omega); have hS : w2.drew.heap.size ≤ w4.heap.size := D2.size)
   | (rw [if_pos (by rfl)]; refine appendR (.tmp 15) (.tmp 18) rfl w2.drew.heap.size a3 m3 c3 _ rfl own34 ad4 m4 c4 _ rfl r4 hm hS ?_; intro a5 m5 c5 w5 own5 hb5; have D3 := D2.trans hb5))
 go_wp2
 go_ret2
 exact ⟨a5, m5, c5, rfl, own5.mono B2.size, B2.trans (D3.mono B2.size)⟩

set_option maxRecDepth 100000 in
set_option maxHeartbeats 4000000 in
theorem pack_bad {e : EntD} {w : World} (hok : EntD.Ok w e) (hc : checkS e ≠ 0) :
  Calls Tryz.prog 37 #[.agg e.cells] w fun r w' => r = .returned (.tuple #[.slice none 0 0, .int .i64 ((checkS e : Nat) : Int)]) ∧ Below w.heap.size w w' := by
 obtain ⟨C, hC⟩ : ∃ C, C = checkS e := ⟨_, rfl⟩
 have A1 := (Below.refl w.heap.size w).alloc (Nat.le_refl _) (.cells e.cells 38)
 have c1 := key_bad (hok.later A1) hc
 rw [← hC] at c1 hc ⊢
 have HC1 : Hid (Calls _ _ _ _ _) := c1
 have h0 : ((C : Int) != 0) = true := by simp; omega
 have h1 : ¬ ((C : Int) = 0) := by omega
 clear c1 hC hok
 simp only [EntD.cells] at *
 go_enter Tryz.func37, Tryz.ntmps37
 go_wp2_with fail
 refine HC1.out.mono ?_
 rintro e1 w1 ⟨rfl, hb1⟩
 have B1 := A1.trans (hb1.mono A1.size)
 go_wp2
 go_ret2
 exact ⟨rfl, B1⟩

def EntD.Same (a b : EntD) : Prop := a.fam = b.fam ∧ a.ts = b.ts ∧ a.seq = b.seq ∧ a.kind = b.kind ∧ a.row = b.row ∧ a.qual = b.qual ∧ a.val = b.val
theorem EntD.Same.symm {a b : EntD} (h : EntD.Same a b) : EntD.Same b a := ⟨h.1.symm, h.2.1.symm, h.2.2.1.symm, h.2.2.2.1.symm, h.2.2.2.2.1.symm, h.2.2.2.2.2.1.symm, h.2.2.2.2.2.2.symm⟩

end Go.Proofs.YtpabbnddeklpdaaGreat

namespace Go.Proofs.YtpabbnddeklpdaaGreat
open Go.RowKit
set_option linter.unusedVariables false

def Tri (a b c : Int) : Prop := (a ≤ 0 ∧ b ≤ 0 → c ≤ 0) ∧ (0 ≤ a ∧ 0 ≤ b → 0 ≤ c) ∧ (a ≤ 0 ∧ b ≤ 0 ∧ c = 0 → a = 0 ∧ b = 0) ∧ (0 ≤ a ∧ 0 ≤ b ∧ c = 0 → a = 0 ∧ b = 0) ∧ (a = 0 → c = b) ∧ (b = 0 → c = a)
theorem tri_cmpI (x y z : Int) : Tri (cmpI x y) (cmpI y z) (cmpI x z) := by
 unfold Tri cmpI
 repeat' split
 all_goals omega
theorem tri_lex {a b c a' b' c' : Int} (h : Tri a b c) (k : Tri a' b' c') : Tri (if a = 0 then a' else a) (if b = 0 then b' else b) (if c = 0 then c' else c) := by
 unfold Tri at *
 obtain ⟨h1, h2, h3, h4, h5, h6⟩ := h
 by_cases ha : a = 0
 ·by_cases hb : b = 0
  ·have hc : c = 0 := by rw [h5 ha]; exact hb
   rw [if_pos ha, if_pos hb, if_pos hc]; exact k
  ·have hc : c = b := h5 ha
   have hc0 : ¬ c = 0 := by omega
   rw [if_pos ha, if_neg hb, if_neg hc0]
   refine ⟨?_, ?_, ?_, ?_, ?_, ?_⟩ <;> omega
 ·by_cases hb : b = 0
  ·have hc : c = a := h6 hb
   have hc0 : ¬ c = 0 := by omega
   rw [if_neg ha, if_pos hb, if_neg hc0]
   refine ⟨?_, ?_, ?_, ?_, ?_, ?_⟩ <;> omega
  ·rw [if_neg ha, if_neg hb]
   by_cases hc : c = 0
   ·rw [if_pos hc]
    have e1 : ¬ (a ≤ 0 ∧ b ≤ 0) := fun e => ha (h3 ⟨e.1, e.2, hc⟩).1
    have e2 : ¬ (0 ≤ a ∧ 0 ≤ b) := fun e => ha (h4 ⟨e.1, e.2, hc⟩).1
    refine ⟨?_, ?_, ?_, ?_, ?_, ?_⟩ <;> omega
   ·rw [if_neg hc]; exact ⟨h1, h2, h3, h4, h5, h6⟩
theorem tri_zero : Tri 0 0 0 := by unfold Tri; omega
theorem ordC_cons (x y : Nat) (a b : List Nat) : ordC (x :: a) (y :: b) = if cmpI (x : Int) (y : Int) = 0 then ordC a b else cmpI (x : Int) (y : Int) := by
 have e : ordC (x :: a) (y :: b) = if x < y then -1 else if y < x then 1 else ordC a b := rfl
 rw [e]
 unfold cmpI
 by_cases h1 : x < y
 ·simp [h1]
 ·by_cases h2 : y < x
  ·have : ¬ (x : Int) < y := by omega
   simp [h1, h2]
  ·simp [h1, h2]
theorem tri_ordC : ∀ (x y z : List Nat), Tri (ordC x y) (ordC y z) (ordC x z)
 | [], [], [] => by simp only [ordC]; exact tri_zero
 | [], [], _ :: _ => by simp only [ordC]; unfold Tri; omega
 | [], _ :: _, [] => by simp only [ordC]; unfold Tri; omega
 | [], y :: b, z :: c => by
  have h : ordC [] (y :: b) = -1 := rfl
  have h2 : ordC [] (z :: c) = -1 := rfl
  rw [h, h2]; unfold Tri; omega
 | _ :: _, [], [] => by simp only [ordC]; unfold Tri; omega
 | x :: a, [], z :: c => by
  have h : ordC (x :: a) [] = 1 := rfl
  have h2 : ordC [] (z :: c) = -1 := rfl
  rw [h, h2]; unfold Tri; omega
 | x :: a, y :: b, [] => by
  have h : ordC (y :: b) [] = 1 := rfl
  have h2 : ordC (x :: a) [] = 1 := rfl
  rw [h, h2]; unfold Tri; omega
 | x :: a, y :: b, z :: c => by
  rw [ordC_cons, ordC_cons, ordC_cons]
  exact tri_lex (tri_cmpI _ _ _) (tri_ordC a b c)
theorem cmpI_swap (a b : Int) : cmpI b a = -cmpI a b := by
 unfold cmpI
 repeat' split
 all_goals omega
theorem lex_neg {a a' b b' : Int} (h : b = -a) (k : b' = -a') : (if b = 0 then b' else b) = -(if a = 0 then a' else a) := by
 subst h k
 by_cases ha : a = 0
 ·rw [if_pos ha, if_pos (by omega)]
 ·rw [if_neg ha, if_neg (by omega)]
theorem compareS_tri (x y z : EntD) : Tri (compareS x y) (compareS y z) (compareS x z) := by
 unfold compareS cmpsS
 simp only [firstNZ]
 have rev : ∀ a b c : Int, Tri (cmpI b a) (cmpI c b) (cmpI c a) := fun a b c => by
  rw [cmpI_swap a b, cmpI_swap b c, cmpI_swap a c]
  have h := tri_cmpI a b c
  unfold Tri at *
  omega
 refine tri_lex (tri_ordC _ _ _) (tri_lex (tri_cmpI _ _ _) (tri_lex ?_ (tri_lex (tri_ordC _ _ _) (tri_lex ?_ (tri_lex (rev _ _ _) (tri_lex (rev _ _ _) (tri_lex (tri_cmpI _ _ _) tri_zero)))))))
 ·exact tri_cmpI _ _ _
 ·exact tri_cmpI _ _ _
theorem compareS_swap (x y : EntD) : compareS y x = -compareS x y := by
 unfold compareS cmpsS
 simp only [firstNZ]
 exact lex_neg (ordC_swap _ _) (lex_neg (cmpI_swap _ _) (lex_neg (cmpI_swap _ _) (lex_neg (ordC_swap _ _) (lex_neg (cmpI_swap _ _) (lex_neg (cmpI_swap _ _) (lex_neg (cmpI_swap _ _) (lex_neg (cmpI_swap _ _) (by omega))))))))
theorem compareS_same {a b c d : EntD} (h : EntD.Same a c) (k : EntD.Same b d) : compareS a b = compareS c d := by
 obtain ⟨h1, h2, h3, h4, h5, h6, h7⟩ := h
 obtain ⟨k1, k2, k3, k4, k5, k6, k7⟩ := k
 unfold compareS cmpsS aheadS
 rw [h1, h2, h3, h4, h5, h6, k1, k2, k3, k4, k5, k6]
end Go.Proofs.YtpabbnddeklpdaaGreat

namespace Go.Proofs.YtpabbnddeklpdaaGreat
open Go.RowKit
set_option linter.unusedVariables false

/-! ### Trees of entries -/
inductive BT where
 | leaf
 | node (l : BT) (e : EntD) (r : BT)
def BT.ht : BT → Nat
 | .leaf => 0
 | .node l _ r => 1 + max l.ht r.ht
def BT.ord : BT → List EntD
 | .leaf => []
 | .node l e r => l.ord ++ e :: r.ord
def BT.size (t : BT) : Nat := t.ord.length
theorem BT.ht_le : ∀ t : BT, t.ht ≤ t.size
 | .leaf => Nat.le_refl _
 | .node l e r => by
  have h1 := l.ht_le
  have h2 := r.ht_le
  simp only [BT.ht, BT.size, BT.ord, List.length_append, List.length_cons] at *
  omega
def balS (l : BT) (e : EntD) (r : BT) : BT :=
 if r.ht + 1 < l.ht then
  match l with
  | .leaf => .node l e r
  | .node ll le lr =>
   if ll.ht < lr.ht then
    match lr with
    | .leaf => .node ll le (.node lr e r)
    | .node ml me mr => .node (.node ll le ml) me (.node mr e r)
   else .node ll le (.node lr e r)
 else if l.ht + 1 < r.ht then
  match r with
  | .leaf => .node l e r
  | .node rl re rr =>
   if rr.ht < rl.ht then
    match rl with
    | .leaf => .node (.node l e rl) re rr
    | .node ml me mr => .node (.node l e ml) me (.node mr re rr)
   else .node (.node l e rl) re rr
 else .node l e r
theorem balS_ord (l : BT) (e : EntD) (r : BT) : (balS l e r).ord = l.ord ++ e :: r.ord := by
 unfold balS
 split
 ·split
  ·rfl
  ·split
   ·split <;> simp [BT.ord]
   ·simp [BT.ord]
 ·split
  ·split
   ·rfl
   ·split
    ·split <;> simp [BT.ord]
    ·simp [BT.ord]
  ·rfl
def hangS (x : EntD) : BT → BT
 | .leaf => .node .leaf x .leaf
 | .node l e r => if compareS x e < 0 then balS (hangS x l) e r else balS l e (hangS x r)
theorem hangS_length (x : EntD) : ∀ t : BT, (hangS x t).ord.length = t.ord.length + 1
 | .leaf => rfl
 | .node l e r => by
  unfold hangS
  split
  ·rw [balS_ord, List.length_append, hangS_length x l, List.length_cons, BT.ord, List.length_append, List.length_cons]; omega
  ·rw [balS_ord, List.length_append, List.length_cons, hangS_length x r, BT.ord, List.length_append, List.length_cons]; omega

def Srt (l : List EntD) : Prop := l.Pairwise fun a b => compareS a b < 0
theorem cmp_lt_trans {a b c : EntD} (h : compareS a b < 0) (k : compareS b c < 0) : compareS a c < 0 := by
 have := compareS_tri a b c
 unfold Tri at this
 omega
theorem cmp_le_lt {a b c : EntD} (h : 0 ≤ compareS a b) (k : compareS c b < 0) : 0 < compareS a c := by
 have h1 := compareS_tri c b a
 have h2 := compareS_swap a b
 have h3 := compareS_swap a c
 unfold Tri at h1
 omega
theorem hangS_ord (x : EntD) : ∀ t : BT, Srt t.ord → ∃ A B, t.ord = A ++ B ∧ (hangS x t).ord = A ++ x :: B ∧ (∀ a ∈ A, 0 ≤ compareS x a) ∧ ∀ b ∈ B, compareS x b < 0
 | .leaf, _ => ⟨[], [], rfl, rfl, by simp, by simp⟩
 | .node l e r, hs => by
  simp only [BT.ord, Srt, List.pairwise_append, List.pairwise_cons, List.mem_cons] at hs
  obtain ⟨hl, ⟨her, hr⟩, hlr⟩ := hs
  unfold hangS
  split
  ·rename_i hlt
   obtain ⟨A, B, h1, h2, h3, h4⟩ := hangS_ord x l hl
   refine ⟨A, B ++ e :: r.ord, by simp [BT.ord, h1], by rw [balS_ord, h2]; simp, h3, fun b hb => ?_⟩
   simp only [List.mem_append, List.mem_cons] at hb
   rcases hb with hb | rfl | hb
   ·exact h4 b hb
   ·exact hlt
   ·exact cmp_lt_trans hlt (her b hb)
  ·rename_i hge
   obtain ⟨A, B, h1, h2, h3, h4⟩ := hangS_ord x r hr
   refine ⟨l.ord ++ e :: A, B, by simp [BT.ord, h1], by rw [balS_ord, h2]; simp, fun a ha => ?_, h4⟩
   simp only [List.mem_append, List.mem_cons] at ha
   rcases ha with ha | rfl | ha
   ·have := cmp_le_lt (Int.not_lt.1 hge) (hlr a ha e (.inl rfl)); omega
   ·omega
   ·exact h3 a ha
theorem srt_ins {x : EntD} {A B : List EntD} (hs : Srt (A ++ B)) (hA : ∀ a ∈ A, 0 < compareS x a) (hB : ∀ b ∈ B, compareS x b < 0) : Srt (A ++ x :: B) := by
 simp only [Srt, List.pairwise_append, List.pairwise_cons, List.mem_cons] at *
 obtain ⟨h1, h2, h3⟩ := hs
 refine ⟨h1, ⟨hB, h2⟩, fun a ha b hb => ?_⟩
 rcases hb with rfl | hb
 ·have := compareS_swap a b; have := hA a ha; omega
 ·exact h3 a ha b hb

/-! ### Where they lie -/
structure KpG (G : Nat → Prop) (w w' : World) : Prop where
 size : w.heap.size ≤ w'.heap.size
 block : ∀ i, i < w.heap.size → G i → w'.heap[i]? = w.heap[i]?
theorem KpG.refl (G : Nat → Prop) (w : World) : KpG G w w := ⟨Nat.le_refl _, fun _ _ _ => rfl⟩
theorem KpG.trans {G : Nat → Prop} {a b c : World} (h : KpG G a b) (k : KpG G b c) : KpG G a c := ⟨Nat.le_trans h.size k.size, fun i hi hg => (k.block i (Nat.lt_of_lt_of_le hi h.size) hg).trans (h.block i hi hg)⟩
theorem KpG.of {G : Nat → Prop} {w w' : World} (h : Below w.heap.size w w') : KpG G w w' := ⟨h.size, fun i hi _ => h.block i hi⟩
def RdG (G : Nat → Prop) (w : World) (v : Value) (bs : List Nat) : Prop := Rd w v bs ∧ ∀ b off m c, v = .slice (some ⟨b, off, none⟩) m c → 0 < m → G b ∧ ∃ cur fr, w.heap[b]? = some (.cells cur 5 fr)
theorem RdG.kept {G : Nat → Prop} {w w' : World} {v : Value} {bs : List Nat} (h : RdG G w v bs) (hk : KpG G w w') : RdG G w' v bs := by
 obtain ⟨⟨h1, a, cap, rfl, h3, h4, h5, h6, h7⟩, hg⟩ := h
 refine ⟨⟨h1, a, cap, rfl, h3, h4, h5, h6, ?_⟩, fun b off m c e hm => ?_⟩
 ·rcases h7 with h7 | ⟨b, off, rfl, hc⟩
  ·exact .inl h7
  ·by_cases h0 : bs = []
   ·exact .inl h0
   ·refine .inr ⟨b, off, rfl, fun i hi => ?_⟩
    rw [World.cell?_of_block (w := w) (a := ⟨b, off + i, none⟩) (hk.block b (World.block_lt_of_cell? w _ (hc i hi)) (hg b off _ _ rfl (by omega)).1)]
    exact hc i hi
 ·obtain ⟨h8, cur, fr, h9⟩ := hg b off m c e hm
  exact ⟨h8, cur, fr, (hk.block b (Array.getElem?_eq_some_iff.1 h9).1 h8).trans h9⟩
theorem RdG.mono {G G' : Nat → Prop} {w : World} {v : Value} {bs : List Nat} (h : RdG G w v bs) (hg : ∀ i, G i → G' i) : RdG G' w v bs := ⟨h.1, fun b off m c e hm => ⟨hg b (h.2 b off m c e hm).1, (h.2 b off m c e hm).2⟩⟩
theorem RdG.of_own {G : Nat → Prop} {w : World} {B : Nat} {v : Value} {m : Nat} {bs : List Nat} (h : Own w B v m bs) (hb : Bys bs) (hl : m ≤ 281474976710656) (hG : ∀ i, B ≤ i → G i) : RdG G w v bs := by
 refine ⟨h.rd hb hl, fun b off k c e hk => ?_⟩
 rcases h.2.2 with ⟨rfl, rfl⟩ | ⟨g, cap, cur, rfl, hB, hcur, _⟩
 ·cases e
 ·cases e; exact ⟨hG _ hB, cur, _, hcur⟩
def KU (w w' : World) : Prop := ∀ (i : Nat) (cur : Array Value) (fr : Nat × Nat), w.heap[i]? = some (.cells cur 5 fr) → w'.heap[i]? = some (.cells cur 5 fr)
theorem KU.trans {a b c : World} (h : KU a b) (k : KU b c) : KU a c := fun i cur fr hi => k i cur fr (h i cur fr hi)
theorem KU.of {w w' : World} (h : Below w.heap.size w w') : KU w w' := fun i cur fr hi => (h.block i (Array.getElem?_eq_some_iff.1 hi).1).trans hi
theorem KU.set {w : World} {b : Nat} {cs : Array Value} {t : TypeId} {fr : Nat × Nat} (hb : w.heap[b]? = some (.cells cs t fr)) (ht : t ≠ 5) (i : Nat) (v : Value) : KU w (w.setCell ⟨b, i, none⟩ v) := fun j cur fr' hj =>
 (Below.heap_setCell w ⟨b, i, none⟩ v j (fun e => by subst e; rw [hb] at hj; cases hj; exact ht rfl)).trans hj
theorem KU.grown {w w' : World} {row : Option Nat} (hg : w.grownBy w' row) (hr : ∀ r, row = some r → ∃ cs t fr, w.heap[r]? = some (.cells cs t fr) ∧ t ≠ 5) : KU w w' := fun j cur fr hj =>
 (hg.block j (Array.getElem?_eq_some_iff.1 hj).1 (fun e => by
  obtain ⟨cs, t, fr', h1, h2⟩ := hr j e.symm
  rw [h1] at hj; cases hj; exact h2 rfl)).trans hj
theorem RdG.ku {G : Nat → Prop} {w w' : World} {v : Value} {bs : List Nat} (h : RdG G w v bs) (hk : KU w w') : RdG G w' v bs := by
 obtain ⟨⟨h1, a, cap, rfl, h3, h4, h5, h6, h7⟩, hg⟩ := h
 refine ⟨⟨h1, a, cap, rfl, h3, h4, h5, h6, ?_⟩, fun b off m c e hm => ?_⟩
 ·rcases h7 with h7 | ⟨b, off, rfl, hc⟩
  ·exact .inl h7
  ·by_cases h0 : bs = []
   ·exact .inl h0
   ·refine .inr ⟨b, off, rfl, fun i hi => ?_⟩
    obtain ⟨_, cur, fr, h9⟩ := hg b off _ _ rfl (by omega)
    rw [World.cell?_of_block (w := w) (a := ⟨b, off + i, none⟩) ((hk b cur fr h9).trans h9.symm)]
    exact hc i hi
 ·obtain ⟨h8, cur, fr, h9⟩ := hg b off m c e hm
  exact ⟨h8, cur, fr, hk b cur fr h9⟩
def EOk (G : Nat → Prop) (w : World) (e : EntD) : Prop := RdG G w e.vr e.row ∧ RdG G w e.vq e.qual ∧ RdG G w e.vv e.val
theorem EOk.ok {G : Nat → Prop} {w : World} {e : EntD} (h : EOk G w e) : EntD.Ok w e := ⟨h.1.1, h.2.1.1, h.2.2.1⟩
theorem EOk.kept {G : Nat → Prop} {w w' : World} {e : EntD} (h : EOk G w e) (hk : KpG G w w') : EOk G w' e := ⟨h.1.kept hk, h.2.1.kept hk, h.2.2.kept hk⟩
theorem EOk.mono {G G' : Nat → Prop} {w : World} {e : EntD} (h : EOk G w e) (hg : ∀ i, G i → G' i) : EOk G' w e := ⟨h.1.mono hg, h.2.1.mono hg, h.2.2.mono hg⟩

def nodeC (e : EntD) (l r : Option Addr) (h : Nat) : Array Value := #[e.vr, .int .i64 e.fam, e.vq, .int .i64 e.ts, .int .i64 e.seq, .int .i64 e.kind, e.vv, .pointer l, .pointer r, .int .i64 (h : Int)]
def NBox (w : World) (b : Nat) (e : EntD) (l r : Option Addr) (h : Nat) : Prop := w.heap[b]? = some (.cells (nodeC e l r h) 89 (0, 0))
def IsT (G : Nat → Prop) (w : World) : Option Addr → BT → Prop
 | p, .leaf => p = none
 | p, .node l e r => ∃ (b : Nat) (pl pr : Option Addr), p = some ⟨b, 0, none⟩ ∧ G b ∧ NBox w b e pl pr (1 + max l.ht r.ht) ∧ EOk G w e ∧ IsT G w pl l ∧ IsT G w pr r
theorem IsT.kept {G : Nat → Prop} {w w' : World} (hk : KpG G w w') : ∀ {p : Option Addr} {T : BT}, IsT G w p T → IsT G w' p T
 | _, .leaf, h => h
 | _, .node _ _ _, ⟨b, pl, pr, hp, hb, hn, he, hl, hr⟩ => ⟨b, pl, pr, hp, hb, (hk.block b (Array.getElem?_eq_some_iff.1 hn).1 hb).trans hn, he.kept hk, hl.kept hk, hr.kept hk⟩
theorem IsT.mono {G G' : Nat → Prop} {w : World} (hg : ∀ i, G i → G' i) : ∀ {p : Option Addr} {T : BT}, IsT G w p T → IsT G' w p T
 | _, .leaf, h => h
 | _, .node _ _ _, ⟨b, pl, pr, hp, hb, hn, he, hl, hr⟩ => ⟨b, pl, pr, hp, hg b hb, hn, he.mono hg, hl.mono hg, hr.mono hg⟩
theorem NBox.lt {w : World} {b : Nat} {e : EntD} {l r : Option Addr} {h : Nat} (hn : NBox w b e l r h) : b < w.heap.size := (Array.getElem?_eq_some_iff.1 hn).1
theorem NBox.cell {w : World} {b : Nat} {e : EntD} {l r : Option Addr} {h : Nat} (hn : NBox w b e l r h) (i : Nat) (hi : i < 10) : w.cell? ⟨b, i, none⟩ = (nodeC e l r h)[i]? := by
 unfold NBox at hn; simp [World.cell?, hn]
theorem NBox.cells {w : World} {b : Nat} {e : EntD} {l r : Option Addr} {h : Nat} (hn : NBox w b e l r h) :
  w.cell? ⟨b, 0, none⟩ = some e.vr ∧ w.cell? ⟨b, 1, none⟩ = some (.int .i64 e.fam) ∧ w.cell? ⟨b, 2, none⟩ = some e.vq ∧ w.cell? ⟨b, 3, none⟩ = some (.int .i64 e.ts) ∧ w.cell? ⟨b, 4, none⟩ = some (.int .i64 e.seq) ∧ w.cell? ⟨b, 5, none⟩ = some (.int .i64 e.kind) ∧ w.cell? ⟨b, 6, none⟩ = some e.vv ∧ w.cell? ⟨b, 7, none⟩ = some (.pointer l) ∧ w.cell? ⟨b, 8, none⟩ = some (.pointer r) ∧ w.cell? ⟨b, 9, none⟩ = some (.int .i64 (h : Int)) := by
 refine ⟨?_, ?_, ?_, ?_, ?_, ?_, ?_, ?_, ?_, ?_⟩ <;> (rw [hn.cell _ (by decide)]; rfl)
end Go.Proofs.YtpabbnddeklpdaaGreat

namespace Go.Proofs.YtpabbnddeklpdaaGreat
open Go.RowKit
set_option linter.unusedVariables false

theorem i64_natM (z : Int) (q : Nat) (h : z = (q : Int)) (hq : q < 9223372036854775808) : IntKind.i64.wrap z = (q : Int) := by
 subst h
 simp only [IntKind.wrap, IntKind.bits, IntKind.signed]
 simp
 omega

set_option maxRecDepth 100000 in
theorem height_any {G : Nat → Prop} {w : World} {p : Option Addr} {T : BT} (h : IsT G w p T) :
  Calls Tryz.prog 90 #[.pointer p] w fun e w' => e = .returned (.int .i64 (T.ht : Int)) ∧ w' = w := by
 cases T with
 | leaf =>
  obtain rfl : p = none := h
  go_enter Tryz.func90, Tryz.ntmps90
  go_wp2
  go_ret
  exact ⟨rfl, rfl⟩
 | node l e r =>
  obtain ⟨b, pl, pr, rfl, hb, hn, he, hl, hr⟩ := h
  have c9 := hn.cells.2.2.2.2.2.2.2.2.2
  go_enter Tryz.func90, Tryz.ntmps90
  go_wp2
  go_ret
  exact ⟨rfl, rfl⟩

set_option maxRecDepth 100000 in
set_option maxHeartbeats 2000000 in
theorem join_any {G : Nat → Prop} {w : World} {p q : Option Addr} {l r : BT} {e : EntD} (hl : IsT G w p l) (hr : IsT G w q r) (he : EOk G w e) (hs : l.ht < 1099511627776 ∧ r.ht < 1099511627776) :
  Calls Tryz.prog 81 #[.pointer p, .agg e.cells, .pointer q] w fun x w' => ∃ b, x = .returned (.pointer (some ⟨b, 0, none⟩)) ∧ w.heap.size ≤ b ∧ NBox w' b e p q (1 + max l.ht r.ht) ∧ Below w.heap.size w w' := by
 have A1 := (Below.refl w.heap.size w).alloc (Nat.le_refl _) (.cells e.cells 38)
 have bx := EBox.new w e
 obtain ⟨W, hW⟩ : ∃ W, W = w.alloc (.cells e.cells 38) := ⟨_, rfl⟩
 rw [← hW] at A1 bx
 have HC : Hid (∀ wx, Below W.heap.size W wx → wx.cell? ⟨w.heap.size, 0, none⟩ = some e.vr ∧ wx.cell? ⟨w.heap.size, 1, none⟩ = some (.int .i64 e.fam) ∧ wx.cell? ⟨w.heap.size, 2, none⟩ = some e.vq ∧ wx.cell? ⟨w.heap.size, 3, none⟩ = some (.int .i64 e.ts) ∧ wx.cell? ⟨w.heap.size, 4, none⟩ = some (.int .i64 e.seq) ∧ wx.cell? ⟨w.heap.size, 5, none⟩ = some (.int .i64 e.kind) ∧ wx.cell? ⟨w.heap.size, 6, none⟩ = some e.vv) := fun wx b => by
  have k := bx.later b
  exact ⟨k.vr, k.fam, k.vq, k.ts, k.seq, k.kind, k.vv⟩
 have H1 : Hid (∀ wx, Below W.heap.size W wx → Calls Tryz.prog 90 #[.pointer p] wx fun e w' => e = .returned (.int .i64 (l.ht : Int)) ∧ w' = wx) := fun wx b => height_any (hl.kept (KpG.of (A1.trans (b.mono A1.size))))
 have H2 : Hid (∀ wx, Below W.heap.size W wx → Calls Tryz.prog 90 #[.pointer q] wx fun e w' => e = .returned (.int .i64 (r.ht : Int)) ∧ w' = wx) := fun wx b => height_any (hr.kept (KpG.of (A1.trans (b.mono A1.size))))
 obtain ⟨vr, fam, vq, ts, seq, kind, vv, row, qual, val⟩ := e
 simp only [EntD.cells] at *
 go_enter Tryz.func81, Tryz.ntmps81
 go_wp2
 rw [← hW]
 clear hW
 have D0 : Below W.heap.size W W.drew := (Below.refl _ W).drew
 have DA : ∀ o, Below W.heap.size W (W.alloc o).drew := fun o => ((Below.refl _ W).alloc (Nat.le_refl _) o).drew
 go_region_held3 (fun wx => wx.cell? ⟨w.heap.size, 0, none⟩ = some vr ∧ wx.cell? ⟨w.heap.size, 1, none⟩ = some (.int .i64 fam) ∧ wx.cell? ⟨w.heap.size, 2, none⟩ = some vq ∧ wx.cell? ⟨w.heap.size, 3, none⟩ = some (.int .i64 ts) ∧ wx.cell? ⟨w.heap.size, 4, none⟩ = some (.int .i64 seq) ∧ wx.cell? ⟨w.heap.size, 5, none⟩ = some (.int .i64 kind) ∧ wx.cell? ⟨w.heap.size, 6, none⟩ = some vv) (first | exact HC.out _ D0 | exact HC.out _ (DA _)) (first | (go_at_call_of 90 (Value.pointer p); refine Calls.mono (H1.out _ D0) ?_; clear H1; rintro e1 w1 ⟨rfl, rfl⟩) | (go_at_call_of 90 (Value.pointer q); refine Calls.mono (H2.out _ D0) ?_; rintro e2 w2 ⟨rfl, rfl⟩))
 have ew : IntKind.i64.wrap (1 + max (l.ht : Int) (r.ht : Int)) = ((1 + max l.ht r.ht : Nat) : Int) := by
  exact i64_natM _ _ (by omega) (by omega)
 rw [ew]
 go_wp2
 go_ret
 refine ⟨W.heap.size, rfl, A1.size, ?_, A1.trans ((DA _).mono A1.size)⟩
 unfold NBox nodeC
 show (W.heap.push _)[W.heap.size]? = _
 simp

theorem join_tree {G : Nat → Prop} {w : World} {p q : Option Addr} {l r : BT} {e : EntD} (hl : IsT G w p l) (hr : IsT G w q r) (he : EOk G w e) (hs : l.ht < 1099511627776 ∧ r.ht < 1099511627776) (hG : ∀ i, w.heap.size ≤ i → G i) :
  Calls Tryz.prog 81 #[.pointer p, .agg e.cells, .pointer q] w fun x w' => ∃ b, x = .returned (.pointer (some ⟨b, 0, none⟩)) ∧ IsT G w' (some ⟨b, 0, none⟩) (.node l e r) ∧ Below w.heap.size w w' := by
 refine (join_any hl hr he hs).mono ?_
 rintro x w' ⟨b, rfl, hb, hn, hbl⟩
 exact ⟨b, rfl, ⟨b, p, q, rfl, hG b hb, hn, he.kept (KpG.of hbl), hl.kept (KpG.of hbl), hr.kept (KpG.of hbl)⟩, hbl⟩
end Go.Proofs.YtpabbnddeklpdaaGreat
