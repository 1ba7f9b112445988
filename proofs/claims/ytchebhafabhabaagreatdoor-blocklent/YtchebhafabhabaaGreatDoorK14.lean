import Derived.Test.YtchebhafabhabaaGreatDoorK13
namespace Go.Proofs.YtchebhafabhabaaGreatDoor
open Go.RowKit Go.Shelf
set_option linter.unusedVariables false

set_option maxRecDepth 100000 in
set_option maxHeartbeats 2000000 in
theorem shared5_any {va vb : Value} {A B : List Nat} {w : World} (ha : Rd w va A) (hb : Rd w vb B) : Calls Tryz.prog 58 #[va, vb] w fun e w' => e = .returned (.int .i64 ((comL A B : Nat) : Int)) ∧ Below w.heap.size w w' := by
 obtain ⟨aA, nA, cA, rfl⟩ := rd_slice ha
 obtain ⟨aB, nB, cB, rfl⟩ := rd_slice hb
 have hA := rd_lens ha
 have hB := rd_lens hb
 have HA : Hid (Rd w (.slice aA nA cA) A) := ha
 have HB : Hid (Rd w (.slice aB nB cB) B) := hb
 have HL : Hid (nA = A.length ∧ nB = B.length) := ⟨hA.1, hB.1⟩
 have h48 := hA.2.2.2
 have h49 := hB.2.2.2
 clear ha hb hA hB
 go_enter Tryz.func58, Tryz.ntmps58
 go_wp2
 go_loopw [5] (fun i wr => ∃ k : Nat, k ≤ nA ∧ k ≤ nB ∧ i = .int .i64 ((k : Nat) : Int) ∧ Below w.heap.size w wr ∧ Hid (∀ j, j < k → A.getD j 0 = B.getD j 0)) (fun i _ => nA - (intOf i).toNat)
 case atStart => exact ⟨0, Nat.zero_le _, Nat.zero_le _, rfl, Below.refl _ _, fun j hj => by omega⟩
 case round =>
  obtain ⟨k, hkA, hkB, rfl, hbw, hS⟩ := hrel
  have HBW : Hid (Below w.heap.size w wr) := hbw
  have k0 : (0 : Int) ≤ (k : Int) := by omega
  by_cases h1 : k < nA
  ·have h1i : (k : Int) < (nA : Int) := by omega
   obtain ⟨bA, oA, rfl⟩ : ∃ b off, aA = some ⟨b, off, none⟩ := by
    rcases rd_some HA.out with ⟨_, h, _⟩ | h
    ·omega
    ·exact h
   by_cases h2 : k < nB
   ·have h2i : (k : Int) < (nB : Int) := by omega
    obtain ⟨bB, oB, rfl⟩ : ∃ b off, aB = some ⟨b, off, none⟩ := by
     rcases rd_some HB.out with ⟨_, h, _⟩ | h
     ·omega
     ·exact h
    obtain ⟨ca, la⟩ := rd_cell (HA.out.later hbw) k h1
    obtain ⟨cb, lb⟩ := rd_cell (HB.out.later hbw) k h2
    obtain ⟨xa, hxa⟩ : ∃ xa, xa = A.getD k 0 := ⟨_, rfl⟩
    obtain ⟨xb, hxb⟩ : ∃ xb, xb = B.getD k 0 := ⟨_, rfl⟩
    rw [← hxa] at ca la
    rw [← hxb] at cb lb
    have HX : Hid (xa = A.getD k 0 ∧ xb = B.getD k 0) := ⟨hxa, hxb⟩
    clear hxa hxb hbw
    by_cases he : xa = xb
    ·subst he
     go_wp2
     go_quiet (fail)
     go_wp2
     go_roundw
     case rel => exact ⟨k + 1, by omega, by omega, by go_num, below_drewN HBW.out _, fun j hj => by
      by_cases hjk : j < k
      ·exact hS.out j hjk
      ·obtain rfl : j = k := by omega
       rw [← HX.out.1, ← HX.out.2]⟩
     case measure => simp [intOf]; omega
    ·have he1 : ((xa : Int) == (xb : Int)) = false := by rw [beq_eq_false_iff_ne]; omega
     have he2 : ¬ ((xa : Int) = (xb : Int)) := by omega
     have hr : comL A B = k := comL_of (by rw [← HL.out.1]; exact hkA) (by rw [← HL.out.2]; exact hkB) hS.out (.inr (.inr (by rw [← HX.out.1, ← HX.out.2]; exact he)))
     have HR : Hid (comL A B = k) := hr
     clear hr
     go_wp2
     go_quiet (fail)
     go_wp2
     go_ret
     exact ⟨by rw [HR.out]; rfl, below_drewN HBW.out _⟩
   ·have h2i : ¬ ((k : Int) < (nB : Int)) := by omega
    have hr : comL A B = k := comL_of (by rw [← HL.out.1]; exact hkA) (by rw [← HL.out.2]; exact hkB) hS.out (.inr (.inl (by rw [← HL.out.2]; omega)))
    have HR : Hid (comL A B = k) := hr
    clear hr hbw
    go_wp2
    go_quiet (fail)
    go_wp2
    go_ret
    exact ⟨by rw [HR.out]; rfl, below_drewN HBW.out _⟩
  ·have h1i : ¬ ((k : Int) < (nA : Int)) := by omega
   have hr : comL A B = k := comL_of (by rw [← HL.out.1]; exact hkA) (by rw [← HL.out.2]; exact hkB) hS.out (.inl (by rw [← HL.out.1]; omega))
   have HR : Hid (comL A B = k) := hr
   clear hr hbw
   go_wp2
   go_quiet (fail)
   go_wp2
   go_ret
   exact ⟨by rw [HR.out]; rfl, below_drewN HBW.out _⟩
set_option maxRecDepth 100000 in
set_option maxHeartbeats 1000000 in
theorem four5_any (n : Nat) (hn : n < 4294967296) (w : World) :
  Calls Tryz.prog 86 #[.int .i64 (n : Int)] w fun e w' => ∃ a m c, e = .returned (.slice a m c) ∧ Own w' w.heap.size (.slice a m c) m (be4 n) ∧ Below w.heap.size w w' := by
 go_enter Tryz.func86, Tryz.ntmps86
 go_wp2
 go_ret
 refine ⟨_, 4, 4, rfl, own_new _ w.heap.size _ rfl (Nat.le_refl _) _ _ ?_ 4 rfl (by omega), (Below.refl _ _).alloc (Nat.le_refl _) _⟩
 simp [bv, be4]
 omega
set_option maxRecDepth 100000 in
theorem begin5_any (r : Int) (w : World) : Calls Tryz.prog 9 #[.int .i64 r] w fun e w' => e = .returned (.int .i64 (if 1 ≤ r ∧ r ≤ 16 then 0 else 1)) ∧ w' = w := by
 by_cases h : 1 ≤ r ∧ r ≤ 16
 ·rw [if_pos h]
  have h1 : ¬ r < 1 := by omega
  have h2 : ¬ 16 < r := by omega
  go_enter Tryz.func9, Tryz.ntmps9
  go_wp2
  go_ret
  exact ⟨rfl, rfl⟩
 ·rw [if_neg h]
  by_cases h1 : r < 1
  ·go_enter Tryz.func9, Tryz.ntmps9
   go_wp2
   go_ret
   exact ⟨rfl, rfl⟩
  ·have h2 : 16 < r := by omega
   go_enter Tryz.func9, Tryz.ntmps9
   go_wp2
   go_ret
   exact ⟨rfl, rfl⟩
structure L3 (W wr : World) (vb : Value) (E : List Nat) (vp : Value) (P : List Nat) (vl : Value) (L : List Nat) : Prop where
 b : Own wr W.heap.size vb E.length E
 p : Own wr W.heap.size vp P.length P
 l : Own wr W.heap.size vl L.length L
 bp : Apb vb vp
 bl : Apb vb vl
 pl : Apb vp vl
 bel : Below W.heap.size W wr
 by1 : Bys E
 by2 : Bys P
 by3 : Bys L
theorem L3.later {W wr wx : World} {vb vp vl : Value} {E P L : List Nat} (h : L3 W wr vb E vp P vl L) (hb : Below wr.heap.size wr wx) : L3 W wx vb E vp P vl L :=
 ⟨h.b.later hb, h.p.later hb, h.l.later hb, h.bp, h.bl, h.pl, h.bel.trans (hb.mono h.bel.size), h.by1, h.by2, h.by3⟩
theorem L3.key {W wr wx : World} {vb vp vl vk : Value} {E P L K : List Nat} {m : Nat} (h : L3 W wr vb E vp P vl L) (hb : Below wr.heap.size wr wx) (hk : Own wx wr.heap.size vk m K) (hK : Bys K) : L3 W wx vb E vp P vk K := by
 have hm := hk.1
 subst hm
 refine ⟨h.b.later hb, h.p.later hb, hk.mono h.bel.size, h.bp, ?_, ?_, h.bel.trans (hb.mono h.bel.size), h.by1, h.by2, hK⟩
 ·intro k h1 h2
  have := (h.b.2.lt _ h1).2
  have := (hk.2.lt _ h2).1
  omega
 ·intro k h1 h2
  have := (h.p.2.lt _ h1).2
  have := (hk.2.lt _ h2).1
  omega
theorem L3.growB {W wr wx : World} {vb vp vl vb' : Value} {E P L bs : List Nat} {n n' : Nat} (h : L3 W wr vb E vp P vl L) (g : Gr wr wx W.heap.size n n' vb vb' E bs) (hbs : Bys bs) : L3 W wx vb' (E ++ bs) vp P vl L := by
 have hn := g.new.1
 subst hn
 refine ⟨g.new, h.p.fb (Fb.of_grown (O := fun k => vb.ownBlock = some k) g.grown (fun i hi => hi)) (fun i hi k => h.bp i k hi), h.l.fb (Fb.of_grown (O := fun k => vb.ownBlock = some k) g.grown (fun i hi => hi)) (fun i hi k => h.bl i k hi), ?_, ?_, h.pl, h.bel.grown g.grown h.bel.size (fun k hk => (h.b.2.lt k hk).1), h.by1.app hbs, h.by2, h.by3⟩
 ·intro k h1 h2
  rcases g.loc k h1 with h3 | h3
  ·exact h.bp k h3 h2
  ·have := (h.p.2.lt _ h2).2; omega
 ·intro k h1 h2
  rcases g.loc k h1 with h3 | h3
  ·exact h.bl k h3 h2
  ·have := (h.l.2.lt _ h2).2; omega
theorem L3.growP {W wr wx : World} {vb vp vl vp' : Value} {E P L bs : List Nat} {n n' : Nat} (h : L3 W wr vb E vp P vl L) (g : Gr wr wx W.heap.size n n' vp vp' P bs) (hbs : Bys bs) : L3 W wx vb E vp' (P ++ bs) vl L := by
 have hn := g.new.1
 subst hn
 refine ⟨h.b.fb (Fb.of_grown (O := fun k => vp.ownBlock = some k) g.grown (fun i hi => hi)) (fun i hi k => h.bp i hi k), g.new, h.l.fb (Fb.of_grown (O := fun k => vp.ownBlock = some k) g.grown (fun i hi => hi)) (fun i hi k => h.pl i k hi), ?_, h.bl, ?_, h.bel.grown g.grown h.bel.size (fun k hk => (h.p.2.lt k hk).1), h.by1, h.by2.app hbs, h.by3⟩
 ·intro k h1 h2
  rcases g.loc k h2 with h3 | h3
  ·exact h.bp k h1 h3
  ·have := (h.b.2.lt _ h1).2; omega
 ·intro k h1 h2
  rcases g.loc k h1 with h3 | h3
  ·exact h.pl k h3 h2
  ·have := (h.l.2.lt _ h2).2; omega
theorem L3.start (W : World) : L3 W W (.slice none 0 0) [] (.slice none 0 0) [] (.slice none 0 0) [] :=
 ⟨ownNil _ _, ownNil _ _, ownNil _ _, (fun k hk => by cases hk), (fun k hk => by cases hk), (fun k hk => by cases hk), Below.refl _ _, (fun x hx => by cases hx), (fun x hx => by cases hx), (fun x hx => by cases hx)⟩
end Go.Proofs.YtchebhafabhabaaGreatDoor

namespace Go.Proofs.YtchebhafabhabaaGreatDoor
open Go.RowKit Go.Shelf
set_option linter.unusedVariables false

def LayP (W : World) (bs : List Nat) (x : Ending) (w' : World) : Prop := ∃ a m c, x = .returned (.slice a m c) ∧ Own w' W.heap.size (.slice a m c) m bs ∧ Below W.heap.size W w'
theorem uint_small {n : Nat} (h : n < 18446744073709551616) : IntKind.u64.wrap (n : Int) = (n : Int) := IntWalk.u64_in _ ⟨by omega, by omega⟩
theorem bytesL_len (bs : List Nat) : (bytesL bs).length ≤ bs.length + 10 := by unfold bytesL; have := (uintL_len bs.length).2; simp; omega
structure Lz (W : World) (r : Nat) (l : List EntD) (wr : World) (k : Nat) (vb vp vl : Value) (nb np nl : Nat) : Prop where
 st : ∃ s, s = foldB r Bs.zero (kvL (l.take k)) ∧ nb = s.es.length ∧ np = s.ps.length ∧ nl = s.la.length ∧ L3 W wr vb s.es vp s.ps vl s.la
theorem kv_take {l : List EntD} {k : Nat} {e : EntD} (h : l[k]? = some e) (r : Nat) : foldB r Bs.zero (kvL (l.take (k + 1))) = addB r (foldB r Bs.zero (kvL (l.take k))) (keyL e) e.val := by
 have hk : k < l.length := (List.getElem?_eq_some_iff.1 h).1
 have e1 : l.take (k + 1) = l.take k ++ [e] := by rw [List.take_add_one, h]; rfl
 unfold kvL
 rw [e1, List.map_append, foldB_app]
 rfl
def lastK : List (List Nat × List Nat) → List Nat
 | [] => []
 | [kv] => kv.1
 | _ :: t => lastK t
theorem fold_la_eq (r : Nat) : ∀ (l : List (List Nat × List Nat)) (s : Bs), (foldB r s l).la = if l = [] then s.la else lastK l
 | [], s => by simp [foldB]
 | [kv], s => by simp [foldB, addB, lastK]
 | kv :: kw :: t, s => by
  simp only [foldB]
  have := fold_la_eq r (kw :: t) (addB r s kv.1 kv.2)
  simp only [foldB] at this
  rw [this]
  simp [lastK]
theorem fold_last (r : Nat) (l : List (List Nat × List Nat)) : (foldB r Bs.zero l).la = lastK l := by
 rw [fold_la_eq]
 split
 ·rename_i h; rw [h]; rfl
 ·rfl
theorem up_at : ∀ {l : List (List Nat × List Nat)} {k : Nat} {kv : List Nat × List Nat}, Up [] l → l[k]? = some kv → ordC (lastK (l.take k)) kv.1 < 0 := by
 have gen : ∀ (l : List (List Nat × List Nat)) (la : List Nat) (k : Nat) (kv : List Nat × List Nat), Up la l → l[k]? = some kv → ordC (if l.take k = [] then la else lastK (l.take k)) kv.1 < 0 := by
  intro l
  induction l with
  | nil => intro la k kv _ h; simp at h
  | cons x t ih =>
   intro la k kv hu h
   cases k with
   | zero => simp at h; simp; rw [← h]; exact hu.1
   | succ k =>
    have := ih x.1 k kv hu.2 (by simpa using h)
    rw [if_neg (by simp)]
    show ordC (lastK (x :: t.take k)) kv.1 < 0
    split at this
    ·rename_i h0
     rw [h0]
     exact this
    ·rename_i h0
     have e : lastK (x :: t.take k) = lastK (t.take k) := by
      cases hq : t.take k with
      | nil => exact absurd hq h0
      | cons y u => rfl
     rw [e]
     exact this
 intro l k kv hu h
 have := gen l [] k kv hu h
 split at this
 ·rename_i h0; rw [h0]; exact this
 ·exact this
set_option maxRecDepth 100000 in
set_option maxHeartbeats 8000000 in
theorem lay_any {W : World} {a : Option Addr} {cap r : Nat} {l : List EntD} {E P : List Nat} (hr : RdL5 W a cap l) (hL : Blad r (kvL l) E P) (hc : ∀ e ∈ l, checkS e = 0) :
  Calls Tryz.prog 49 #[.int .i64 (r : Int), .slice a l.length cap] W fun x w' => LayP W (blockL E P l.length r) x w' := by
 obtain ⟨N, hN⟩ : ∃ N, N = l.length := ⟨_, rfl⟩
 rw [← hN]
 have hN0 : N ≠ 0 := fun h => hL.some_ (by rw [List.eq_nil_of_length_eq_zero (l := l) (by omega)]; rfl)
 have hN0i : ((N : Int) == 0) = false := by rw [beq_eq_false_iff_ne]; omega
 have hN17 : N ≤ 131072 := by have := hL.few; have := hL.size; rw [kvL_len] at *; omega
 have hr1 := hL.r1
 have hr16 := hL.r16
 have hr0 : ¬ (r : Int) = 0 := by omega
 have hrb : IntKind.u8.wrap (r : Int) = (r : Int) := IntWalk.u8_in _ ⟨by omega, by omega⟩
 have HN := Lib.hid hN
 have HR := Lib.hid hr
 have HL := Lib.hid hL
 have HC := Lib.hid hc
 have HSz : Hid (∀ k, (foldB r Bs.zero (kvL (l.take k))).es.length ≤ E.length ∧ (foldB r Bs.zero (kvL (l.take k))).ps.length ≤ P.length) := fun k => by
  have e : kvL l = kvL (l.take k) ++ kvL (l.drop k) := by unfold kvL; rw [← List.map_append, List.take_append_drop]
  obtain ⟨m1, h1⟩ := foldB_es r (kvL (l.drop k)) (foldB r Bs.zero (kvL (l.take k)))
  obtain ⟨m2, h2⟩ := foldB_ps r (kvL (l.drop k)) (foldB r Bs.zero (kvL (l.take k)))
  rw [hL.es, hL.ps, e, foldB_app, h1, h2]
  simp
 have HEP := Lib.hid hL.size
 have H0 : Hid (Lz W r l W 0 (.slice none 0 0) (.slice none 0 0) (.slice none 0 0) 0 0 0) := ⟨_, rfl, rfl, rfl, rfl, by simpa [kvL, foldB, Bs.zero] using L3.start W⟩
 clear hN hr hL hc
 go_enter Tryz.func49, Tryz.ntmps49
 go_wp2
 go_loopw [5, 6, 7, 8, 9, 10, 11] (fun vb vp vl iv _ _ _ wr => ∃ (k nb np nl : Nat) (ab : Option Addr) (cb : Nat) (ap : Option Addr) (cp : Nat) (al : Option Addr) (cl : Nat), k ≤ N ∧ iv = .int .i64 (k : Int) ∧ vb = .slice ab nb cb ∧ vp = .slice ap np cp ∧ vl = .slice al nl cl ∧ Hid (Lz W r l wr k (.slice ab nb cb) (.slice ap np cp) (.slice al nl cl) nb np nl)) (fun _ _ _ iv _ _ _ _ => N - (intOf iv).toNat)
 case atStart => exact ⟨0, 0, 0, 0, none, 0, none, 0, none, 0, Nat.zero_le _, rfl, rfl, rfl, rfl, H0⟩
 case round =>
  clear H0
  obtain ⟨k, nb, np, nl, ab, cb, ap, cp, al, cl, hk, rfl, rfl, rfl, rfl, HU⟩ := hrel
  have k0 : (0 : Int) ≤ (k : Int) := by omega
  by_cases hlt : k < N
  ·have hlt2 : (k : Int) < (N : Int) := by omega
   have hl2 : k < l.length := by rw [← HN.out]; exact hlt
   obtain ⟨e, he⟩ : ∃ e, l[k]? = some e := ⟨l[k], List.getElem?_eq_getElem hl2⟩
   obtain ⟨s, hs, hnb, hnp, hnl, h3⟩ := HU.out.st
   have hrd := HR.out.later h3.bel
   have hok := hrd.ok e (List.mem_of_getElem? he)
   obtain ⟨b, off, rfl, d0, d1, d2, d3, d4, d5, d6⟩ := hrd.cel he
   have hcap := hrd.cap
   have hce0 := HC.out e (List.mem_of_getElem? he)
   have hK := refKey_ok hok hce0
   have hKb : Bys (keyL e) := keyL_bys hok.1.1 hok.2.1.1 hce0
   have hKl := keyL_len hce0
   have hV := (check_facts hce0).2.2.2.2.2.2.2.1
   have hsn : s.n = k := by rw [hs, foldB_n, kvL_len]; simp [Bs.zero]; omega
   have hszk := HSz.out k
   have hszk1 := HSz.out (k + 1)
   rw [← hs, ← hnb, ← hnp] at hszk
   rw [kv_take he r, ← hs] at hszk1
   obtain ⟨_, p1, q1, e1, -⟩ := hok.1
   obtain ⟨_, p2, q2, e2, -⟩ := hok.2.1
   obtain ⟨_, p3, q3, e3, -⟩ := hok.2.2
   have hce : e.cells = #[.slice p1 e.row.length q1, .int .i64 e.fam, .slice p2 e.qual.length q2, .int .i64 e.ts, .int .i64 e.seq, .int .i64 e.kind, .slice p3 e.val.length q3] := by unfold EntD.cells; rw [e1, e2, e3]
   rw [e1] at d0
   rw [e2] at d2
   rw [e3] at d6
   rw [hce] at hK
   obtain ⟨z1, hz1⟩ : ∃ z, z = e.row.length := ⟨_, rfl⟩
   obtain ⟨z2, hz2⟩ : ∃ z, z = e.qual.length := ⟨_, rfl⟩
   obtain ⟨z3, hz3⟩ : ∃ z, z = e.val.length := ⟨_, rfl⟩
   rw [← hz1] at d0 hK
   rw [← hz2] at d2 hK
   rw [← hz3] at d6 hK
   obtain ⟨K, hKK⟩ : ∃ K, keyL e = K := ⟨_, rfl⟩
   obtain ⟨V, hVV⟩ : ∃ V, e.val = V := ⟨_, rfl⟩
   rw [hKK] at hK hKb hKl
   rw [hVV] at hV hz3
   rw [hKK, hVV] at hszk1
   have HK := Lib.hid hK
   have H3 := Lib.hid h3
   have HE : Hid (l[k]? = some e ∧ keyL e = K ∧ e.val = V ∧ s = foldB r Bs.zero (kvL (l.take k)) ∧ s.n = k ∧ Bys K ∧ nb = s.es.length ∧ np = s.ps.length ∧ nl = s.la.length ∧ z3 = V.length) := ⟨he, hKK, hVV, hs, hsn, hKb, hnb, hnp, hnl, hz3⟩
   have hzv : e.val.length = z3 := by rw [hVV]; exact hz3.symm
   have HVa : Hid (∀ wx, Below W.heap.size W wx → wx.cell? ⟨b, off + k * 7 + 6, none⟩ = some (.slice p3 z3 q3) ∧ Rd wx (.slice p3 z3 q3) V) := fun wx hx => by
    have h := HR.out.later hx
    obtain ⟨b', off', heq, _, _, _, _, _, _, f6⟩ := h.cel he
    cases heq
    have hv := (h.ok e (List.mem_of_getElem? he)).2.2
    rw [e3, hzv, hVV] at hv
    rw [e3, hzv] at f6
    exact ⟨f6, hv⟩
   have HS1 := Lib.hid hszk1
   have hnb17 : nb ≤ 131072 := by have := HEP.out; omega
   have hnp17 : np ≤ 131072 := by have := HEP.out; omega
   clear hzv hrd he hok hce0 hK hszk1 hz1 hz2 hz3 hce e1 e2 e3 h3 hs hnb hnp hnl hKK hVV hsn hKb HU hl2
   go_wp2_with fail
   refine Calls.mono HK.out ?_
   rintro z X1 ⟨ak, mk, ck, rfl, ownK, b1⟩
   have h31 := H3.out.later b1
   have h3k := H3.out.key b1 ownK HE.out.2.2.2.2.2.1
   have hmk : Hid (mk = K.length) := ownK.1
   have rdK := ownK.rd HE.out.2.2.2.2.2.1 (by rw [ownK.1]; omega)
   have rdL := h31.l.rd h31.by3 (by
    have e1 := HE.out.2.2.2.1
    have h1 : s.la.length ≤ s.es.length := by rw [e1]; exact fold_la r _ _ (Nat.le_refl _)
    have h2 := HE.out.2.2.2.2.2.2.1
    omega)
   have HSh := Lib.hid (shared5_any rdL rdK)
   obtain ⟨cm, hcm⟩ : ∃ cm, comL s.la K = cm := ⟨_, rfl⟩
   rw [hcm] at HSh
   have H3k := Lib.hid h3k
   have HCm := Lib.hid hcm
   clear HK H3 h31 h3k ownK b1 rdK rdL hcm d0 d1 d2 d3 d4 d5 d6
   go_wp2_with fail
   refine Calls.mono HSh.out ?_
   rintro z X2 ⟨rfl, b2⟩
   have H3b := Lib.hid (H3k.out.later b2)
   clear HSh H3k b2
   by_cases hz : k % r = 0
   ·have hzi : (((k : Int) % (r : Int)) == 0) = true := by rw [beq_iff_eq]; omega
    have HKp0 : Hid (0 < K.length ∧ 0 < K.length) := by
     obtain ⟨e1, e2, e3, e4, e5, e6, e7, e8, e9, e10⟩ := HE.out
     have hup := up_at HL.out.up (by unfold kvL; rw [List.getElem?_map, e1]; rfl : (kvL l)[k]? = some (keyL e, e.val))
     have hla : s.la = lastK (kvL (l.take k)) := by rw [e4]; exact fold_last r _
     have h1 : ordC s.la K < 0 := by
      rw [hla, ← e2]
      have : (kvL l).take k = kvL (l.take k) := by unfold kvL; rw [List.map_take]
      rw [← this]
      exact hup
     have h2 := com_lt (a := s.la) (b := K) (by rw [ordC_swap s.la K]; omega)
     rw [HCm.out] at h2
     unfold Hid
     omega
    have HShv : Hid (shOf r s K = 0) := by unfold Hid shOf; rw [HE.out.2.2.2.2.1, if_pos hz]
    have HPs : Hid (psOf r s = s.ps ++ be4 nb) := by unfold Hid psOf; rw [HE.out.2.2.2.2.1, if_pos hz, ← HE.out.2.2.2.2.2.2.1]
    have HF := Lib.hid (four5_any nb (by omega) X2)
    go_wp2_with fail
    refine Calls.mono HF.out ?_
    rintro z X3 ⟨af, mf, cf, rfl, ownF, b3⟩
    obtain rfl : mf = 4 := ownF.1
    have h33 := H3b.out.later b3
    have rdF : Rd X3 (.slice af 4 cf) (be4 nb) := ownF.rd (be4_bys nb (by omega)) (by omega)
    have ownP : Own X3 W.heap.size (.slice ap np cp) np s.ps := by
     have h := h33.p
     rw [← HE.out.2.2.2.2.2.2.2.1] at h
     exact h
    have hWX3 : W.heap.size ≤ X3.heap.size := h33.bel.size
    have HA := Lib.hid (And.intro h33 (And.intro rdF ownP))
    clear HF ownF b3 h33 rdF ownP H3b
    go_wp2_with (first | (have Y := H3c; go_at_call 59; fail) | (at_builtin; refine wpList_append_keep rfl _ _ rfl W.heap.size _ _ _ _ rfl HA.out.2.2 _ _ _ _ rfl HA.out.2.1 (by omega) hWX3 ?_; intro a4 c4 X4 g4; have H3c := Lib.hid (HA.out.1.growP g4 (be4_bys nb (by omega))); clear g4))
    clear HA
    have HKp : Hid (0 < K.length ∧ 0 < K.length) := HKp0.out
    have hgk : ∃ gk, ak = some ⟨gk, 0, none⟩ := by
     have h := H3c.out.l
     rw [← hmk.out] at h
     rcases ownNonil h with ⟨_, h0, _⟩ | h
     ·have := HKp.out; have := hmk.out; omega
     ·exact h
    obtain ⟨gk, rfl⟩ := hgk
    have hmkc : mk ≤ ck := by
     have h := H3c.out.l
     rw [← hmk.out] at h
     exact (rd_lens (h.rd H3c.out.by3 (by have := hmk.out; omega))).2.1
    have hsh64 : 0 < 18446744073709551616 := by have := HKp.out; omega
    have hshm : 0 < mk := by have := HKp.out; have := hmk.out; omega
    have hU : Calls Tryz.prog 59 #[.int .u64 0] X4 fun e w' => ∃ a m c, e = .returned (.slice a m c) ∧ Own w' X4.heap.size (.slice a m c) m (uintL 0) ∧ Below X4.heap.size X4 w' := by
     have := refUint_any 0 (by have := HKp.out; omega) X4
     simpa using this
    have HU := Lib.hid hU
    clear hU
    refine Calls.mono HU.out ?_
    rintro z Y1 ⟨au, mu, cu, rfl, ownU, b3⟩
    have hmu : Hid (mu = (uintL 0).length) := ownU.1
    have hmu10 : mu ≤ 10 := by rw [hmu.out]; exact (uintL_len _).2
    have rdU : Rd Y1 (.slice au mu cu) (uintL 0) := ownU.rd (uintL_bys _ (by omega)) (by omega)
    have h34 := H3c.out.later b3
    have ownB : Own Y1 W.heap.size (.slice ab nb cb) nb s.es := by
     have h := h34.b
     rw [← HE.out.2.2.2.2.2.2.1] at h
     exact h
    have hWY1 : W.heap.size ≤ Y1.heap.size := h34.bel.size
    have HA1 := Lib.hid (And.intro h34 (And.intro rdU ownB))
    clear HU ownU b3 h34 rdU ownB
    go_wp2_with (first | (have Y := H3e; go_at_call 60; fail) | (at_builtin; refine wpList_append_keep rfl _ _ rfl W.heap.size _ _ _ _ rfl HA1.out.2.2 _ _ _ _ rfl HA1.out.2.1 (by omega) hWY1 ?_; intro a5 c5 Y2 g5; have O5 := Lib.hid g5.new; have H3e := Lib.hid (HA1.out.1.growB g5 (uintL_bys _ (by omega))); clear g5))
    have rdK : Rd Y2 (.slice (some ⟨gk, 0, none⟩) mk ck) K := by
     have h := H3e.out.l
     rw [← hmk.out] at h
     exact h.rd H3e.out.by3 (by have := hmk.out; omega)
    have rdKs : Rd Y2 (.slice (some ⟨gk, 0, none⟩) mk ck) (K.drop 0) := by
     have h := rdK.past 0 (by omega) (off' := 0 + 0) (n' := mk - 0) (cap' := ck - 0) rfl rfl rfl
     simpa using h
    have HB1 := Lib.hid (refBytes_any rdKs (by rw [List.length_drop]; omega))
    have HBk : Hid (Bys (bytesL (K.drop 0))) := bytesL_bys rdKs.1 (by rw [List.length_drop]; omega)
    clear rdK rdKs HA1
    refine Calls.mono HB1.out ?_
    rintro z Y3 ⟨aw, mw, cw, rfl, ownW, b5⟩
    have hmw : Hid (mw = (bytesL (K.drop 0)).length) := ownW.1
    have hmw3 : mw ≤ 3000 := by
     have h1 := bytesL_len (K.drop 0)
     rw [← hmw.out, List.length_drop] at h1
     omega
    have rdW : Rd Y3 (.slice aw mw cw) (bytesL (K.drop 0)) := ownW.rd HBk.out (by omega)
    have h35 := H3e.out.later b5
    have ownB : Own Y3 W.heap.size (.slice a5 (nb + mu) c5) (nb + mu) (s.es ++ uintL 0) := O5.out.later b5
    have hWY3 : W.heap.size ≤ Y3.heap.size := h35.bel.size
    have HA3 := Lib.hid (And.intro h35 (And.intro rdW ownB))
    clear HB1 ownW b5 h35 rdW ownB H3e O5
    go_wp2_with (first | (have Y := H3g; go_at_call 60; fail) | (at_builtin; refine wpList_append_keep rfl _ _ rfl W.heap.size _ _ _ _ rfl HA3.out.2.2 _ _ _ _ rfl HA3.out.2.1 (by omega) hWY3 ?_; intro a7 c7 Y4 g7; have O7 := Lib.hid g7.new; have H3g := Lib.hid (HA3.out.1.growB g7 HBk.out); have f6 := (HVa.out _ H3g.out.bel).1; clear g7))
    have rdV := (HVa.out _ H3g.out.bel).2
    have hz3 : Hid (z3 = V.length) := HE.out.2.2.2.2.2.2.2.2.2
    have HB2 := Lib.hid (refBytes_any rdV (by rw [← hz3.out]; have := (rd_lens rdV).1; omega))
    have HBv : Hid (Bys (bytesL V)) := bytesL_bys rdV.1 (by omega)
    clear rdV HA3 f6
    refine Calls.mono HB2.out ?_
    rintro z Y5 ⟨ax, mx, cx, rfl, ownX, b7⟩
    have hmx : Hid (mx = (bytesL V).length) := ownX.1
    have hmx5 : mx ≤ 5000 := by
     have h1 := bytesL_len V
     rw [← hmx.out] at h1
     omega
    have rdX : Rd Y5 (.slice ax mx cx) (bytesL V) := ownX.rd HBv.out (by omega)
    have h37 := H3g.out.later b7
    have ownB : Own Y5 W.heap.size (.slice a7 (nb + mu + mw) c7) (nb + mu + mw) (s.es ++ uintL 0 ++ bytesL (K.drop 0)) := O7.out.later b7
    have hWY5 : W.heap.size ≤ Y5.heap.size := h37.bel.size
    have HA5 := Lib.hid (And.intro h37 (And.intro rdX ownB))
    clear HB2 ownX b7 h37 rdX ownB H3g O7
    go_wp2_with (at_builtin; refine wpList_append_keep rfl _ _ rfl W.heap.size _ _ _ _ rfl HA5.out.2.2 _ _ _ _ rfl HA5.out.2.1 (by omega) hWY5 ?_; intro a9 c9 Y6 g9; have H3i := Lib.hid (HA5.out.1.growB g9 HBv.out); clear g9)
    have HZ : Hid (Lz W r l Y6 (k + 1) (.slice a9 (nb + mu + mw + mx) c9) (.slice a4 (np + 4) c4) (.slice (some ⟨gk, 0, none⟩) mk ck) (nb + mu + mw + mx) (np + 4) mk) := by
     obtain ⟨e1, e2, e3, e4, e5, e6, e7, e8, e9, e10⟩ := HE.out
     refine ⟨addB r s K V, by rw [kv_take e1 r, ← e4, e2, e3], ?_, ?_, ?_, ?_⟩
     ·simp only [addB, esOf, recL]
      rw [HShv.out, List.length_append, ← e7]
      have q1 := hmu.out
      have q2 := hmw.out
      have q3 := hmx.out
      unfold bytesL at q2 q3
      simp only [List.length_append] at q2 q3 ⊢
      omega
     ·simp only [addB]
      rw [HPs.out]
      have := e8
      simp [be4]
      omega
     ·exact hmk.out
     ·have h := H3i.out
      have ee : (addB r s K V).es = s.es ++ uintL 0 ++ bytesL (K.drop 0) ++ bytesL V := by
       simp only [addB, esOf, recL]
       rw [HShv.out]
       simp [bytesL]
      have ep : (addB r s K V).ps = s.ps ++ be4 nb := by simp only [addB]; exact HPs.out
      rw [ee, ep]
      exact h
    clear HA5 H3i
    go_wp2
    go_roundw
    case rel => exact ⟨k + 1, nb + mu + mw + mx, np + 4, mk, a9, c9, _, _, _, _, by omega, by go_num, rfl, rfl, rfl, HZ⟩
    case measure => simp only [intOf]; omega
   ·have hzi : (((k : Int) % (r : Int)) == 0) = false := by rw [beq_eq_false_iff_ne]; omega
    have HKp0 : Hid (0 < K.length ∧ cm < K.length) := by
     obtain ⟨e1, e2, e3, e4, e5, e6, e7, e8, e9, e10⟩ := HE.out
     have hup := up_at HL.out.up (by unfold kvL; rw [List.getElem?_map, e1]; rfl : (kvL l)[k]? = some (keyL e, e.val))
     have hla : s.la = lastK (kvL (l.take k)) := by rw [e4]; exact fold_last r _
     have h1 : ordC s.la K < 0 := by
      rw [hla, ← e2]
      have : (kvL l).take k = kvL (l.take k) := by unfold kvL; rw [List.map_take]
      rw [← this]
      exact hup
     have h2 := com_lt (a := s.la) (b := K) (by rw [ordC_swap s.la K]; omega)
     rw [HCm.out] at h2
     unfold Hid
     omega
    have HShv : Hid (shOf r s K = cm) := by unfold Hid shOf; rw [HE.out.2.2.2.2.1, if_neg hz]; exact HCm.out
    have HPs : Hid (psOf r s = s.ps) := by unfold Hid psOf; rw [HE.out.2.2.2.2.1, if_neg hz]
    have hcw : IntKind.u64.wrap (cm : Int) = (cm : Int) := uint_small (by have := HKp0.out; omega)
    have H3c := Lib.hid H3b.out
    clear H3b
    go_wp2_with fail
    have HKp : Hid (0 < K.length ∧ cm < K.length) := HKp0.out
    have hgk : ∃ gk, ak = some ⟨gk, 0, none⟩ := by
     have h := H3c.out.l
     rw [← hmk.out] at h
     rcases ownNonil h with ⟨_, h0, _⟩ | h
     ·have := HKp.out; have := hmk.out; omega
     ·exact h
    obtain ⟨gk, rfl⟩ := hgk
    have hmkc : mk ≤ ck := by
     have h := H3c.out.l
     rw [← hmk.out] at h
     exact (rd_lens (h.rd H3c.out.by3 (by have := hmk.out; omega))).2.1
    have hsh64 : cm < 18446744073709551616 := by have := HKp.out; omega
    have hshm : cm < mk := by have := HKp.out; have := hmk.out; omega
    have hU : Calls Tryz.prog 59 #[.int .u64 (cm : Int)] X2 fun e w' => ∃ a m c, e = .returned (.slice a m c) ∧ Own w' X2.heap.size (.slice a m c) m (uintL cm) ∧ Below X2.heap.size X2 w' := by
     have := refUint_any cm (by have := HKp.out; omega) X2
     simpa using this
    have HU := Lib.hid hU
    clear hU
    refine Calls.mono HU.out ?_
    rintro z Y1 ⟨au, mu, cu, rfl, ownU, b3⟩
    have hmu : Hid (mu = (uintL cm).length) := ownU.1
    have hmu10 : mu ≤ 10 := by rw [hmu.out]; exact (uintL_len _).2
    have rdU : Rd Y1 (.slice au mu cu) (uintL cm) := ownU.rd (uintL_bys _ (by omega)) (by omega)
    have h34 := H3c.out.later b3
    have ownB : Own Y1 W.heap.size (.slice ab nb cb) nb s.es := by
     have h := h34.b
     rw [← HE.out.2.2.2.2.2.2.1] at h
     exact h
    have hWY1 : W.heap.size ≤ Y1.heap.size := h34.bel.size
    have HA1 := Lib.hid (And.intro h34 (And.intro rdU ownB))
    clear HU ownU b3 h34 rdU ownB
    go_wp2_with (first | (have Y := H3e; go_at_call 60; fail) | (at_builtin; refine wpList_append_keep rfl _ _ rfl W.heap.size _ _ _ _ rfl HA1.out.2.2 _ _ _ _ rfl HA1.out.2.1 (by omega) hWY1 ?_; intro a5 c5 Y2 g5; have O5 := Lib.hid g5.new; have H3e := Lib.hid (HA1.out.1.growB g5 (uintL_bys _ (by omega))); clear g5))
    have rdK : Rd Y2 (.slice (some ⟨gk, 0, none⟩) mk ck) K := by
     have h := H3e.out.l
     rw [← hmk.out] at h
     exact h.rd H3e.out.by3 (by have := hmk.out; omega)
    have rdKs : Rd Y2 (.slice (some ⟨gk, cm, none⟩) (mk - cm) (ck - cm)) (K.drop cm) := by
     have h := rdK.past cm (by omega) (off' := 0 + cm) (n' := mk - cm) (cap' := ck - cm) rfl rfl rfl
     simpa using h
    have HB1 := Lib.hid (refBytes_any rdKs (by rw [List.length_drop]; omega))
    have HBk : Hid (Bys (bytesL (K.drop cm))) := bytesL_bys rdKs.1 (by rw [List.length_drop]; omega)
    clear rdK rdKs HA1
    refine Calls.mono HB1.out ?_
    rintro z Y3 ⟨aw, mw, cw, rfl, ownW, b5⟩
    have hmw : Hid (mw = (bytesL (K.drop cm)).length) := ownW.1
    have hmw3 : mw ≤ 3000 := by
     have h1 := bytesL_len (K.drop cm)
     rw [← hmw.out, List.length_drop] at h1
     omega
    have rdW : Rd Y3 (.slice aw mw cw) (bytesL (K.drop cm)) := ownW.rd HBk.out (by omega)
    have h35 := H3e.out.later b5
    have ownB : Own Y3 W.heap.size (.slice a5 (nb + mu) c5) (nb + mu) (s.es ++ uintL cm) := O5.out.later b5
    have hWY3 : W.heap.size ≤ Y3.heap.size := h35.bel.size
    have HA3 := Lib.hid (And.intro h35 (And.intro rdW ownB))
    clear HB1 ownW b5 h35 rdW ownB H3e O5
    go_wp2_with (first | (have Y := H3g; go_at_call 60; fail) | (at_builtin; refine wpList_append_keep rfl _ _ rfl W.heap.size _ _ _ _ rfl HA3.out.2.2 _ _ _ _ rfl HA3.out.2.1 (by omega) hWY3 ?_; intro a7 c7 Y4 g7; have O7 := Lib.hid g7.new; have H3g := Lib.hid (HA3.out.1.growB g7 HBk.out); have f6 := (HVa.out _ H3g.out.bel).1; clear g7))
    have rdV := (HVa.out _ H3g.out.bel).2
    have hz3 : Hid (z3 = V.length) := HE.out.2.2.2.2.2.2.2.2.2
    have HB2 := Lib.hid (refBytes_any rdV (by rw [← hz3.out]; have := (rd_lens rdV).1; omega))
    have HBv : Hid (Bys (bytesL V)) := bytesL_bys rdV.1 (by omega)
    clear rdV HA3 f6
    refine Calls.mono HB2.out ?_
    rintro z Y5 ⟨ax, mx, cx, rfl, ownX, b7⟩
    have hmx : Hid (mx = (bytesL V).length) := ownX.1
    have hmx5 : mx ≤ 5000 := by
     have h1 := bytesL_len V
     rw [← hmx.out] at h1
     omega
    have rdX : Rd Y5 (.slice ax mx cx) (bytesL V) := ownX.rd HBv.out (by omega)
    have h37 := H3g.out.later b7
    have ownB : Own Y5 W.heap.size (.slice a7 (nb + mu + mw) c7) (nb + mu + mw) (s.es ++ uintL cm ++ bytesL (K.drop cm)) := O7.out.later b7
    have hWY5 : W.heap.size ≤ Y5.heap.size := h37.bel.size
    have HA5 := Lib.hid (And.intro h37 (And.intro rdX ownB))
    clear HB2 ownX b7 h37 rdX ownB H3g O7
    go_wp2_with (at_builtin; refine wpList_append_keep rfl _ _ rfl W.heap.size _ _ _ _ rfl HA5.out.2.2 _ _ _ _ rfl HA5.out.2.1 (by omega) hWY5 ?_; intro a9 c9 Y6 g9; have H3i := Lib.hid (HA5.out.1.growB g9 HBv.out); clear g9)
    have HZ : Hid (Lz W r l Y6 (k + 1) (.slice a9 (nb + mu + mw + mx) c9) (.slice ap np cp) (.slice (some ⟨gk, 0, none⟩) mk ck) (nb + mu + mw + mx) (np) mk) := by
     obtain ⟨e1, e2, e3, e4, e5, e6, e7, e8, e9, e10⟩ := HE.out
     refine ⟨addB r s K V, by rw [kv_take e1 r, ← e4, e2, e3], ?_, ?_, ?_, ?_⟩
     ·simp only [addB, esOf, recL]
      rw [HShv.out, List.length_append, ← e7]
      have q1 := hmu.out
      have q2 := hmw.out
      have q3 := hmx.out
      unfold bytesL at q2 q3
      simp only [List.length_append] at q2 q3 ⊢
      omega
     ·simp only [addB]
      rw [HPs.out]
      have := e8
      exact this
     ·exact hmk.out
     ·have h := H3i.out
      have ee : (addB r s K V).es = s.es ++ uintL cm ++ bytesL (K.drop cm) ++ bytesL V := by
       simp only [addB, esOf, recL]
       rw [HShv.out]
       simp [bytesL]
      have ep : (addB r s K V).ps = s.ps := by simp only [addB]; exact HPs.out
      rw [ee, ep]
      exact h
    clear HA5 H3i
    go_wp2
    go_roundw
    case rel => exact ⟨k + 1, nb + mu + mw + mx, np, mk, a9, c9, _, _, _, _, by omega, by go_num, rfl, rfl, rfl, HZ⟩
    case measure => simp only [intOf]; omega
  ·have hge : ¬ (k : Int) < (N : Int) := by omega
   obtain rfl : k = N := by omega
   obtain ⟨s, hs, hnb, hnp, hnl, h3⟩ := HU.out.st
   rw [List.take_of_length_le (by rw [← HN.out]; exact Nat.le_refl _)] at hs
   have hE : s.es = E := by rw [hs]; exact HL.out.es.symm
   have hP : s.ps = P := by rw [hs]; exact HL.out.ps.symm
   rw [hE] at hnb h3
   rw [hP] at hnp h3
   have hnb17 : nb ≤ 131072 := by have := HEP.out; omega
   have hnp17 : np ≤ 131072 := by have := HEP.out; omega
   have hsz : nb + np + 9 ≤ 131072 := by have := HEP.out; omega
   have ownB : Own wr W.heap.size (.slice ab nb cb) nb E := by
    have h := h3.b
    rw [← hnb] at h
    exact h
   have rdP : Rd wr (.slice ap np cp) P := h3.p.rd h3.by2 (by omega)
   have HA := Lib.hid (And.intro ownB rdP)
   have HB := Lib.hid h3.bel
   have HBy := Lib.hid (And.intro h3.by1 h3.by2)
   have hWw : W.heap.size ≤ wr.heap.size := h3.bel.size
   clear hs hnb hnp hnl h3 hE hP ownB rdP HU HSz
   go_wp2_with (first | (have Y := O1; go_at_call 86; fail) | (at_builtin; refine wpList_append_keep rfl _ _ rfl W.heap.size _ _ _ _ rfl HA.out.1 _ _ _ _ rfl HA.out.2 (by omega) hWw ?_; intro a1 c1 Y1 g1; have O1 := Lib.hid g1.new; have HB1 := Lib.hid (HB.out.grown g1.grown HB.out.size (fun k hk => (HA.out.1.2.lt k hk).1)); clear g1))
   refine Calls.mono (four5_any k (by omega) _) ?_
   rintro z Y2 ⟨af, mf, cf, rfl, ownF, b2⟩
   obtain rfl : mf = 4 := ownF.1
   have rdF : Rd Y2 (.slice af 4 cf) (be4 k) := ownF.rd (be4_bys k (by omega)) (by omega)
   have HA2 := Lib.hid (And.intro (O1.out.later b2) rdF)
   have HB2 := Lib.hid (HB1.out.trans (b2.mono HB1.out.size))
   have hWY2 : W.heap.size ≤ Y2.heap.size := HB2.out.size
   clear ownF b2 rdF O1 HB1 HA
   go_wp2_with (first | (have Y := O4; go_at_call 66; fail) | (have Y := O3; at_builtin; refine wpList_append_lit rfl _ _ rfl W.heap.size _ _ 1 _ _ [r] _ (by simp [bv]) rfl (by decide) rfl rfl O3.out (by omega) HB3.out.size ?_; intro a4 c4 Y4 g4; have O4 := Lib.hid g4.new; have HB4 := Lib.hid (HB3.out.grown g4.grown HB3.out.size (fun k hk => (O3.out.2.lt k hk).1)); clear g4) | (at_builtin; refine wpList_append_keep rfl _ _ rfl W.heap.size _ _ _ _ rfl HA2.out.1 _ _ _ _ rfl HA2.out.2 (by omega) hWY2 ?_; intro a3 c3 Y3 g3; have O3 := Lib.hid g3.new; have HB3 := Lib.hid (HB2.out.grown g3.grown HB2.out.size (fun k hk => (HA2.out.1.2.lt k hk).1)); clear g3))
   have hby : Bys (E ++ P ++ be4 k ++ [r]) := ((HBy.out.1.app HBy.out.2).app (be4_bys k (by omega))).app (fun x hx => by simp at hx; omega)
   have rd4 : Rd Y4 (.slice a4 (nb + np + 4 + 1) c4) (E ++ P ++ be4 k ++ [r]) := O4.out.rd hby (by omega)
   have HSe := Lib.hid (sealed_any rd4)
   clear rd4
   refine Calls.mono HSe.out ?_
   rintro z Y5 ⟨as_, ms, cs, rfl, ownS, b5⟩
   obtain rfl : ms = 4 := ownS.1
   have rdS : Rd Y5 (.slice as_ 4 cs) (le4 (sumL (E ++ P ++ be4 k ++ [r]))) := ownS.rd (le4_bys _ (sumL_lt _)) (by omega)
   have HA5 := Lib.hid (And.intro (O4.out.later b5) rdS)
   have HB5 := Lib.hid (HB4.out.trans (b5.mono HB4.out.size))
   have hWY5 : W.heap.size ≤ Y5.heap.size := HB5.out.size
   clear ownS b5 rdS O4 HB4 HA2 HSe
   go_wp2_with (at_builtin; refine wpList_append_keep rfl _ _ rfl W.heap.size _ _ _ _ rfl HA5.out.1 _ _ _ _ rfl HA5.out.2 (by omega) hWY5 ?_; intro a6 c6 Y6 g6; have O6 := Lib.hid g6.new; have HB6 := Lib.hid (HB5.out.grown g6.grown HB5.out.size (fun k hk => (HA5.out.1.2.lt k hk).1)); clear g6)
   go_ret
   exact ⟨a6, nb + np + 4 + 1 + 4, c6, rfl, O6.out, HB6.out⟩
end Go.Proofs.YtchebhafabhabaaGreatDoor

namespace Go.Proofs.YtchebhafabhabaaGreatDoor
open Go.RowKit Go.Shelf
set_option linter.unusedVariables false

theorem ordC_pre : ∀ (p a b : List Nat), ordC (p ++ a) (p ++ b) = ordC a b
 | [], a, b => rfl
 | x :: p, a, b => by simp only [List.cons_append, ordC, Nat.lt_irrefl, if_false]; exact ordC_pre p a b
theorem dif_is {xs ys : List Nat} {c : Int} (h : Dif xs ys c) : ordC xs ys = c := by
 rcases h with ⟨rfl, rfl⟩ | ⟨rfl, p, x, y, r, s, rfl, rfl, hx⟩ | ⟨rfl, p, x, y, r, s, rfl, rfl, hx⟩
 ·exact ordC_self _
 ·rw [ordC_pre]; simp [ordC, hx]
 ·rw [ordC_pre]; simp only [ordC]; rw [if_neg (by omega), if_pos hx]
theorem key_ord {a b : EntD} (ha : checkS a = 0) (hb : checkS b = 0) : ordC (keyL a) (keyL b) = compareS a b := dif_is (key_dif ha hb)
def RbP (W : World) (bs : List Nat) (x : Ending) (w' : World) : Prop := ∃ a m c, x = .returned (.tuple #[.slice a m c, .int .i64 0]) ∧ Own w' W.heap.size (.slice a m c) m bs ∧ Below W.heap.size W w'
end Go.Proofs.YtchebhafabhabaaGreatDoor

namespace Go.Proofs.YtchebhafabhabaaGreatDoor
open Go.RowKit Go.Shelf
set_option linter.unusedVariables false

theorem key_nil (e : EntD) : ordC [] (keyL e) = -1 := by
 cases h : keyL e with
 | nil => have := keyL_last e; rw [h] at this; cases this
 | cons x t => rfl
theorem rec_few {r : Nat} {s : Bs} {e : EntD} (h : checkS e = 0) : (esOf r s (keyL e) e.val).length + (psOf r s).length ≤ s.es.length + s.ps.length + 6200 := by
 have h1 := keyL_len h
 have h2 := (check_facts h).2.2.2.2.2.2.2.1
 have l1 := (uintL_len (shOf r s (keyL e))).2
 have l2 := (uintL_len ((keyL e).drop (shOf r s (keyL e))).length).2
 have l3 := (uintL_len e.val.length).2
 have hp : (psOf r s).length ≤ s.ps.length + 4 := by unfold psOf; split <;> simp [be4]
 simp only [esOf, recL, List.length_append, List.length_drop] at *
 omega
theorem bld_few (r : Nat) : ∀ (l : List EntD) (s : Bs), (∀ e ∈ l, checkS e = 0) → Up s.la (kvL l) → s.es.length + s.ps.length + 9 + l.length * 6200 ≤ 131072 → (bldS r s l).1 = 0
 | [], s, _, _, _ => rfl
 | e :: t, s, hc, hu, hl => by
  have h0 := hc e (by simp)
  have hr := rec_few (r := r) (s := s) h0
  simp only [List.length_cons] at hl
  have e1 : addE r s e = (0, addB r s (keyL e) e.val) := by
   unfold addE
   have hu1 : ordC s.la (keyL e) < 0 := hu.1
   rw [if_neg (fun k => k h0), if_neg (by rw [ordC_swap s.la (keyL e)]; omega), if_neg]
   unfold fullB
   rw [decide_eq_true_iff]
   omega
  simp only [bldS, e1, if_true]
  refine bld_few r t _ (fun x hx => hc x (by simp [hx])) hu.2 ?_
  simp only [addB]
  omega
theorem cmp_at (a b c a' b' c' : Value) (s t : Int) : compareS (atD a b c s) (atD a' b' c' t) = cmpI t s := by
 unfold compareS cmpsS atD
 simp [firstNZ, ordC, aheadS, cmpI]
 exact fun h => h.symm
theorem check_at (a b c : Value) (s : Int) (h : 1 ≤ s ∧ s ≤ 1000) : checkS (atD a b c s) = 0 := by
 unfold checkS atD
 simp
 omega
theorem at_list (a1 b1 c1 a2 b2 c2 a3 b3 c3 : Value) : (∀ e ∈ [atD a1 b1 c1 5, atD a2 b2 c2 4, atD a3 b3 c3 3], checkS e = 0) ∧ Up [] (kvL [atD a1 b1 c1 5, atD a2 b2 c2 4, atD a3 b3 c3 3]) ∧ (bldS 2 Bs.zero [atD a1 b1 c1 5, atD a2 b2 c2 4, atD a3 b3 c3 3]).1 = 0 := by
 have hc : ∀ e ∈ [atD a1 b1 c1 5, atD a2 b2 c2 4, atD a3 b3 c3 3], checkS e = 0 := by
  intro e he
  simp only [List.mem_cons, List.not_mem_nil, or_false] at he
  rcases he with rfl | rfl | rfl <;> exact check_at _ _ _ _ (by omega)
 have hu : Up [] (kvL [atD a1 b1 c1 5, atD a2 b2 c2 4, atD a3 b3 c3 3]) := by
  refine ⟨?_, ?_, ?_, trivial⟩
  ·show ordC [] (keyL _) < 0
   rw [key_nil]; omega
  ·show ordC (keyL _) (keyL _) < 0
   rw [key_ord (hc _ (by simp)) (hc _ (by simp)), cmp_at]; decide
  ·show ordC (keyL _) (keyL _) < 0
   rw [key_ord (hc _ (by simp)) (hc _ (by simp)), cmp_at]; decide
 exact ⟨hc, hu, bld_few 2 _ _ hc hu (by simp [Bs.zero])⟩
theorem same_key {a b : EntD} (ha : checkS a = 0) (hb : checkS b = 0) (hk : keyL a = keyL b) (hv : a.val = b.val) : EntD.Same a b := by
 have h := key_ord ha hb
 rw [hk, ordC_self] at h
 have hz : ∀ (l : List Int), firstNZ l = 0 → ∀ x ∈ l, x = 0 := by
  intro l
  induction l with
  | nil => intro _ x hx; cases hx
  | cons y t ih =>
   intro h x hx
   unfold firstNZ at h
   split at h
   ·rename_i hy
    rcases List.mem_cons.1 hx with rfl | hx
    ·exact hy
    ·exact ih h x hx
   ·rename_i hy; exact absurd h hy
 have hall := hz _ h.symm
 simp only [cmpsS, List.mem_cons, List.not_mem_nil, or_false, forall_eq_or_imp, forall_eq] at hall
 obtain ⟨h1, h2, h3, h4, h5, h6, h7, h8⟩ := hall
 have cz : ∀ x y : Int, cmpI x y = 0 → x = y := by
  intro x y h
  unfold cmpI at h
  split at h
  ·cases h
  ·split at h
   ·cases h
   ·omega
 exact ⟨cz _ _ h2, (cz _ _ h6).symm, (cz _ _ h7).symm, cz _ _ h8, ordC_eq _ _ h1, ordC_eq _ _ h4, hv⟩
set_option maxRecDepth 100000 in
theorem seq_nil5 (f : Nat) (lb : Array Value) (w : World) : Sem.run Tryz.prog (binOp BinOp.eql 67 (.func (.func f) #[] lb) .nilFunc) w = .ok (.bool false) w := by rfl
set_option maxRecDepth 100000 in
theorem len5_any {w : World} {g : Nat} {r n : Int} {ve vp : Value} (h : LBox w g r n ve vp) : Calls Tryz.prog 29 #[.pointer (some ⟨g, 0, none⟩)] w fun e w' => e = .returned (.int .i64 n) ∧ w' = w := by
 obtain ⟨c0, c1, c2, c3⟩ := h.cells
 clear h
 go_enter Tryz.func29, Tryz.ntmps29
 go_wp2
 go_ret
 exact ⟨rfl, rfl⟩
set_option maxRecDepth 100000 in
theorem all5_any {w : World} {g : Nat} : Calls Tryz.prog 32 #[.pointer (some ⟨g, 0, none⟩)] w fun e w' => e = .returned (.func (.func 73) #[] #[.pointer (some ⟨w.heap.size, 0, none⟩)]) ∧ w' = w.alloc (.cells #[.pointer (some ⟨g, 0, none⟩)] 58) := by
 go_enter Tryz.func32, Tryz.ntmps32
 go_wp2
 go_ret
 exact ⟨rfl, rfl⟩
end Go.Proofs.YtchebhafabhabaaGreatDoor
