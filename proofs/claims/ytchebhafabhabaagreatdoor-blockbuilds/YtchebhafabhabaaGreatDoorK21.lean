import Derived.Test.YtchebhafabhabaaGreatDoorK20
namespace Go.Proofs.YtchebhafabhabaaGreatDoor
open Go.RowKit Go.Shelf
set_option linter.unusedVariables false
attribute [local go_sem] Oper.semAt_some

def fillD : EntD := ⟨.slice none 0 0, -31, .slice none 0 0, 0, 0, 0, .slice none 0 0, [], [], []⟩
theorem fillD_ok (w : World) : EntD.Ok w fillD := ⟨Rd.nil w, Rd.nil w, Rd.nil w⟩
theorem rowE_neF {w : World} {B B' n m : Nat} {v u : Value} {vs : List Value} {xs : List Nat} (hr : w.ownsRow B 40 7 v n vs) (ho : Own w B' u m xs) {k : Nat} (hv : v.ownBlock = some k) : u.ownBlock ≠ some k := by
 intro hu
 rcases hr.2 with ⟨h1, _⟩ | ⟨g, cap, cur, h1, h2, h3, _⟩
 ·rw [h1] at hv; cases hv
 ·rcases ho.2.2 with ⟨k1, _⟩ | ⟨g2, cap2, cur2, k1, k2, k3, _⟩
  ·rw [k1] at hu; cases hu
  ·rw [h1] at hv
   rw [k1] at hu
   cases hv
   cases hu
   rw [h3] at k3
   simp at k3
theorem Laid.grownE {w w' : World} {B B' n : Nat} {u v : Value} {bs : List Nat} {vs : List Value} (h : Laid w B u bs) (hr : w.ownsRow B' 40 7 v n vs) (hg : w.grownBy w' v.ownBlock) : Laid w' B u bs := by
 obtain ⟨g, c, e, h2, h3, o⟩ := h
 exact ⟨g, c, e, h2, h3, ⟨o.1, row_same o.2 (fun k hk => hg.block k (o.2.lt k hk).2 (fun e => rowE_neF hr o e.symm hk))⟩⟩
theorem LaidE.grownE {w w' : World} {B B' n : Nat} {D : EntD} {v : Value} {vs : List Value} (h : LaidE w B D) (hr : w.ownsRow B' 40 7 v n vs) (hg : w.grownBy w' v.ownBlock) : LaidE w' B D := ⟨h.1.grownE hr hg, h.2.1.grownE hr hg, h.2.2.grownE hr hg⟩
theorem fine_same {a b : EntD} (h : EntD.Same a b) (k : EntD.Fine b) : EntD.Fine a := by
 obtain ⟨-, -, -, -, s5, s6, s7⟩ := h
 unfold EntD.Fine at *
 rw [s5, s6, s7]
 exact k
structure LdS (w : World) (B : Nat) (Ds l : List EntD) : Prop where
 len : Ds.length ≤ l.length
 ea : ∀ (i : Nat) D x, Ds[i]? = some D → l[i]? = some x → EntD.Same D x.cut ∧ LaidE w B D
theorem LdS.later {w w' : World} {B : Nat} {Ds l : List EntD} (h : LdS w B Ds l) (b : Below w.heap.size w w') : LdS w' B Ds l := ⟨h.len, fun i D x h1 h2 => ⟨(h.ea i D x h1 h2).1, (h.ea i D x h1 h2).2.later b⟩⟩
theorem LdS.grown {w w' : World} {B B' n : Nat} {Ds l : List EntD} {v : Value} {vs : List Value} (h : LdS w B Ds l) (hr : w.ownsRow B' 40 7 v n vs) (hg : w.grownBy w' v.ownBlock) : LdS w' B Ds l := ⟨h.len, fun i D x h1 h2 => ⟨(h.ea i D x h1 h2).1, (h.ea i D x h1 h2).2.grownE hr hg⟩⟩
theorem LdS.snoc {w : World} {B : Nat} {Ds l : List EntD} {D x : EntD} (h : LdS w B Ds l) (hx : l[Ds.length]? = some x) (hs : EntD.Same D x.cut) (hl : LaidE w B D) : LdS w B (Ds ++ [D]) l := by
 have hlt := (List.getElem?_eq_some_iff.1 hx).1
 refine ⟨by simp; omega, fun i E y h1 h2 => ?_⟩
 by_cases hi : i < Ds.length
 ·rw [List.getElem?_append_left hi] at h1
  exact h.ea i E y h1 h2
 ·have hi2 : i = Ds.length := by have := (List.getElem?_eq_some_iff.1 h1).1; simp at this; omega
  subst hi2
  rw [List.getElem?_append_right (Nat.le_refl _)] at h1
  simp at h1
  rw [hx] at h2
  cases h2
  subst h1
  exact ⟨hs, hl⟩
def EnP5 (W : World) (N : Nat) (l : List EntD) (x : Ending) (w' : World) : Prop :=
 Below W.heap.size W w' ∧ ∃ g c Ds, x = .returned (.slice (some ⟨g, 0, none⟩) N c) ∧ Ds.length = N ∧ N + 9 ≤ c ∧ w'.ownsRow W.heap.size 40 7 (.slice (some ⟨g, 0, none⟩) (N + 9) c) (Ds ++ List.replicate 9 fillD).length (evals5 (Ds ++ List.replicate 9 fillD)) ∧ LdS w' W.heap.size Ds l
set_option maxRecDepth 100000 in
set_option maxHeartbeats 8000000 in
theorem entries5_any {W : World} {a : Option Addr} {cap : Nat} {l : List EntD} (hr : RdL5 W a cap l) (hl : l.length ≤ 100) :
  Calls Tryz.prog 17 #[.slice a l.length cap] W fun x w' => EnP5 W l.length l x w' := by
 obtain ⟨N, hN⟩ : ∃ N, N = l.length := ⟨_, rfl⟩
 rw [← hN]
 have hN1 : N ≤ 100 := by omega
 have HN := Lib.hid hN
 have HR := Lib.hid hr
 have hcap := hr.cap
 clear hN hr hl
 go_enter Tryz.func17, Tryz.ntmps17
 go_wp2
 go_loopw [3, 4] (fun v i wr => ∃ (k : Nat) (am : Option Addr) (nm cm : Nat) (Ds : List EntD), k ≤ N ∧ i = .int .i64 (k : Int) ∧ v = .slice am nm cm ∧ Hid (nm = k ∧ Ds.length = k) ∧ Hid (wr.ownsRow W.heap.size 40 7 (.slice am nm cm) Ds.length (evals5 Ds) ∧ LdS wr W.heap.size Ds l ∧ Below W.heap.size W wr)) (fun _ i _ => N - (intOf i).toNat)
 case atStart => exact ⟨0, none, 0, 0, [], by omega, rfl, rfl, ⟨rfl, rfl⟩, World.ownsRow_nil _ _ _ _, ⟨by simp, fun i D x h => by cases h⟩, Below.refl _ _⟩
 case round =>
  obtain ⟨k, am, nm, cm, Ds, hk, rfl, rfl, HM, HU⟩ := hrel
  have hnm : nm ≤ 100 := by have := HM.out.1; omega
  have hDl : Ds.length ≤ 100 := by have := HM.out.2; omega
  by_cases hlt : k < N
  ·have hlt2 : (k : Int) < (N : Int) := by omega
   have k0 : (0 : Int) ≤ (k : Int) := by omega
   obtain ⟨x, hx⟩ : ∃ x, l[k]? = some x := ⟨_, List.getElem?_eq_getElem (by rw [← HN.out]; exact hlt)⟩
   have hrd := HR.out.later HU.out.2.2
   have hok := hrd.ok x (List.mem_of_getElem? hx)
   obtain ⟨b, off, rfl, d0, d1, d2, d3, d4, d5, d6⟩ := hrd.cel hx
   have HEn := Lib.hid (entry5_any hok)
   unfold EntD.cells at HEn
   have HX := Lib.hid hx
   clear hrd hok hx
   go_wp2_with fail
   refine HEn.out.mono ?_
   rintro z Y1 ⟨D, rfl, hsD, hlD, b1, -⟩
   obtain ⟨r1, n1, c1, e1⟩ := hlD.1.form
   obtain ⟨r2, n2, c2, e2⟩ := hlD.2.1.form
   obtain ⟨r3, n3, c3, e3⟩ := hlD.2.2.form
   have hDf : EntD.Fine D := fine_same hsD (EntD.cut_fine ((HR.out.later HU.out.2.2).ok x (List.mem_of_getElem? HX.out)))
   have hDo := hlD.ok hDf
   have hce : D.cells = #[.slice r1 n1 c1, .int .i64 D.fam, .slice r2 n2 c2, .int .i64 D.ts, .int .i64 D.seq, .int .i64 D.kind, .slice r3 n3 c3] := by unfold EntD.cells; rw [e1, e2, e3]
   have HOne : Hid (RdL5 (Y1.alloc (.cells #[.slice r1 n1 c1, .int .i64 D.fam, .slice r2 n2 c2, .int .i64 D.ts, .int .i64 D.seq, .int .i64 D.kind, .slice r3 n3 c3] 40)) (some ⟨Y1.heap.size, 0, none⟩) 1 [D]) := by
    have := RdL5.one hDo
    rwa [hce] at this
   have HOc := Lib.hid (one_cells hDo)
   have O1 := Lib.hid (show Y1.ownsRow W.heap.size 40 7 (.slice am nm cm) Ds.length (evals5 Ds) from row_same HU.out.1 (fun g hg => b1.block g (HU.out.1.lt g hg).2))
   have HD1 := Lib.hid (And.intro hsD (And.intro (hlD.mono (B' := W.heap.size) HU.out.2.2.size) (And.intro (HU.out.2.1.later b1) (HU.out.2.2.trans (b1.mono HU.out.2.2.size)))))
   rw [e1, e2, e3]
   clear hsD hlD b1 e1 e2 e3 hDf hDo hce HEn d0 d1 d2 d3 d4 d5 d6
   go_wp2_with (at_builtin; refine wpl5_append_rd rfl _ _ rfl W.heap.size _ _ rfl (O1.out.alloc _) _ _ _ [D] rfl rfl HOne.out (fun y hy => by simp at hy; subst hy; exact HOc.out) (by simp only [List.length_cons, List.length_nil]; omega) (Nat.le_trans HD1.out.2.2.2.size (by simp)) ?_; intro a2 n2' c2' Y2 hn2 r2' g2; have Hn2 := Lib.hid hn2; clear hn2; refine Hid.out ?_)
   refine Lib.hid ?_
   have O2 := Lib.hid r2'
   have bA := (Below.refl Y1.heap.size Y1).alloc (Nat.le_refl _) (.cells #[.slice r1 n1 c1, .int .i64 D.fam, .slice r2 n2 c2, .int .i64 D.ts, .int .i64 D.seq, .int .i64 D.kind, .slice r3 n3 c3] 40)
   have H2 : Hid (LdS Y2 W.heap.size (Ds ++ [D]) l ∧ Below W.heap.size W Y2) := by
    obtain ⟨q1, q2, q3, q4⟩ := HD1.out
    have rA := O1.out.alloc (.cells #[.slice r1 n1 c1, .int .i64 D.fam, .slice r2 n2 c2, .int .i64 D.ts, .int .i64 D.seq, .int .i64 D.kind, .slice r3 n3 c3] 40)
    refine ⟨LdS.snoc ((q3.later bA).grown rA g2) (by rw [HM.out.2]; exact HX.out) q1 ((q2.later bA).grownE rA g2), ?_⟩
    exact (q4.trans (bA.mono q4.size)).grown g2 (Nat.le_trans q4.size bA.size) (fun g hg => (O1.out.lt g hg).1)
   clear r2' g2 bA HOne HOc O1 HD1 HU
   go_wp2
   go_roundw
   case rel => exact ⟨k + 1, a2, n2', c2', Ds ++ [D], by omega, by go_num, rfl, ⟨by rw [Hn2.out, List.length_append, HM.out.2]; rfl, by rw [List.length_append, HM.out.2]; rfl⟩, O2.out, H2.out.1, H2.out.2⟩
   case measure => simp [intOf]; omega
  ·have hge : ¬ (k : Int) < (N : Int) := by omega
   obtain rfl : k = N := by omega
   go_wp2
   go_loopw [3, 5] (fun v i wz => ∃ (q : Nat) (am : Option Addr) (nm cm : Nat), q ≤ 9 ∧ i = .int .i64 (q : Int) ∧ v = .slice am nm cm ∧ Hid (nm = k + q) ∧ Hid (wz.ownsRow W.heap.size 40 7 (.slice am nm cm) (Ds ++ List.replicate q fillD).length (evals5 (Ds ++ List.replicate q fillD)) ∧ LdS wz W.heap.size Ds l ∧ Below W.heap.size W wz)) (fun _ i _ => 9 - (intOf i).toNat)
   case atStart => exact ⟨0, am, nm, cm, by omega, rfl, rfl, HM.out.1, by simpa using HU⟩
   case round =>
    obtain ⟨q, am3, nm3, cm3, hq, rfl, rfl, HM3, HU3⟩ := hrel
    have hnm3 : nm3 ≤ 109 := by have := HM3.out; omega
    by_cases hq9 : q < 9
    ·have hq9i : (q : Int) < 9 := by omega
     have HOne : Hid (RdL5 (wr.alloc (.cells #[.slice none 0 0, .int .i64 (-31), .slice none 0 0, .int .i64 0, .int .i64 0, .int .i64 0, .slice none 0 0] 40)) (some ⟨wr.heap.size, 0, none⟩) 1 [fillD]) := RdL5.one (fillD_ok wr)
     have HOc := Lib.hid (one_cells (fillD_ok wr))
     go_wp2_with (at_builtin; refine wpl5_append_rd rfl _ _ rfl W.heap.size _ _ rfl (HU3.out.1.alloc _) _ _ _ [fillD] rfl rfl HOne.out (fun y hy => by simp at hy; subst hy; exact HOc.out) (by simp only [List.length_append, List.length_replicate, List.length_cons, List.length_nil]; omega) (Nat.le_trans HU3.out.2.2.size (by simp)) ?_; intro a2 n2' c2' Y2 hn2 r2' g2; have Hn2 := Lib.hid hn2; clear hn2; refine Hid.out ?_)
     refine Lib.hid ?_
     have bA := (Below.refl wr.heap.size wr).alloc (Nat.le_refl _) (.cells #[.slice none 0 0, .int .i64 (-31), .slice none 0 0, .int .i64 0, .int .i64 0, .int .i64 0, .slice none 0 0] 40)
     have H2 : Hid (Y2.ownsRow W.heap.size 40 7 (.slice a2 n2' c2') (Ds ++ List.replicate (q + 1) fillD).length (evals5 (Ds ++ List.replicate (q + 1) fillD)) ∧ LdS Y2 W.heap.size Ds l ∧ Below W.heap.size W Y2) := by
      obtain ⟨q1, q3, q4⟩ := HU3.out
      have rA := q1.alloc (.cells #[.slice none 0 0, .int .i64 (-31), .slice none 0 0, .int .i64 0, .int .i64 0, .int .i64 0, .slice none 0 0] 40)
      refine ⟨?_, (q3.later bA).grown rA g2, (q4.trans (bA.mono q4.size)).grown g2 (Nat.le_trans q4.size bA.size) (fun g hg => (q1.lt g hg).1)⟩
      rw [List.append_assoc, ← List.replicate_succ'] at r2'
      exact r2'
     have HM4 : Hid (n2' = k + (q + 1)) := by
      unfold Hid
      rw [Hn2.out]
      simp only [List.length_append, List.length_replicate, HM.out.2, List.length_cons, List.length_nil]
      omega
     clear r2' g2 bA HOne HOc Hn2
     go_wp2
     go_roundw
     case rel => exact ⟨q + 1, a2, n2', c2', by omega, by go_num, rfl, HM4, H2.out⟩
     case measure => simp [intOf]; omega
    ·have hq9i : ¬ (q : Int) < 9 := by omega
     obtain rfl : q = 9 := by omega
     obtain ⟨g, he, hc1⟩ : ∃ g, am3 = some ⟨g, 0, none⟩ ∧ nm3 ≤ cm3 := by
      rcases HU3.out.1.2 with ⟨h1, h2⟩ | ⟨g, cp, cur, h1, h2, h3, h4, h5, h6⟩
      ·simp at h2
      ·simp only [Value.slice.injEq] at h1
       refine ⟨g, h1.1, ?_⟩
       omega
     subst he
     have j1 : (k : Int) ≤ (cm3 : Int) := by have := HM3.out; omega
     have j2 : (0 : Int) ≤ (k : Int) := by omega
     have HEnd : Hid (EnP5 W k l (.returned (.slice (some ⟨g, 0, none⟩) k cm3)) wr) := ⟨HU3.out.2.2, g, cm3, Ds, rfl, HM.out.2, by have := HM3.out; omega, by have := HU3.out.1; rw [HM3.out] at this; exact this, HU3.out.2.1⟩
     go_wp2
     go_ret
     exact HEnd.out
end Go.Proofs.YtchebhafabhabaaGreatDoor

namespace Go.Proofs.YtchebhafabhabaaGreatDoor
open Go.RowKit Go.Shelf
set_option linter.unusedVariables false
attribute [local go_sem] Oper.semAt_some

structure EnL (w : World) (B g N c : Nat) (Ds l : List EntD) : Prop where
 len : Ds.length = N
 cap : N + 9 ≤ c
 row : w.ownsRow B 40 7 (.slice (some ⟨g, 0, none⟩) (N + 9) c) (Ds ++ List.replicate 9 fillD).length (evals5 (Ds ++ List.replicate 9 fillD))
 ld : LdS w B Ds l
theorem EnL.later {w w' : World} {B g N c : Nat} {Ds l : List EntD} (h : EnL w B g N c Ds l) (b : Below w.heap.size w w') : EnL w' B g N c Ds l := ⟨h.len, h.cap, row_same h.row (fun k hk => b.block k (h.row.lt k hk).2), h.ld.later b⟩
theorem EnL.fine {w W : World} {B g N c : Nat} {a : Option Addr} {cap : Nat} {Ds l : List EntD} (h : EnL w B g N c Ds l) (hr : RdL5 W a cap l) {i : Nat} {D : EntD} (hD : Ds[i]? = some D) : EntD.Fine D ∧ LaidE w B D ∧ ∃ x, l[i]? = some x ∧ EntD.Same D x.cut := by
 have h1 := (List.getElem?_eq_some_iff.1 hD).1
 obtain ⟨x, hx⟩ : ∃ x, l[i]? = some x := ⟨_, List.getElem?_eq_getElem (Nat.lt_of_lt_of_le h1 h.ld.len)⟩
 obtain ⟨hs, hl⟩ := h.ld.ea i D x hD hx
 exact ⟨fine_same hs (EntD.cut_fine (hr.ok x (List.mem_of_getElem? hx))), hl, x, hx, hs⟩
theorem EnL.rdl {w W : World} {B g N c : Nat} {a : Option Addr} {cap : Nat} {Ds l : List EntD} (h : EnL w B g N c Ds l) (hr : RdL5 W a cap l) : RdL5 w (some ⟨g, 0, none⟩) c (Ds ++ List.replicate 9 fillD) ∧ RdL5 w (some ⟨g, 0, none⟩) c Ds := by
 have hok : ∀ x ∈ Ds ++ List.replicate 9 fillD, EntD.Ok w x := fun x hx => by
  rcases List.mem_append.1 hx with hx | hx
  ·obtain ⟨i, hi⟩ := List.getElem?_of_mem hx
   obtain ⟨h1, h2, -⟩ := h.fine hr hi
   exact h2.ok h1
  ·rw [List.eq_of_mem_replicate hx]
   exact fillD_ok w
 obtain ⟨a9, c9, e9, rd9⟩ := row_rdl5 h.row hok
 simp only [Value.slice.injEq] at e9
 obtain ⟨rfl, -, rfl⟩ := e9
 refine ⟨rd9, ?_⟩
 have := rd9.takeN Ds.length
 rwa [List.take_left] at this
set_option maxRecDepth 100000 in
set_option maxHeartbeats 8000000 in
theorem listStands5_any {w W : World} {B B' g g' N c c' : Nat} {a : Option Addr} {cap : Nat} {Ds Es l : List EntD} (h1 : EnL w B g N c Ds l) (h2 : EnL w B' g' N c' Es l) (hr : RdL5 W a cap l) (hN : N ≤ 100) :
  Calls Tryz.prog 21 #[.slice (some ⟨g, 0, none⟩) N c, .slice (some ⟨g', 0, none⟩) N c'] w fun e w' => e = .returned (.bool true) ∧ Below w.heap.size w w' := by
 have hcap := h1.cap
 have hfam : w.cell? ⟨g, N * 7 + 1, none⟩ = some (.int .i64 (-31)) := by
  obtain ⟨b, off, e, -, d1, -⟩ := (h1.rdl hr).1.cel (i := N) (x := fillD) (by rw [List.getElem?_append_right (by rw [h1.len]; exact Nat.le_refl _), h1.len]; simp)
  cases e
  simpa [fillD] using d1
 have HEa : Hid (∀ i, i < N → ∃ D E, Ds[i]? = some D ∧ Es[i]? = some E ∧ EntD.Same D E ∧ EntD.Fine D ∧ EntD.Fine E ∧ LaidE w B D ∧ LaidE w B' E) := fun i hi => by
  obtain ⟨D, hD⟩ : ∃ D, Ds[i]? = some D := ⟨_, List.getElem?_eq_getElem (by rw [h1.len]; exact hi)⟩
  obtain ⟨E, hE⟩ : ∃ E, Es[i]? = some E := ⟨_, List.getElem?_eq_getElem (by rw [h2.len]; exact hi)⟩
  obtain ⟨f1, l1, x, hx, s1⟩ := h1.fine hr hD
  obtain ⟨f2, l2, y, hy, s2⟩ := h2.fine hr hE
  rw [hx] at hy
  cases hy
  have s2' := s2.symm
  exact ⟨D, E, hD, hE, ⟨s1.1.trans s2'.1, s1.2.1.trans s2'.2.1, s1.2.2.1.trans s2'.2.2.1, s1.2.2.2.1.trans s2'.2.2.2.1, s1.2.2.2.2.1.trans s2'.2.2.2.2.1, s1.2.2.2.2.2.1.trans s2'.2.2.2.2.2.1, s1.2.2.2.2.2.2.trans s2'.2.2.2.2.2.2⟩, f1, f2, l1, l2⟩
 have HR1 := Lib.hid (h1.rdl hr).2
 have HR2 := Lib.hid (h2.rdl hr).2
 have hc2 := h2.cap
 clear h1 h2 hr
 go_enter Tryz.func21, Tryz.ntmps21
 go_wp2
 go_loopw [6] (fun i wr => ∃ k : Nat, k ≤ N ∧ i = .int .i64 (k : Int) ∧ Below w.heap.size w wr) (fun i _ => N - (intOf i).toNat)
 case atStart => exact ⟨0, by omega, rfl, Below.refl _ _⟩
 case round =>
  obtain ⟨k, hk, rfl, hbk⟩ := hrel
  by_cases hlt : k < N
  ·have hlt2 : (k : Int) < (N : Int) := by omega
   have k0 : (0 : Int) ≤ (k : Int) := by omega
   obtain ⟨D, E, hD, hE, hsm, fD, fE, lD, lE⟩ := HEa.out k hlt
   have HCl : Hid (∀ wx, Below w.heap.size w wx → wx.cell? ⟨g, k * 7, none⟩ = some (D.vr) ∧ wx.cell? ⟨g, k * 7 + 1, none⟩ = some (.int .i64 D.fam) ∧ wx.cell? ⟨g, k * 7 + 2, none⟩ = some (D.vq) ∧ wx.cell? ⟨g, k * 7 + 3, none⟩ = some (.int .i64 D.ts) ∧ wx.cell? ⟨g, k * 7 + 4, none⟩ = some (.int .i64 D.seq) ∧ wx.cell? ⟨g, k * 7 + 5, none⟩ = some (.int .i64 D.kind) ∧ wx.cell? ⟨g, k * 7 + 6, none⟩ = some (D.vv) ∧ wx.cell? ⟨g', k * 7, none⟩ = some (E.vr) ∧ wx.cell? ⟨g', k * 7 + 1, none⟩ = some (.int .i64 E.fam) ∧ wx.cell? ⟨g', k * 7 + 2, none⟩ = some (E.vq) ∧ wx.cell? ⟨g', k * 7 + 3, none⟩ = some (.int .i64 E.ts) ∧ wx.cell? ⟨g', k * 7 + 4, none⟩ = some (.int .i64 E.seq) ∧ wx.cell? ⟨g', k * 7 + 5, none⟩ = some (.int .i64 E.kind) ∧ wx.cell? ⟨g', k * 7 + 6, none⟩ = some (E.vv)) := fun wx b => by
    obtain ⟨b1, o1, e1, D1⟩ := (HR1.out.later b).cel hD
    obtain ⟨b2, o2, e2, F1⟩ := (HR2.out.later b).cel hE
    cases e1
    cases e2
    simp only [Nat.zero_add] at D1 F1
    exact ⟨D1.1, D1.2.1, D1.2.2.1, D1.2.2.2.1, D1.2.2.2.2.1, D1.2.2.2.2.2.1, D1.2.2.2.2.2.2, F1⟩
   have HSe : Hid (∀ Z, Below w.heap.size w Z → Calls Tryz.prog 33 #[.agg #[D.vr, .int .i64 D.fam, D.vq, .int .i64 D.ts, .int .i64 D.seq, .int .i64 D.kind, D.vv], .agg #[E.vr, .int .i64 E.fam, E.vq, .int .i64 E.ts, .int .i64 E.seq, .int .i64 E.kind, E.vv]] Z fun r w' => r = .returned (.bool true) ∧ Below Z.heap.size Z w') := fun Z b => by
    refine (se_any ((lD.ok fD).later b) ((lE.ok fE).later b)).mono ?_
    rintro r w' ⟨rfl, hb⟩
    rw [decide_eq_true hsm]
    exact ⟨rfl, hb⟩
   have HSt : Hid (∀ Z, Below w.heap.size w Z → Calls Tryz.prog 13 #[.agg #[D.vr, .int .i64 D.fam, D.vq, .int .i64 D.ts, .int .i64 D.seq, .int .i64 D.kind, D.vv], .agg #[E.vr, .int .i64 E.fam, E.vq, .int .i64 E.ts, .int .i64 E.seq, .int .i64 E.kind, E.vv]] Z fun r w' => r = .returned (.bool true) ∧ Below Z.heap.size Z w') := fun Z b => stands5_any (lD.later b) ((lE.ok fE).later b) hsm fD
   have BD : Below wr.heap.size wr wr.drew := (Below.refl _ _).drew
   have BW := hbk.trans (BD.mono hbk.size)
   have hS0 := HCl.out _ BW
   clear hD hE hsm fD fE lD lE hfam
   go_wp2_with fail
   go_region_held3 (fun wx => wx.cell? ⟨g, k * 7, none⟩ = some (D.vr) ∧ wx.cell? ⟨g, k * 7 + 1, none⟩ = some (.int .i64 D.fam) ∧ wx.cell? ⟨g, k * 7 + 2, none⟩ = some (D.vq) ∧ wx.cell? ⟨g, k * 7 + 3, none⟩ = some (.int .i64 D.ts) ∧ wx.cell? ⟨g, k * 7 + 4, none⟩ = some (.int .i64 D.seq) ∧ wx.cell? ⟨g, k * 7 + 5, none⟩ = some (.int .i64 D.kind) ∧ wx.cell? ⟨g, k * 7 + 6, none⟩ = some (D.vv) ∧ wx.cell? ⟨g', k * 7, none⟩ = some (E.vr) ∧ wx.cell? ⟨g', k * 7 + 1, none⟩ = some (.int .i64 E.fam) ∧ wx.cell? ⟨g', k * 7 + 2, none⟩ = some (E.vq) ∧ wx.cell? ⟨g', k * 7 + 3, none⟩ = some (.int .i64 E.ts) ∧ wx.cell? ⟨g', k * 7 + 4, none⟩ = some (.int .i64 E.seq) ∧ wx.cell? ⟨g', k * 7 + 5, none⟩ = some (.int .i64 E.kind) ∧ wx.cell? ⟨g', k * 7 + 6, none⟩ = some (E.vv)) (first | exact hS0 | exact hS1 | exact hS2) (first | (go_at_call 33; refine (HSe.out _ BW).mono ?_; rintro z Y1 ⟨rfl, b1⟩; have BW1 := BW.trans (b1.mono BW.size); have hS1 := HCl.out _ BW1; clear b1) | (have hq := BW1; clear hq; (go_at_call 13; refine (HSt.out _ BW1).mono ?_; rintro z Y2 ⟨rfl, b2⟩; have BW2 := BW1.trans (b2.mono BW1.size); have hS2 := HCl.out _ BW2; clear b2)))
   all_goals
    clear hS0 hS1 hS2
    go_wp2
    go_roundw
    case rel => exact ⟨k + 1, by omega, by go_num, BW2⟩
    case measure => simp [intOf]; omega
  ·have hge : ¬ (k : Int) < (N : Int) := by omega
   go_wp2
   go_ret
   exact ⟨rfl, hbk⟩
end Go.Proofs.YtchebhafabhabaaGreatDoor

namespace Go.Proofs.YtchebhafabhabaaGreatDoor
open Go.RowKit Go.Shelf
set_option linter.unusedVariables false

def adB (a : Option Addr) (k : Nat) : Prop := ∃ ad, a = some ad ∧ ad.block = k
def EntD.adr (D : EntD) (k : Nat) : Prop := ∃ v, (v = D.vr ∨ v = D.vq ∨ v = D.vv) ∧ ∃ ad n c, v = .slice (some ad) n c ∧ ad.block = k
theorem Rd.fbV {w w' : World} {X : Nat → Prop} {v : Value} {bs : List Nat} (h : Rd w v bs) (f : Fb w w' X) (hx : ∀ ad n c, v = .slice (some ad) n c → ¬ X ad.block) : Rd w' v bs := by
 obtain ⟨h1, a, cap, rfl, h3, h4, h5, h6, h7⟩ := h
 refine ⟨h1, a, cap, rfl, h3, h4, h5, h6, ?_⟩
 rcases h7 with h7 | ⟨b, off, rfl, hc⟩
 ·exact .inl h7
 ·refine .inr ⟨b, off, rfl, fun i hi => ?_⟩
  have hb := World.block_lt_of_cell? _ _ (hc i hi)
  have e := f.block b hb (hx _ _ _ rfl)
  rw [← hc i hi]
  unfold World.cell?
  rw [e]
theorem EntD.Ok.fbV {w w' : World} {X : Nat → Prop} {D : EntD} (h : EntD.Ok w D) (f : Fb w w' X) (hx : ∀ k, D.adr k → ¬ X k) : EntD.Ok w' D := ⟨h.1.fbV f (fun ad n c e => hx _ ⟨_, .inl rfl, ad, n, c, e, rfl⟩), h.2.1.fbV f (fun ad n c e => hx _ ⟨_, .inr (.inl rfl), ad, n, c, e, rfl⟩), h.2.2.fbV f (fun ad n c e => hx _ ⟨_, .inr (.inr rfl), ad, n, c, e, rfl⟩)⟩
theorem RdL5.fbV {w w' : World} {X : Nat → Prop} {a : Option Addr} {c : Nat} {l : List EntD} (h : RdL5 w a c l) (f : Fb w w' X) (ha : ∀ k, adB a k → ¬ X k) (hd : ∀ D ∈ l, ∀ k, D.adr k → ¬ X k) : RdL5 w' a c l := by
 refine ⟨h.cap, ?_, fun x hx => (h.ok x hx).fbV f (hd x hx), h.nn⟩
 rcases h.at_ with h1 | ⟨b, off, rfl, hc⟩
 ·exact .inl h1
 ·refine .inr ⟨b, off, rfl, fun i x hi j u hj => ?_⟩
  have h0 := hc i x hi j u hj
  have hb := World.block_lt_of_cell? _ _ h0
  have e := f.block b hb (ha b ⟨_, rfl, rfl⟩)
  rw [← h0]
  unfold World.cell?
  rw [e]
theorem Bd.fbV {w w' : World} {X : Nat → Prop} {B g r : Nat} {s : Bs} {ve vp vl : Value} (h : Bd w B g r s ve vp vl) (f : Fb w w' X) (hx : ∀ k, bO g ve vp k ∨ vl.ownBlock = some k → ¬ X k) : Bd w' B g r s ve vp vl :=
 ⟨(f.block g (Array.getElem?_eq_some_iff.1 h.box).1 (hx g (.inl (.inl rfl)))).trans h.box, h.es.fbF f (fun k hk => hx k (.inl (.inr (.inl hk)))), h.ps.fbF f (fun k hk => hx k (.inl (.inr (.inr hk)))), h.la.fbF f (fun k hk => hx k (.inr hk)), h.ep, h.el, h.pl, h.bg, h.size, h.lal, h.few, h.byE, h.byP, h.byL⟩
structure HfX (w : World) (h g r B : Nat) (s : Bs) (l : List EntD) (Pb Pl : Nat → Prop) : Prop where
 ex : ∃ ve vp vl a c, HfB w h g r B s ve vp vl a c l ∧ (∀ k, bO g ve vp k ∨ vl.ownBlock = some k → Pb k) ∧ (∀ k, adB a k → Pl k ∧ k ≠ h)
 ph : Pl h
 pd : ∀ D ∈ l, ∀ k, D.adr k → Pl k ∧ k ≠ h
 dj : ∀ k, Pb k → ¬ Pl k
 lt : ∀ k, Pb k ∨ Pl k → k < w.heap.size
theorem HfX.fb {w w' : World} {h g r B : Nat} {s : Bs} {l : List EntD} {Pb Pl X : Nat → Prop} (hh : HfX w h g r B s l Pb Pl) (f : Fb w w' X) (hx : ∀ k, Pb k ∨ Pl k → ¬ X k) : HfX w' h g r B s l Pb Pl := by
 obtain ⟨⟨ve, vp, vl, a, c, hb, p1, p2⟩, ph, pd, dj, lt⟩ := hh
 refine ⟨⟨ve, vp, vl, a, c, ⟨?_, hb.bd.fbV f (fun k hk => hx k (.inl (p1 k hk))), hb.rd.fbV f (fun k hk => hx k (.inr (p2 k hk).1)) (fun D hD k hk => hx k (.inr (pd D hD k hk).1)), hb.st, hb.len⟩, p1, p2⟩, ph, pd, dj, fun k hk => Nat.lt_of_lt_of_le (lt k hk) f.size⟩
 exact (f.block h (lt h (.inr ph)) (hx h (.inr ph))).trans hb.box
theorem HfX.later {w w' : World} {h g r B : Nat} {s : Bs} {l : List EntD} {Pb Pl : Nat → Prop} (hh : HfX w h g r B s l Pb Pl) (b : Below w.heap.size w w') : HfX w' h g r B s l Pb Pl := hh.fb (X := fun _ => False) (Fb.of_below b) (fun _ _ => id)
theorem addE_same {a b : EntD} (h : EntD.Same a b) (r : Nat) (s : Bs) : addE r s a = addE r s b := by
 have h1 := check_same h
 have h2 : keyL a = keyL b := by
  obtain ⟨s1, s2, s3, s4, s5, s6, s7⟩ := h
  unfold keyL
  simp only [s1, s2, s3, s4, s5, s6]
 have h3 : a.val = b.val := h.2.2.2.2.2.2
 unfold addE
 rw [h1, h2, h3]
theorem HfX.added {w w1 w2 : World} {h g r B n' c' : Nat} {s : Bs} {ve vp vl : Value} {a a' : Option Addr} {c : Nat} {l : List EntD} {Pb Pl : Nat → Prop} {e i : EntD} {y : Ending}
  (hb : HfB w h g r B s ve vp vl a c l) (p1 : ∀ k, bO g ve vp k ∨ vl.ownBlock = some k → Pb k) (p2 : ∀ k, adB a k → Pl k ∧ k ≠ h) (ph : Pl h) (pd : ∀ D ∈ l, ∀ k, D.adr k → Pl k ∧ k ≠ h) (dj : ∀ k, Pb k → ¬ Pl k) (lt : ∀ k, Pb k ∨ Pl k → k < w.heap.size)
  (hB : Below w.heap.size w w1) (hbad : (addE r s e).1 ≠ 0 → a' = a ∧ n' = l.length ∧ c' = c) (hgood : (addE r s e).1 = 0 → n' = l.length + 1 ∧ RdL5 w1 a' c' (l ++ [e]) ∧ ∀ ad, a' = some ad → w.heap.size ≤ ad.block)
  (an : AddN w1 B g r s i (bO g ve vp) ve vp vl y w2) (hsm : EntD.Same i e) (hlen : l.length + 1 ≤ 100) (hea : ∀ k, e.adr k → k < w.heap.size ∧ ¬ Pb k ∧ k ≠ h) (hlL : ∀ ad, a' = some ad → ad.block < w1.heap.size) :
  y = .returned (.int .i64 (((addE r s e).1 : Nat) : Int)) ∧ Fb w1 w2 (bO g ve vp) ∧ Below B w1 w2 ∧ HfX (w2.setCell ⟨h, 2, none⟩ (.slice a' n' c')) h g r B (addE r s e).2 (if (addE r s e).1 = 0 then l ++ [e] else l) (fun k => Pb k ∨ (w1.heap.size ≤ k ∧ k < w2.heap.size)) (fun k => Pl k ∨ e.adr k ∨ (w.heap.size ≤ k ∧ k < w1.heap.size)) := by
 unfold AddN at an
 rw [addE_same hsm] at an
 obtain ⟨ey, ⟨ve', vp', vl', bd, nr⟩, bw, fw⟩ := an
 refine ⟨ey, fw, bw, ?_⟩
 have hs01 := hB.size
 have hs12 := fw.size
 have hhlt : h < w.heap.size := lt h (.inr ph)
 have hnb : ∀ k, bO g ve vp k → Pb k := fun k hk => p1 k (.inl hk)
 have hhb : ¬ bO g ve vp h := fun hk => dj h (hnb h hk) ph
 have bx2 : w2.heap[h]? = some (.cells #[.pointer (some ⟨g, 0, none⟩), .int .i64 (r : Int), .slice a l.length c] 32 (0, 0)) := (fw.block h (Nat.lt_of_lt_of_le hhlt hs01) hhb).trans ((hB.block h hhlt).trans hb.box)
 have bx3 : (w2.setCell ⟨h, 2, none⟩ (.slice a' n' c')).heap[h]? = some (.cells #[.pointer (some ⟨g, 0, none⟩), .int .i64 (r : Int), .slice a' n' c'] 32 (0, 0)) := by simp [World.setCell, Array.getElem?_modify, bx2]
 have f3 : Fb w2 (w2.setCell ⟨h, 2, none⟩ (.slice a' n' c')) (fun k => k = h) := Fb.set1F (O := fun k => k = h) rfl _ _
 have hnew : ∀ k, bO g ve' vp' k ∨ vl'.ownBlock = some k → Pb k ∨ (w1.heap.size ≤ k ∧ k < w2.heap.size) := fun k hk => by
  rcases hk with (hk | hk | hk) | hk
  ·exact .inl (p1 k (.inl (.inl hk)))
  ·rcases nr.1 k hk with h1 | h1
   ·exact .inl (p1 k (.inl (.inr (.inl h1))))
   ·exact .inr ⟨h1, (bd.es.2.lt k hk).2⟩
  ·rcases nr.2.1 k hk with h1 | h1
   ·exact .inl (p1 k (.inl (.inr (.inr h1))))
   ·exact .inr ⟨h1, (bd.ps.2.lt k hk).2⟩
  ·rcases nr.2.2 k hk with h1 | h1
   ·exact .inl (p1 k (.inr h1))
   ·exact .inr ⟨h1, (bd.la.2.lt k hk).2⟩
 have bd3 : Bd (w2.setCell ⟨h, 2, none⟩ (.slice a' n' c')) B g r (addE r s e).2 ve' vp' vl' := bd.fbV f3 (fun k hk e => by
  subst e
  rcases hnew _ hk with h1 | h1
  ·exact dj _ h1 ph
  ·omega)
 have hdj : ∀ k, Pb k ∨ (w1.heap.size ≤ k ∧ k < w2.heap.size) → ¬ (Pl k ∨ e.adr k ∨ (w.heap.size ≤ k ∧ k < w1.heap.size)) := by
  rintro k (h1 | h1) (h2 | h2 | h2)
  ·exact dj k h1 h2
  ·exact (hea k h2).2.1 h1
  ·have := lt k (.inl h1); omega
  ·have := lt k (.inr h2); omega
  ·have := (hea k h2).1; omega
  ·omega
 have hsz : (w2.setCell ⟨h, 2, none⟩ (.slice a' n' c')).heap.size = w2.heap.size := World.size_setCell _ _ _
 have hlt3 : ∀ k, (Pb k ∨ (w1.heap.size ≤ k ∧ k < w2.heap.size)) ∨ (Pl k ∨ e.adr k ∨ (w.heap.size ≤ k ∧ k < w1.heap.size)) → k < (w2.setCell ⟨h, 2, none⟩ (.slice a' n' c')).heap.size := by
  rw [hsz]
  rintro k ((h1 | h1) | h1 | h1 | h1)
  ·have := lt k (.inl h1); omega
  ·exact h1.2
  ·have := lt k (.inr h1); omega
  ·have := (hea k h1).1; omega
  ·omega
 have keep : ∀ (m : List EntD) (a1 : Option Addr) (c1 : Nat), RdL5 w1 a1 c1 m → (∀ k, adB a1 k → Pl k ∨ (w.heap.size ≤ k ∧ k < w1.heap.size)) → (∀ k, adB a1 k → k ≠ h) → (∀ D ∈ m, ∀ k, D.adr k → Pl k ∨ e.adr k) → (∀ D ∈ m, ∀ k, D.adr k → k ≠ h) → RdL5 (w2.setCell ⟨h, 2, none⟩ (.slice a' n' c')) a1 c1 m := fun m a1 c1 hm q1 q2 q3 q4 => by
  refine (hm.fbV fw (fun k hk hx => ?_) (fun D hD k hk hx => ?_)).fbV f3 (fun k hk hx => q2 k hk hx) (fun D hD k hk hx => q4 D hD k hk hx)
  ·rcases q1 k hk with h1 | h1
   ·exact dj k (hnb k hx) h1
   ·have := lt k (.inl (hnb k hx)); omega
  ·rcases q3 D hD k hk with h1 | h1
   ·exact dj k (hnb k hx) h1
   ·exact (hea k h1).2.1 (hnb k hx)
 by_cases h0 : (addE r s e).1 = 0
 ·rw [if_pos h0]
  obtain ⟨rfl, hrd, hloc⟩ := hgood h0
  have qa : ∀ k, adB a' k → (Pl k ∨ (w.heap.size ≤ k ∧ k < w1.heap.size)) ∧ k ≠ h := by
   rintro k ⟨ad, e1, rfl⟩
   have h1 := hloc ad e1
   have h2 := hlL ad e1
   exact ⟨.inr ⟨h1, h2⟩, by omega⟩
  have qd : ∀ D ∈ l ++ [e], ∀ k, D.adr k → (Pl k ∨ e.adr k) ∧ k ≠ h := by
   intro D hD k hk
   rcases List.mem_append.1 hD with hD | hD
   ·exact ⟨.inl (pd D hD k hk).1, (pd D hD k hk).2⟩
   ·simp at hD
    subst hD
    exact ⟨.inr hk, (hea k hk).2.2⟩
  refine ⟨⟨ve', vp', vl', a', c', ⟨?_, bd3, keep _ _ _ hrd (fun k hk => (qa k hk).1) (fun k hk => (qa k hk).2) (fun D hD k hk => (qd D hD k hk).1) (fun D hD k hk => (qd D hD k hk).2), ?_, by simp; omega⟩, hnew, fun k hk => ⟨(qa k hk).1.imp id (fun h => .inr h), (qa k hk).2⟩⟩, .inl ph, fun D hD k hk => ⟨(qd D hD k hk).1.imp id (fun h => .inl h), (qd D hD k hk).2⟩, hdj, hlt3⟩
  ·rw [bx3, List.length_append]; rfl
  ·exact bldS_snoc r l Bs.zero hb.st (Prod.ext h0 rfl)
 ·rw [if_neg h0]
  obtain ⟨rfl, rfl, rfl⟩ := hbad h0
  have es : (addE r s e).2 = s := by
   unfold addE at *
   split
   ·rfl
   ·split
    ·rfl
    ·split
     ·rfl
     ·rename_i k1 k2 k3
      rw [if_neg k1, if_neg k2, if_neg k3] at h0
      exact absurd rfl h0
  rw [es] at bd3 ⊢
  refine ⟨⟨ve', vp', vl', a', c', ⟨bx3, bd3, keep _ _ _ (hb.rd.later hB) (fun k hk => .inl (p2 k hk).1) (fun k hk => (p2 k hk).2) (fun D hD k hk => .inl (pd D hD k hk).1) (fun D hD k hk => (pd D hD k hk).2), hb.st, hb.len⟩, hnew, fun k hk => ⟨.inl (p2 k hk).1, (p2 k hk).2⟩⟩, .inl ph, fun D hD k hk => ⟨.inl (pd D hD k hk).1, (pd D hD k hk).2⟩, hdj, hlt3⟩
end Go.Proofs.YtchebhafabhabaaGreatDoor

namespace Go.Proofs.YtchebhafabhabaaGreatDoor
open Go.RowKit Go.Shelf
set_option linter.unusedVariables false

structure Trio (w : World) (B gh : Nat) (h g r : Nat) (s : Bs) (l : List EntD) (Pb Pl : Nat → Prop) (h' g' r' : Nat) (s' : Bs) (l' : List EntD) (Qb Ql : Nat → Prop) (f : Nat) (FO : Nat → Prop) : Prop where
 a : HfX w h g r B s l Pb Pl
 b : HfX w h' g' r' B s' l' Qb Ql
 fu : FuB w f FO
 ab : ∀ k, Pb k ∨ Pl k → ¬ (Qb k ∨ Ql k)
 af : ∀ k, Pb k ∨ Pl k → ¬ FO k
 bf : ∀ k, Qb k ∨ Ql k → ¬ FO k
 lo : ∀ k, (Pb k ∨ Pl k) ∨ (Qb k ∨ Ql k) ∨ FO k → B ≤ k ∧ k ≠ gh
theorem Trio.swap {w : World} {B gh h g r h' g' r' f : Nat} {s s' : Bs} {l l' : List EntD} {Pb Pl Qb Ql FO : Nat → Prop} (t : Trio w B gh h g r s l Pb Pl h' g' r' s' l' Qb Ql f FO) : Trio w B gh h' g' r' s' l' Qb Ql h g r s l Pb Pl f FO :=
 ⟨t.b, t.a, t.fu, fun k h1 h2 => t.ab k h2 h1, t.bf, t.af, fun k hk => t.lo k (by rcases hk with hk | hk | hk; exact .inr (.inl hk); exact .inl hk; exact .inr (.inr hk))⟩
theorem Trio.later {w w' : World} {B gh h g r h' g' r' f : Nat} {s s' : Bs} {l l' : List EntD} {Pb Pl Qb Ql FO : Nat → Prop} (t : Trio w B gh h g r s l Pb Pl h' g' r' s' l' Qb Ql f FO) (b : Below w.heap.size w w') : Trio w' B gh h g r s l Pb Pl h' g' r' s' l' Qb Ql f FO :=
 ⟨t.a.later b, t.b.later b, t.fu.later b, t.ab, t.af, t.bf, t.lo⟩
theorem Trio.full {w w' : World} {B gh h g r h' g' r' f : Nat} {s s' : Bs} {l l' : List EntD} {Pb Pl Qb Ql FO FO' X : Nat → Prop} (t : Trio w B gh h g r s l Pb Pl h' g' r' s' l' Qb Ql f FO) (fu : FuB w' f FO') (fb : Fb w w' (fun k => FO k ∨ X k)) (hx : ∀ k, X k → ¬ (Pb k ∨ Pl k) ∧ ¬ (Qb k ∨ Ql k)) (hF : ∀ k, FO' k → FO k ∨ X k ∨ w.heap.size ≤ k) (hxl : ∀ k, X k → B ≤ k ∧ k ≠ gh) (hB : B ≤ w.heap.size) (hg : gh < w.heap.size) :
  Trio w' B gh h g r s l Pb Pl h' g' r' s' l' Qb Ql f FO' := by
 refine ⟨t.a.fb fb (fun k hk hz => ?_), t.b.fb fb (fun k hk hz => ?_), fu, t.ab, fun k hk hz => ?_, fun k hk hz => ?_, fun k hk => ?_⟩
 ·exact hz.elim (t.af k hk) (fun q => (hx k q).1 hk)
 ·exact hz.elim (t.bf k hk) (fun q => (hx k q).2 hk)
 ·rcases hF k hz with q | q | q
  ·exact t.af k hk q
  ·exact (hx k q).1 hk
  ·have := t.a.lt k hk; omega
 ·rcases hF k hz with q | q | q
  ·exact t.bf k hk q
  ·exact (hx k q).2 hk
  ·have := t.b.lt k hk; omega
 ·rcases hk with hk | hk | hk
  ·exact t.lo k (.inl hk)
  ·exact t.lo k (.inr (.inl hk))
  ·rcases hF k hk with q | q | q
   ·exact t.lo k (.inr (.inr q))
   ·exact hxl k q
   ·exact ⟨by omega, by omega⟩
theorem Trio.asks {w : World} {B gh h g r h' g' r' f : Nat} {s s' : Bs} {l l' : List EntD} {Pb Pl Qb Ql FO : Nat → Prop} (t : Trio w B gh h g r s l Pb Pl h' g' r' s' l' Qb Ql f FO) (hr1 : 1 ≤ r) (hr16 : r ≤ 16) (ht : Tab w) (hB : B ≤ w.heap.size) (hg : gh < w.heap.size) :
  Calls Tryz.prog 15 #[.pointer (some ⟨h, 0, none⟩), .pointer (some ⟨f, 0, none⟩)] w fun e w' => e = .returned (.bool true) ∧ (∃ FO', Trio w' B gh h g r s l Pb Pl h' g' r' s' l' Qb Ql f FO') ∧ Fb w w' FO := by
 obtain ⟨ve, vp, vl, a, c, hb, -, -⟩ := t.a.ex
 refine (asks_any hb t.fu hr1 hr16 ht).mono ?_
 rintro e w' ⟨rfl, fu, fb⟩
 exact ⟨rfl, ⟨_, t.full (X := fun _ => False) fu (fb.mono (fun _ _ q => .inl q)) (fun _ q => q.elim) (fun k q => q.elim .inl (fun z => .inr (.inr z.1))) (fun _ q => q.elim) hB hg⟩, fb⟩
theorem Trio.put {w w' : World} {B gh h g r h' g' r' f : Nat} {s s2 s' : Bs} {l l2 l' : List EntD} {Pb Pl Pb2 Pl2 Qb Ql FO X : Nat → Prop} (t : Trio w B gh h g r s l Pb Pl h' g' r' s' l' Qb Ql f FO) (a2 : HfX w' h g r B s2 l2 Pb2 Pl2) (fb : Fb w w' (fun k => Pb k ∨ Pl k)) (h2 : ∀ k, Pb2 k ∨ Pl2 k → (Pb k ∨ Pl k) ∨ X k ∨ w.heap.size ≤ k) (hx : ∀ k, X k → ¬ (Qb k ∨ Ql k) ∧ ¬ FO k ∧ B ≤ k ∧ k ≠ gh) (hB : B ≤ w.heap.size) (hg : gh < w.heap.size) :
  Trio w' B gh h g r s2 l2 Pb2 Pl2 h' g' r' s' l' Qb Ql f FO := by
 refine ⟨a2, t.b.fb fb (fun k hk hz => t.ab k hz hk), t.fu.fb fb (fun k hk hz => t.af k hk hz), fun k hk hz => ?_, fun k hk hz => ?_, t.bf, fun k hk => ?_⟩
 ·rcases h2 k hk with q | q | q
  ·exact t.ab k q hz
  ·exact (hx k q).1 hz
  ·have := t.b.lt k hz; omega
 ·rcases h2 k hk with q | q | q
  ·exact t.af k q hz
  ·exact (hx k q).2.1 hz
  ·have := t.fu.lt k hz; omega
 ·rcases hk with hk | hk | hk
  ·rcases h2 k hk with q | q | q
   ·exact t.lo k (.inl q)
   ·exact (hx k q).2.2
   ·exact ⟨by omega, by omega⟩
  ·exact t.lo k (.inr (.inl hk))
  ·exact t.lo k (.inr (.inr hk))
end Go.Proofs.YtchebhafabhabaaGreatDoor

namespace Go.Proofs.YtchebhafabhabaaGreatDoor
open Go.RowKit Go.Shelf
set_option linter.unusedVariables false

section
variable {P : Program} {ops : Array Oper} {Q : Exit → Act → World → Prop} {md : Region.Mode} {S : World → Prop} {E : Nat → Bool}
theorem AnyE.threeF {i j m : Nat} {oi oj om : Oper} {fuel : Nat} {listed : Array Bool} {a : Act} {w : World} (hi : ops[i]? = some oi) (hj : ops[j]? = some oj) (hm : ops[m]? = some om) (hr : Region.ready md ops listed = [i, j, m]) (hwi : Region.wanted oi (yielded ops a.tmps) = true) (hwj : Region.wanted oj (yielded ops a.tmps) = true) (hwm : Region.wanted om (yielded ops a.tmps) = true)
  (h1 : ∀ K : Act → World → Prop, Hid (∀ a' w', ((E i = true → S w') ∧ AnyE P md ops Q S E fuel (listed.setIfInBounds i true) a' w') → K a' w') → Oper.wp P oi a w K Q)
  (h2 : ∀ K : Act → World → Prop, Hid (∀ a' w', ((E j = true → S w') ∧ AnyE P md ops Q S E fuel (listed.setIfInBounds j true) a' w') → K a' w') → Oper.wp P oj a w K Q)
  (h3 : ∀ K : Act → World → Prop, Hid (∀ a' w', ((E m = true → S w') ∧ AnyE P md ops Q S E fuel (listed.setIfInBounds m true) a' w') → K a' w') → Oper.wp P om a w K Q) : AnyE P md ops Q S E (fuel + 1) listed a w :=
 ⟨fun k => (by rw [hr] at k; cases k), fun n hn => by
  rw [hr] at hn
  rcases List.mem_cons.1 hn with rfl | hn
  ·exact wpOp_step hi (fun K' hK => by rw [if_pos hwi]; exact h1 K' hK)
  ·rcases List.mem_cons.1 hn with rfl | hn
   ·exact wpOp_step hj (fun K' hK => by rw [if_pos hwj]; exact h2 K' hK)
   ·obtain rfl : n = m := by simpa using hn
    exact wpOp_step hm (fun K' hK => by rw [if_pos hwm]; exact h3 K' hK)⟩
end
structure Md (Z : World) (x D : EntD) (lo hi : Nat) : Prop where
 sm : EntD.Same D x.cut
 ld : LaidE Z lo D
 ap : ApE D
 bl : ∀ k, D.blk k → lo ≤ k ∧ k < hi
theorem Md.later {Z Z' : World} {x D : EntD} {lo hi : Nat} (h : Md Z x D lo hi) (b : Below Z.heap.size Z Z') : Md Z' x D lo hi := ⟨h.sm, h.ld.later b, h.ap, h.bl⟩
theorem Md.new {Z Z' : World} {x D : EntD} (hs : EntD.Same D x.cut) (hl : LaidE Z' Z.heap.size D) (ha : ApE D) : Md Z' x D Z.heap.size Z'.heap.size := ⟨hs, hl, ha, fun k hk => by
 rcases hk with h | h | h
 ·exact hl.1.own_lt k h
 ·exact hl.2.1.own_lt k h
 ·exact hl.2.2.own_lt k h⟩
theorem Laid.fbL {w w' : World} {B : Nat} {u : Value} {bs : List Nat} {X : Nat → Prop} (h : Laid w B u bs) (f : Fb w w' X) (hx : ∀ k, u.ownBlock = some k → ¬ X k) : Laid w' B u bs := by
 obtain ⟨g, c, rfl, h2, h3, o⟩ := h
 exact ⟨g, c, rfl, h2, h3, o.fbF f (fun k hk => hx k hk)⟩
theorem LaidE.fbL {w w' : World} {B : Nat} {D : EntD} {X : Nat → Prop} (h : LaidE w B D) (f : Fb w w' X) (hx : ∀ k, D.blk k → ¬ X k) : LaidE w' B D := ⟨h.1.fbL f (fun k hk => hx k (.inl hk)), h.2.1.fbL f (fun k hk => hx k (.inr (.inl hk))), h.2.2.fbL f (fun k hk => hx k (.inr (.inr hk)))⟩
theorem filled_fb (w : World) (g : Nat) (e : EntD) : Fb w (filled w g e) (fun k => k = g) := by
 have h := filled_apart w g e
 exact ⟨h.os, h.tape, h.output, h.size, fun k hk ho => h.block k hk ho⟩
structure Pair (wr Z : World) (x D1 D2 : EntD) (b1 b2 : Nat) : Prop where
 bel : Below wr.heap.size wr Z
 e1 : EBox Z b1 D1
 e2 : EBox Z b2 D2
 s1 : EntD.Same D1 x.cut
 s2 : EntD.Same D2 x.cut
 l1 : LaidE Z wr.heap.size D1
 l2 : LaidE Z wr.heap.size D2
 a1 : ApE D1
 a2 : ApE D2
 d1 : ∀ k, D1.blk k → ¬ D2.blk k ∧ k ≠ b1 ∧ k ≠ b2
 d2 : ∀ k, D2.blk k → k ≠ b1 ∧ k ≠ b2
 lo : wr.heap.size ≤ b1 ∧ wr.heap.size ≤ b2 ∧ b1 ≠ b2
theorem pair_of {wr Z : World} {x D1 D2 : EntD} {b1 b2 lo1 hi1 lo2 hi2 : Nat} (hb : Below wr.heap.size wr Z) (m1 : Md Z x D1 lo1 hi1) (m2 : Md Z x D2 lo2 hi2) (e1 : EBox Z b1 zeroD) (e2 : EBox Z b2 zeroD) (h1 : wr.heap.size ≤ lo1 ∧ wr.heap.size ≤ lo2 ∧ wr.heap.size ≤ b1 ∧ wr.heap.size ≤ b2) (hd : hi1 ≤ lo2) (hb1 : (b1 < lo1 ∨ hi1 ≤ b1) ∧ (b1 < lo2 ∨ hi2 ≤ b1)) (hb2 : (b2 < lo1 ∨ hi1 ≤ b2) ∧ (b2 < lo2 ∨ hi2 ≤ b2)) (hbb : b1 ≠ b2) : Pair wr (filled (filled Z b1 D1) b2 D2) x D1 D2 b1 b2 := by
 have f1 := filled_fb Z b1 D1
 have f2 := filled_fb (filled Z b1 D1) b2 D2
 have q1 : ∀ k, D1.blk k → ¬ D2.blk k ∧ k ≠ b1 ∧ k ≠ b2 := fun k hk => by
  have := m1.bl k hk
  exact ⟨fun h => by have := m2.bl k h; omega, by omega, by omega⟩
 have q2 : ∀ k, D2.blk k → k ≠ b1 ∧ k ≠ b2 := fun k hk => by
  have := m2.bl k hk
  exact ⟨by omega, by omega⟩
 have x1 := filled_box e1 D1
 have x2 : EBox (filled Z b1 D1) b2 zeroD := (f1.block b2 (Array.getElem?_eq_some_iff.1 e2).1 (fun e => hbb e.symm)).trans e2
 refine ⟨?_, (f2.block b1 (Array.getElem?_eq_some_iff.1 x1).1 (fun e => hbb e)).trans x1, filled_box x2 D2, m1.sm, m2.sm, ((m1.ld.mono h1.1).fbL f1 (fun k hk e => (q1 k hk).2.1 e)).fbL f2 (fun k hk e => (q1 k hk).2.2 e), ((m2.ld.mono h1.2.1).fbL f1 (fun k hk e => (q2 k hk).1 e)).fbL f2 (fun k hk e => (q2 k hk).2 e), m1.ap, m2.ap, q1, q2, ⟨h1.2.2.1, h1.2.2.2, hbb⟩⟩
 have w1 : Below wr.heap.size Z (filled Z b1 D1) := ⟨f1.os, f1.tape, f1.output, f1.size, fun k hk => f1.block k (Nat.lt_of_lt_of_le hk hb.size) (fun e => by omega)⟩
 have w2 : Below wr.heap.size (filled Z b1 D1) (filled (filled Z b1 D1) b2 D2) := ⟨f2.os, f2.tape, f2.output, f2.size, fun k hk => f2.block k (Nat.lt_of_lt_of_le hk (Nat.le_trans hb.size f1.size)) (fun e => by omega)⟩
 exact (hb.trans w1).trans w2
end Go.Proofs.YtchebhafabhabaaGreatDoor
