import Derived.Test.YtchebhafabhabaaGreatDoorK24
namespace Go.Proofs.YtchebhafabhabaaGreatDoor
open Go.RowKit
set_option linter.unusedVariables false

def NrB (w : World) (ve vp vl ve' vp' vl' : Value) : Prop := (∀ k, ve'.ownBlock = some k → ve.ownBlock = some k ∨ w.heap.size ≤ k) ∧ (∀ k, vp'.ownBlock = some k → vp.ownBlock = some k ∨ w.heap.size ≤ k) ∧ (∀ k, vl'.ownBlock = some k → vl.ownBlock = some k ∨ w.heap.size ≤ k)
theorem NrB.refl (w : World) (ve vp vl : Value) : NrB w ve vp vl ve vp vl := ⟨fun _ h => .inl h, fun _ h => .inl h, fun _ h => .inl h⟩
def AddN (w : World) (B g r : Nat) (s : Bs) (e : EntD) (O : Nat → Prop) (ve0 vp0 vl0 : Value) (x : Ending) (w' : World) : Prop :=
 x = .returned (.int .i64 (((addE r s e).1 : Nat) : Int)) ∧ (∃ ve vp vl, Bd w' B g r (addE r s e).2 ve vp vl ∧ NrB w ve0 vp0 vl0 ve vp vl) ∧ Below B w w' ∧ Fb w w' O
theorem addN_bad {w w' : World} {B g r : Nat} {s : Bs} {e : EntD} {ve vp vl : Value} {O : Nat → Prop} (h : checkS e ≠ 0) (hb : Bd w' B g r s ve vp vl) (hw : Below B w w') (hf : Fb w w' O) : AddN w B g r s e O ve vp vl (.returned (.int .i64 ((checkS e : Nat) : Int))) w' := by
 have e1 : addE r s e = (checkS e, s) := by unfold addE; rw [if_pos h]
 exact ⟨by rw [e1], ⟨ve, vp, vl, by rw [e1]; exact hb, NrB.refl _ _ _ _⟩, hw, hf⟩
theorem addN_order {w w' : World} {B g r : Nat} {s : Bs} {e : EntD} {ve vp vl : Value} {O : Nat → Prop} (h : checkS e = 0) (h2 : ordC (keyL e) s.la ≤ 0) (hb : Bd w' B g r s ve vp vl) (hw : Below B w w') (hf : Fb w w' O) : AddN w B g r s e O ve vp vl (.returned (.int .i64 30)) w' := by
 have e1 : addE r s e = (30, s) := by unfold addE; rw [if_neg (fun k => k h), if_pos h2]
 exact ⟨by rw [e1]; rfl, ⟨ve, vp, vl, by rw [e1]; exact hb, NrB.refl _ _ _ _⟩, hw, hf⟩
theorem addN_full {w w' : World} {B g r : Nat} {s : Bs} {e : EntD} {ve vp vl : Value} {O : Nat → Prop} (h : checkS e = 0) (h2 : ¬ ordC (keyL e) s.la ≤ 0) (h3 : fullB r s (keyL e) e.val = true) (hb : Bd w' B g r s ve vp vl) (hw : Below B w w') (hf : Fb w w' O) : AddN w B g r s e O ve vp vl (.returned (.int .i64 53)) w' := by
 have e1 : addE r s e = (53, s) := by unfold addE; rw [if_neg (fun k => k h), if_neg h2, if_pos h3]
 exact ⟨by rw [e1]; rfl, ⟨ve, vp, vl, by rw [e1]; exact hb, NrB.refl _ _ _ _⟩, hw, hf⟩
theorem addN_done {w w' : World} {B g r : Nat} {s : Bs} {e : EntD} {ve vp vl ve0 vp0 vl0 : Value} {O : Nat → Prop} (h : checkS e = 0) (h2 : ¬ ordC (keyL e) s.la ≤ 0) (h3 : fullB r s (keyL e) e.val = false) (hb : Bd w' B g r (addB r s (keyL e) e.val) ve vp vl) (hw : Below B w w') (hf : Fb w w' O) (hn : NrB w ve0 vp0 vl0 ve vp vl) : AddN w B g r s e O ve0 vp0 vl0 (.returned (.int .i64 0)) w' := by
 have e1 : addE r s e = (0, addB r s (keyL e) e.val) := by unfold addE; rw [if_neg (fun k => k h), if_neg h2, if_neg (by rw [h3]; simp)]
 exact ⟨by rw [e1]; rfl, ⟨ve, vp, vl, by rw [e1]; exact hb, hn⟩, hw, hf⟩
set_option maxRecDepth 100000 in
set_option maxHeartbeats 8000000 in
theorem addN_any {w : World} {B g r : Nat} {s : Bs} {ve vp vl : Value} {e : EntD} (hb : Bd w B g r s ve vp vl) (hr : 1 ≤ r ∧ r ≤ 16) (hB : B ≤ w.heap.size) (he : ∀ wx, Fb w wx (bO g ve vp) → EntD.Ok wx e) :
  Calls Tryz.prog 12 #[.pointer (some ⟨g, 0, none⟩), .agg e.cells] w fun x w' => AddN w B g r s e (bO g ve vp) ve vp vl x w' := by
 obtain ⟨ae, ce, rfl⟩ := own_form hb.es.2
 obtain ⟨ap, cp, rfl⟩ := own_form hb.ps.2
 obtain ⟨al, cl, rfl⟩ := own_form hb.la.2
 have hok := he w (Fb.refl _ _)
 obtain ⟨ne, hne⟩ : ∃ ne, ne = s.es.length := ⟨_, rfl⟩
 obtain ⟨np, hnp⟩ : ∃ np, np = s.ps.length := ⟨_, rfl⟩
 obtain ⟨nl, hnl⟩ : ∃ nl, nl = s.la.length := ⟨_, rfl⟩
 rw [← hne, ← hnp, ← hnl] at hb
 rw [← hne, ← hnp] at he
 rw [← hne, ← hnp, ← hnl]
 have HLn := Lib.hid (And.intro hne (And.intro hnp hnl))
 have hsz : ne + np ≤ 131072 := by rw [hne, hnp]; exact hb.size
 have hfew := hb.few
 clear hne hnp hnl
 have A1 := (Below.refl w.heap.size w).alloc (Nat.le_refl _) (.cells e.cells 40)
 have eb := EBox.new w e
 obtain ⟨X, hX⟩ : ∃ X, X = w.alloc (.cells e.cells 40) := ⟨_, rfl⟩
 rw [← hX] at A1 eb
 obtain ⟨hy1, a1, n1, e1, -⟩ := hok.1
 obtain ⟨hy2, a2, n2, e2, -⟩ := hok.2.1
 obtain ⟨hy3, a3, n3, e3, l3, -⟩ := hok.2.2
 have hXe : e.cells = #[.slice a1 e.row.length n1, .int .i64 e.fam, .slice a2 e.qual.length n2, .int .i64 e.ts, .int .i64 e.seq, .int .i64 e.kind, .slice a3 e.val.length n3] := by unfold EntD.cells; rw [e1, e2, e3]
 have HKy := Lib.hid (key_any (hok.later A1))
 have x0 := EBox.vr eb
 have x1 := EBox.fam eb
 have x2 := EBox.vq eb
 have x3 := EBox.ts eb
 have x4 := EBox.seq eb
 have x5 := EBox.kind eb
 have x6 := EBox.vv eb
 rw [e1] at x0
 rw [e2] at x2
 rw [e3] at x6
 rw [hXe] at hX HKy ⊢
 have HX := Lib.hid hX
 have HXe := Lib.hid hXe
 obtain ⟨C, hC⟩ : ∃ C, C = checkS e := ⟨_, rfl⟩
 have HBd := Lib.hid hb
 have HBX := Lib.hid (hb.later A1)
 have HA1 := Lib.hid A1
 have HEb := Lib.hid eb
 have HOk := Lib.hid he
 have HV := Lib.hid (And.intro e3 (And.intro hy1 hy2))
 have HVb := Lib.hid hy3
 obtain ⟨vn, hvn⟩ : ∃ vn, vn = e.val.length := ⟨_, rfl⟩
 have HVn := Lib.hid hvn
 rw [← hvn] at x6 HX HXe HKy ⊢
 obtain ⟨rn, hrn⟩ : ∃ rn, rn = e.row.length := ⟨_, rfl⟩
 rw [← hrn] at x0 HX HXe HKy ⊢
 obtain ⟨qn, hqn⟩ : ∃ qn, qn = e.qual.length := ⟨_, rfl⟩
 rw [← hqn] at x2 HX HXe HKy ⊢
 have HLo : Hid ((∀ k, (Value.slice ae ne ce).ownBlock = some k → k < w.heap.size) ∧ (∀ k, (Value.slice ap np cp).ownBlock = some k → k < w.heap.size) ∧ (∀ k, (Value.slice al nl cl).ownBlock = some k → k < w.heap.size)) := ⟨fun k hk => (hb.es.2.lt k hk).2, fun k hk => (hb.ps.2.lt k hk).2, fun k hk => (hb.la.2.lt k hk).2⟩
 have HXs : Hid (w.heap.size < X.heap.size ∧ g < w.heap.size) := ⟨(Array.getElem?_eq_some_iff.1 eb).1, (Array.getElem?_eq_some_iff.1 hb.box).1⟩
 clear hX A1 eb hb he hok hXe e1 e2 e3 hy1 hy2 hy3 hvn hrn hqn
 go_enter Tryz.func12, Tryz.ntmps12
 go_upto_region 1 with fail
 rw [← HX.out]
 clear HX
 go_wp2_with fail
 refine Calls.mono HKy.out ?_
 rintro z X1 ⟨ak, mk, ck, E, rfl, hE, hown, hb1⟩
 rw [← hC] at hE
 subst hE
 have HB1 := Lib.hid hb1
 have HOwn := Lib.hid hown
 have HC := Lib.hid hC
 have HBw := Lib.hid ((HA1.out.mono hB).trans (hb1.mono (Nat.le_trans hB HA1.out.size)))
 have HFw := Lib.hid (fun O : Nat → Prop => (Fb.of_below (HA1.out.trans (hb1.mono HA1.out.size)) : Fb w _ O))
 have HBd1 := Lib.hid (HBX.out.later hb1)
 clear hb1 hown hC HKy x0 x1 x2 x3 x4 x5 x6
 by_cases hc0 : E = 0
 ·subst hc0
  have hC0 : checkS e = 0 := HC.out.symm
  have hown := HOwn.out rfl
  have hmk := hown.1
  have hkb := keyL_bys HV.out.2.1 HV.out.2.2 hC0
  have hkl := keyL_len hC0
  obtain ⟨K, hK⟩ : ∃ K, K = keyL e := ⟨_, rfl⟩
  rw [← hK] at hown hmk hkb hkl
  have hkp : 0 < K.length := by rw [hK, keyL_parts]; simp; omega
  have HK := Lib.hid hK
  have HC0 := Lib.hid hC0
  obtain ⟨gk, rfl⟩ : ∃ gk, ak = some ⟨gk, 0, none⟩ := by
   rcases ownNonil hown with ⟨_, h, _⟩ | h
   ·omega
   ·exact h
  have hrk := hown.rd hkb (by omega)
  have HKo := Lib.hid hown
  have HKb := Lib.hid hkb
  have mk1 : 0 < mk := by omega
  have mk2 : mk ≤ 2000 := by omega
  have hck : mk ≤ ck := (rd_lens hrk).2.1
  have hcm : ck ≤ 9223372036854775807 := by have := (rd_lens hrk).2.2.1; unfold maxLen at this; exact this
  have HKr := Lib.hid hrk
  have HMk := Lib.hid hmk
  obtain ⟨c0, c1, c2, c3, c4⟩ := HBd1.out.box.cells
  have hrl := HBd1.out.la.rd HBd1.out.byL (by have := HBd1.out.lal; omega)
  have HCmp := Lib.hid (bytesCompare_any hrk hrl)
  obtain ⟨O, hO⟩ : ∃ O, O = ordC K s.la := ⟨_, rfl⟩
  rw [← hO] at HCmp
  have HOe := Lib.hid hO
  have HRl := Lib.hid hrl
  clear hC0 hown hmk hkb hkl hK hrk hrl hO HOwn
  go_upto_region 4 with fail
  go_wp2_with fail
  refine Calls.mono HCmp.out ?_
  rintro z Xq ⟨rfl, rfl⟩
  by_cases hle : O ≤ 0
  ·have HEnd := Lib.hid (addN_order (w := w) HC0.out (by rw [← HK.out, ← HOe.out]; exact hle) HBd1.out HBw.out (HFw.out (bO g (.slice ae ne ce) (.slice ap np cp))))
   clear c0 c1 c2 c3 c4
   go_wp2
   go_ret
   exact HEnd.out
  have hle2 : ¬ ordC (keyL e) s.la ≤ 0 := by rw [← HK.out, ← HOe.out]; exact hle
  have HLe := Lib.hid hle2
  have HCom := Lib.hid (fun wx (h : Below Xq.heap.size Xq wx) => common_any (HRl.out.later h) (HKr.out.later h))
  obtain ⟨sh0, hsh0⟩ : ∃ sh0, sh0 = comL s.la K := ⟨_, rfl⟩
  rw [← hsh0] at HCom
  have HSh0 := Lib.hid hsh0
  clear c0 c1 c2 c3 c4 HCmp hle2 hsh0
  go_upto_region 6 with fail
  have BD : Below Xq.heap.size Xq Xq.drew := (Below.refl _ _).drew
  refine wp_region_noPanic ?_
  refine wp_region_held_drew (S := fun wx => Below Xq.heap.size Xq wx) (by kernel_rfl) BD (fun hHeld => ?_)
  refine wpAnyH_take (i := 0) (oi := { dst := some 25, op := _, type := _, pos := _, after := _, guard := _ }) (v := .pointer (some ⟨g, 0, none⟩)) rfl (by kernel_rfl) (by kernel_rfl) (by kernel_rfl) (fun _ _ _ h => h) (Or.inl ⟨by kernel_rfl, fun wy hy => by first | (go_simp; done)⟩) (by assumption) ?_
  try simp only [Act.put, List.setIfInBounds_toArray, List.set_cons_zero, List.set_cons_succ]
  refine wpAnyH_take (i := 1) (oi := { dst := some 26, op := _, type := _, pos := _, after := _, guard := _ }) (v := .pointer (some ⟨g, 0, none⟩)) rfl (by kernel_rfl) (by kernel_rfl) (by kernel_rfl) (fun _ _ _ h => h) (Or.inl ⟨by kernel_rfl, fun wy hy => by first | (go_simp; done)⟩) (by assumption) ?_
  try simp only [Act.put, List.setIfInBounds_toArray, List.set_cons_zero, List.set_cons_succ]
  refine wpAnyH_take (i := 2) (oi := { dst := some 27, op := _, type := _, pos := _, after := _, guard := _ }) (v := .pointer (some ⟨g, 3, none⟩)) rfl (by kernel_rfl) (by kernel_rfl) (by kernel_rfl) (fun _ _ _ h => h) (Or.inl ⟨by kernel_rfl, fun wy hy => by first | (go_simp; done)⟩) (by assumption) ?_
  try simp only [Act.put, List.setIfInBounds_toArray, List.set_cons_zero, List.set_cons_succ]
  refine wpAnyH_take (i := 3) (oi := { dst := some 28, op := _, type := _, pos := _, after := _, guard := _ }) (v := .slice ap np cp) rfl (by kernel_rfl) (by kernel_rfl) (by kernel_rfl) (fun _ _ _ h => h) (Or.inl ⟨by kernel_rfl, fun wy hy => by (obtain ⟨c0, c1, c2, c3, c4⟩ := (HBd1.out.later hy).box.cells; go_simp; done)⟩) (by assumption) ?_
  try simp only [Act.put, List.setIfInBounds_toArray, List.set_cons_zero, List.set_cons_succ]
  refine wpAnyH_take (i := 4) (oi := { dst := some 29, op := _, type := _, pos := _, after := _, guard := _ }) (v := .pointer (some ⟨g, 0, none⟩)) rfl (by kernel_rfl) (by kernel_rfl) (by kernel_rfl) (fun _ _ _ h => h) (Or.inl ⟨by kernel_rfl, fun wy hy => by first | (go_simp; done)⟩) (by assumption) ?_
  try simp only [Act.put, List.setIfInBounds_toArray, List.set_cons_zero, List.set_cons_succ]
  refine wpAnyH_take (i := 5) (oi := { dst := some 30, op := _, type := _, pos := _, after := _, guard := _ }) (v := .pointer (some ⟨g, 0, none⟩)) rfl (by kernel_rfl) (by kernel_rfl) (by kernel_rfl) (fun _ _ _ h => h) (Or.inl ⟨by kernel_rfl, fun wy hy => by first | (go_simp; done)⟩) (by assumption) ?_
  try simp only [Act.put, List.setIfInBounds_toArray, List.set_cons_zero, List.set_cons_succ]
  refine wpAnyH_take (i := 6) (oi := { dst := some 31, op := _, type := _, pos := _, after := _, guard := _ }) (v := .pointer (some ⟨g, 4, none⟩)) rfl (by kernel_rfl) (by kernel_rfl) (by kernel_rfl) (fun _ _ _ h => h) (Or.inl ⟨by kernel_rfl, fun wy hy => by first | (go_simp; done)⟩) (by assumption) ?_
  try simp only [Act.put, List.setIfInBounds_toArray, List.set_cons_zero, List.set_cons_succ]
  refine wpAnyH_take (i := 7) (oi := { dst := some 32, op := _, type := _, pos := _, after := _, guard := _ }) (v := .slice al nl cl) rfl (by kernel_rfl) (by kernel_rfl) (by kernel_rfl) (fun _ _ _ h => h) (Or.inl ⟨by kernel_rfl, fun wy hy => by (obtain ⟨c0, c1, c2, c3, c4⟩ := (HBd1.out.later hy).box.cells; go_simp; done)⟩) (by assumption) ?_
  try simp only [Act.put, List.setIfInBounds_toArray, List.set_cons_zero, List.set_cons_succ]
  refine wpAnyH_take (i := 8) (oi := { dst := some 33, op := _, type := _, pos := _, after := _, guard := _ }) (v := .slice (some ⟨gk, 0, none⟩) mk ck) rfl (by kernel_rfl) (by kernel_rfl) (by kernel_rfl) (fun _ _ _ h => h) (Or.inl ⟨by kernel_rfl, fun wy hy => by first | (go_simp; done)⟩) (by assumption) ?_
  try simp only [Act.put, List.setIfInBounds_toArray, List.set_cons_zero, List.set_cons_succ]
  refine wpAnyH_ready (rs := [9]) (by kernel_rfl) (by simp) ?_
  refine AllReadyH.cons (o := { dst := some 34, op := _, type := _, pos := _, after := _, guard := _ }) rfl (fun K hK => ?_) AllReadyH.nil
  go_simp
  go_at_call 52
  refine (HCom.out _ BD).mono ?_
  rintro e1 X2 ⟨rfl, hb2⟩
  have hb22 : Below Xq.heap.size Xq X2 := BD.trans hb2
  clear hb2 BD HCom
  go_wp2_with fail
  refine hK.out _ _ hb22 (fun hHeld => ?_)
  clear hK K
  try simp only [Act.put, List.setIfInBounds_toArray, List.set_cons_zero, List.set_cons_succ]
  refine wpAnyH_take (i := 10) (oi := { dst := some 7, op := _, type := _, pos := _, after := _, guard := _ }) (v := .slice ap np cp) rfl (by kernel_rfl) (by kernel_rfl) (by kernel_rfl) (fun _ _ _ h => h) (Or.inl ⟨by kernel_rfl, fun wy hy => by first | (go_simp; done)⟩) (by assumption) ?_
  try simp only [Act.put, List.setIfInBounds_toArray, List.set_cons_zero, List.set_cons_succ]
  refine wpAnyH_take (i := 11) (oi := { dst := some 8, op := _, type := _, pos := _, after := _, guard := _ }) (v := .int .i64 (sh0 : Int)) rfl (by kernel_rfl) (by kernel_rfl) (by kernel_rfl) (fun _ _ _ h => h) (Or.inl ⟨by kernel_rfl, fun wy hy => by first | (go_simp; done)⟩) (by assumption) ?_
  try simp only [Act.put, List.setIfInBounds_toArray, List.set_cons_zero, List.set_cons_succ]
  refine wpAnyH_done (by kernel_rfl) (NoPanic.normal ?_) _
  have HB2 := Lib.hid hb22
  clear hb22 hHeld
  go_simp
  go_step
  have HBd2 := Lib.hid (HBd1.out.later HB2.out)
  have HEb2 := Lib.hid ((HEb.out.later HB1.out).later HB2.out)
  have HKr2 := Lib.hid (HKr.out.later HB2.out)
  have HKo2 := Lib.hid (HKo.out.later HB2.out)
  have HBw2 := Lib.hid (HBw.out.trans (HB2.out.mono (Nat.le_trans hB HBw.out.size)))
  have HX2 : Hid (Below w.heap.size w X2) := (HA1.out.trans (HB1.out.mono HA1.out.size)).trans (HB2.out.mono (HA1.out.trans (HB1.out.mono HA1.out.size)).size)
  clear HBd HBX HBd1 HEb HKr HKo HBw HB1 HB2 HA1 HRl
  obtain ⟨Z, hZ⟩ : ∃ Z : Bool, Z = decide (s.n % r = 0) := ⟨_, rfl⟩
  have HZ := Lib.hid hZ
  clear hZ
  have r1 : (1 : Int) ≤ (r : Int) := by omega
  have sn0 : (0 : Int) ≤ (s.n : Int) := by omega
  go_upto_region 7 with fail
  go_cut [44] (fun b wx => b = .bool Z ∧ Hid (Below X2.heap.size X2 wx))
  case first =>
   obtain ⟨c0, c1, c2, c3, c4⟩ := HBd2.out.box.cells
   by_cases hz : s.n % r = 0
   ·have hz2 : (((s.n : Int) % (r : Int)) == 0) = true := by rw [beq_iff_eq]; omega
    have hZt : Z = true := by rw [HZ.out]; simp [hz]
    go_quiet (fail)
    go_wp2_with fail
    go_meet
    exact ⟨by rw [hZt], below_drewN (Below.refl _ _) _⟩
   ·have hz2 : (((s.n : Int) % (r : Int)) == 0) = false := by rw [beq_eq_false_iff_ne]; omega
    have hZt : Z = false := by rw [HZ.out]; simp [hz]
    go_quiet (fail)
    go_wp2_with fail
    go_meet
    exact ⟨by rw [hZt], below_drewN (Below.refl _ _) _⟩
  case rest =>
  obtain ⟨rfl, HX3⟩ := hcut
  rename World => X3
  have HBd3 := Lib.hid (HBd2.out.later HX3.out)
  have HEb3 := Lib.hid (HEb2.out.later HX3.out)
  have HKr3 := Lib.hid (HKr2.out.later HX3.out)
  have HKo3 := Lib.hid (HKo2.out.later HX3.out)
  have HBw3 := Lib.hid (HBw2.out.trans (HX3.out.mono (Nat.le_trans hB HBw2.out.size)))
  have HX23 : Hid (Below w.heap.size w X3) := HX2.out.trans (HX3.out.mono HX2.out.size)
  clear HBd2 HEb2 HKr2 HKo2 HBw2 HX2 HX3
  obtain ⟨tl, htl⟩ : ∃ tl, tl = if s.n % r = 0 then be4 ne else [] := ⟨_, rfl⟩
  obtain ⟨sh, hsh⟩ : ∃ sh, sh = shOf r s K := ⟨_, rfl⟩
  obtain ⟨tn, htn⟩ : ∃ tn, tn = tl.length := ⟨_, rfl⟩
  have hps : psOf r s = s.ps ++ tl := by unfold psOf; rw [htl, HLn.out.1]; split <;> simp
  have htn4 : tn ≤ 4 := by rw [htn, htl]; split <;> simp [be4]
  have hsl : sh < mk := by
   rw [hsh, HMk.out]
   unfold shOf
   split
   ·omega
   ·exact com_lt (by have := HOe.out; omega)
  have HTl := Lib.hid htl
  have HSh := Lib.hid hsh
  have HTn := Lib.hid htn
  have HPs := Lib.hid hps
  clear htl hsh htn hps
  go_upto_if 44 with fail
  go_cut [7, 8] (fun p8 s8 wx => ∃ ap' cp', p8 = .slice ap' (np + tn) cp' ∧ s8 = .int .i64 (sh : Int) ∧ Hid (Gr X3 wx B np (np + tn) (.slice ap np cp) (.slice ap' (np + tn) cp') s.ps tl))
  case first =>
   obtain ⟨c0, c1, c2, c3, c4⟩ := HBd3.out.box.cells
   have hpo := HBd3.out.ps
   rw [← HLn.out.2.1] at hpo
   cases Z with
   | true =>
    have hz : s.n % r = 0 := of_decide_eq_true HZ.out.symm
    have htl : tl = be4 ne := by rw [HTl.out, if_pos hz]
    have hs0 : sh = 0 := by rw [HSh.out]; unfold shOf; rw [if_pos hz]
    have ht4 : tn = 4 := by rw [HTn.out, htl]; rfl
    have HWd := Lib.hid (appendWordG_any ne (by omega) hpo (Nat.le_trans hB HBw3.out.size) (by omega))
    rw [← htl] at HWd
    subst ht4 hs0
    clear htl hz hpo
    go_wp2_with fail
    refine Calls.mono HWd.out ?_
    rintro z X4 ⟨a4, c4', rfl, g4⟩
    have HG4 := Lib.hid g4
    clear g4 HWd c0 c1 c2 c3 c4
    go_wp2_with fail
    go_meet
    exact ⟨a4, c4', rfl, rfl, HG4⟩
   | false =>
    have hz : ¬ s.n % r = 0 := of_decide_eq_false HZ.out.symm
    have htl : tl = [] := by rw [HTl.out, if_neg hz]
    have hs0 : sh = sh0 := by rw [HSh.out, HSh0.out]; unfold shOf; rw [if_neg hz]
    have ht4 : tn = 0 := by rw [HTn.out, htl]; rfl
    have hg := Gr.refl hpo
    rw [← htl] at hg
    subst ht4 hs0
    have HG4 := Lib.hid hg
    clear htl hz hpo hg c0 c1 c2 c3 c4
    go_wp2_with fail
    go_meet
    exact ⟨ap, cp, rfl, rfl, HG4⟩
  case rest =>
  obtain ⟨ap', cp', rfl, rfl, HG⟩ := hcut
  rename World => X4
  have hne1 : (Value.slice ap np cp).ownBlock ≠ some g := HBd3.out.box.ne HBd3.out.ps
  have hne2 : (Value.slice ae ne ce).ownBlock ≠ some g := HBd3.out.box.ne HBd3.out.es
  have f34 : Fb X3 X4 (fun k => (Value.slice ap np cp).ownBlock = some k) := Fb.of_grown HG.out.grown (fun i h => h)
  have hbx4 : BBox X4 g (r : Int) (s.n : Int) (.slice ae ne ce) (.slice ap np cp) (.slice al nl cl) := HBd3.out.box.fb f34 hne1
  have hes4 : Own X4 B (.slice ae ne ce) s.es.length s.es := HBd3.out.es.fb f34 (fun k hk hp => HBd3.out.ep k hk hp)
  have hla4 : Own X4 B (.slice al nl cl) s.la.length s.la := HBd3.out.la.fb f34 (fun k hk hp => HBd3.out.pl k hp hk)
  have hko4 : Own X4 X.heap.size (.slice (some ⟨gk, 0, none⟩) mk ck) mk K := HKo3.out.fb f34 (fun k hk hp => by have h1 := HLo.out.2.1 k hp; have h2 := (HKo3.out.2.lt k hk).1; have := HXs.out.1; omega)
  have heb4 : EBox X4 w.heap.size e := by
   have h := HEb3.out
   unfold EBox at *
   rw [f34.block _ (Array.getElem?_eq_some_iff.1 h).1 (fun hp => by have := HLo.out.2.1 _ hp; omega)]
   exact h
  have fw4 : Fb w X4 (bO g (.slice ae ne ce) (.slice ap np cp)) := (Fb.of_below HX23.out).trans (f34.mono (fun k _ h => .inr (.inr h)))
  have HBx4 := Lib.hid hbx4
  have HEs4 := Lib.hid hes4
  have HLa4 := Lib.hid hla4
  have HKo4 := Lib.hid hko4
  have HEb4 := Lib.hid heb4
  have HFw4 := Lib.hid fw4
  have HFw4 := Lib.hid fw4
  have HBw4 : Hid (Below B w X4) := fw4.below hB (fun k hk => by
   rcases hk with rfl | hk | hk
   ·exact HBd3.out.bg
   ·exact (HBd3.out.es.2.lt k hk).1
   ·exact (HBd3.out.ps.2.lt k hk).1)
  have hX34 : X3.heap.size ≤ X4.heap.size := HG.out.grown.size
  have HNe := Lib.hid (And.intro hne1 hne2)
  obtain ⟨R, hR⟩ : ∃ R, R = K.drop sh := ⟨_, rfl⟩
  obtain ⟨rl, hrl⟩ : ∃ rl, rl = (recL sh R e.val).length := ⟨_, rfl⟩
  have hv4 : vn ≤ 4096 := by rw [HVn.out]; obtain ⟨_, _, _, _, _, _, _, h, _⟩ := check_facts HC0.out; exact h
  have HRr := Lib.hid hR
  have HRl2 := Lib.hid hrl
  have hrec : Calls Tryz.prog 54 #[.slice ae ne ce, .int .i64 (sh : Int), .slice (some ⟨gk, sh, none⟩) (mk - sh) (ck - sh), .slice a3 vn n3] X4.drew fun z w' => ∃ a' c', z = .returned (.slice a' (ne + rl) c') ∧ Gr X4.drew w' B ne (ne + rl) (.slice ae ne ce) (.slice a' (ne + rl) c') s.es (recL sh R e.val) := by
   rw [hrl]
   have hes5 : Own X4.drew B (.slice ae ne ce) ne s.es := by
    have := hes4.later ((Below.refl _ _).drew)
    rw [← HLn.out.1] at this
    exact this
   refine appendRecord_any hes5 (Nat.le_trans hB HBw4.out.size) (by omega) (by omega) (by omega) (by omega) (fun wx gx => ?_)
   have fx : Fb X4 wx (fun k => (Value.slice ae ne ce).ownBlock = some k) := (Fb.of_below ((Below.refl _ _).drew)).trans (Fb.of_grown gx (fun i h => h))
   have hk5 := hko4.fb fx (fun k hk hp => by have h1 := HLo.out.1 k hp; have h2 := (hko4.2.lt k hk).1; have := HXs.out.1; omega)
   have hrk := hk5.rd HKb.out (by omega)
   refine ⟨?_, ?_⟩
   ·rw [hR]
    have := hrk.sub sh mk (by omega) (Nat.le_refl _) (off' := 0 + sh) (n' := mk - sh) (cap' := ck - sh) rfl rfl rfl
    rw [Nat.zero_add] at this
    have e1 : (K.take mk).drop sh = K.drop sh := by rw [HMk.out, List.take_length]
    rw [e1] at this
    exact this
   ·have := (HOk.out wx (fw4.trans (fx.mono (fun k _ h => .inr (.inl h))))).2.2
    rw [HV.out.1, ← HVn.out] at this
    exact this
  have HRec := Lib.hid hrec
  clear hbx4 hes4 hla4 hko4 heb4 fw4 f34 hne1 hne2 hR hrl hrec
  have sh1 : (sh : Int) < (mk : Int) := by omega
  have sh2 : (sh : Int) ≤ (ck : Int) := by omega
  have sh3 : (0 : Int) ≤ (sh : Int) := by omega
  have sh4 : ¬ ck = sh := by omega
  have sh5 : (sh : Int) ≤ (mk : Int) := by omega
  go_upto_region 9 with fail
  have BD : Fb X4 X4.drew (fun k => (Value.slice ae ne ce).ownBlock = some k) := Fb.of_below ((Below.refl _ _).drew)
  refine wp_region_noPanic ?_
  refine wp_region_held_drew (S := fun wx => Fb X4 wx (fun k => (Value.slice ae ne ce).ownBlock = some k)) (by kernel_rfl) BD (fun hHeld => ?_)
  refine wpAnyH_take (i := 0) (oi := { dst := some 52, op := _, type := _, pos := _, after := _, guard := _ }) (v := .pointer (some ⟨g, 0, none⟩)) rfl (by kernel_rfl) (by kernel_rfl) (by kernel_rfl) (fun _ _ _ h => h) (Or.inl ⟨by kernel_rfl, fun wy hy => by first | (go_simp; done)⟩) (by assumption) ?_
  try simp only [Act.put, List.setIfInBounds_toArray, List.set_cons_zero, List.set_cons_succ]
  refine wpAnyH_take (i := 1) (oi := { dst := some 53, op := _, type := _, pos := _, after := _, guard := _ }) (v := .pointer (some ⟨g, 0, none⟩)) rfl (by kernel_rfl) (by kernel_rfl) (by kernel_rfl) (fun _ _ _ h => h) (Or.inl ⟨by kernel_rfl, fun wy hy => by first | (go_simp; done)⟩) (by assumption) ?_
  try simp only [Act.put, List.setIfInBounds_toArray, List.set_cons_zero, List.set_cons_succ]
  refine wpAnyH_take (i := 2) (oi := { dst := some 54, op := _, type := _, pos := _, after := _, guard := _ }) (v := .pointer (some ⟨g, 2, none⟩)) rfl (by kernel_rfl) (by kernel_rfl) (by kernel_rfl) (fun _ _ _ h => h) (Or.inl ⟨by kernel_rfl, fun wy hy => by first | (go_simp; done)⟩) (by assumption) ?_
  try simp only [Act.put, List.setIfInBounds_toArray, List.set_cons_zero, List.set_cons_succ]
  refine wpAnyH_take (i := 3) (oi := { dst := some 55, op := _, type := _, pos := _, after := _, guard := _ }) (v := .slice ae ne ce) rfl (by kernel_rfl) (by kernel_rfl) (by kernel_rfl) (fun _ _ _ h => h) (Or.inl ⟨by kernel_rfl, fun wy hy => by (obtain ⟨c0, c1, c2, c3, c4⟩ := (HBx4.out.fb hy HNe.out.2).cells; go_simp; done)⟩) (by assumption) ?_
  try simp only [Act.put, List.setIfInBounds_toArray, List.set_cons_zero, List.set_cons_succ]
  refine wpAnyH_take (i := 4) (oi := { dst := some 56, op := _, type := _, pos := _, after := _, guard := _ }) (v := .int .i64 (sh : Int)) rfl (by kernel_rfl) (by kernel_rfl) (by kernel_rfl) (fun _ _ _ h => h) (Or.inl ⟨by kernel_rfl, fun wy hy => by first | (go_simp; done)⟩) (by assumption) ?_
  try simp only [Act.put, List.setIfInBounds_toArray, List.set_cons_zero, List.set_cons_succ]
  refine wpAnyH_take (i := 5) (oi := { dst := some 57, op := _, type := _, pos := _, after := _, guard := _ }) (v := .slice (some ⟨gk, 0, none⟩) mk ck) rfl (by kernel_rfl) (by kernel_rfl) (by kernel_rfl) (fun _ _ _ h => h) (Or.inl ⟨by kernel_rfl, fun wy hy => by first | (go_simp; done)⟩) (by assumption) ?_
  try simp only [Act.put, List.setIfInBounds_toArray, List.set_cons_zero, List.set_cons_succ]
  refine wpAnyH_take (i := 6) (oi := { dst := some 58, op := _, type := _, pos := _, after := _, guard := _ }) (v := .int .i64 (sh : Int)) rfl (by kernel_rfl) (by kernel_rfl) (by kernel_rfl) (fun _ _ _ h => h) (Or.inl ⟨by kernel_rfl, fun wy hy => by first | (go_simp; done)⟩) (by assumption) ?_
  try simp only [Act.put, List.setIfInBounds_toArray, List.set_cons_zero, List.set_cons_succ]
  refine wpAnyH_take (i := 7) (oi := { dst := some 59, op := _, type := _, pos := _, after := _, guard := _ }) (v := .slice (some ⟨gk, sh, none⟩) (mk - sh) (ck - sh)) rfl (by kernel_rfl) (by kernel_rfl) (by kernel_rfl) (fun _ _ _ h => h) (Or.inl ⟨by kernel_rfl, fun wy hy => by (go_simp; done)⟩) (by assumption) ?_
  try simp only [Act.put, List.setIfInBounds_toArray, List.set_cons_zero, List.set_cons_succ]
  refine wpAnyH_take (i := 8) (oi := { dst := some 60, op := _, type := _, pos := _, after := _, guard := _ }) (v := .pointer (some ⟨w.heap.size, 6, none⟩)) rfl (by kernel_rfl) (by kernel_rfl) (by kernel_rfl) (fun _ _ _ h => h) (Or.inl ⟨by kernel_rfl, fun wy hy => by first | (go_simp; done)⟩) (by assumption) ?_
  try simp only [Act.put, List.setIfInBounds_toArray, List.set_cons_zero, List.set_cons_succ]
  refine wpAnyH_take (i := 9) (oi := { dst := some 61, op := _, type := _, pos := _, after := _, guard := _ }) (v := .slice a3 vn n3) rfl (by kernel_rfl) (by kernel_rfl) (by kernel_rfl) (fun _ _ _ h => h) (Or.inl ⟨by kernel_rfl, fun wy hy => by (have x6 := (HEb4.out.fb hy (fun hp => by have := HLo.out.1 _ hp; omega)).vv; rw [HV.out.1, ← HVn.out] at x6; go_simp; done)⟩) (by assumption) ?_
  try simp only [Act.put, List.setIfInBounds_toArray, List.set_cons_zero, List.set_cons_succ]
  refine wpAnyH_ready (rs := [10]) (by kernel_rfl) (by simp) ?_
  refine AllReadyH.cons (o := { dst := some 62, op := _, type := _, pos := _, after := _, guard := _ }) rfl (fun K hK => ?_) AllReadyH.nil
  go_simp
  go_at_call 54
  refine HRec.out.mono ?_
  rintro e1 X5 ⟨ae', ce', rfl, g5⟩
  have f45 : Fb X4 X5 (fun k => (Value.slice ae ne ce).ownBlock = some k) := BD.trans (Fb.of_grown g5.grown (fun i h => h))
  have HF45 := Lib.hid f45
  have HG5 := Lib.hid g5
  have hB5 : Below B X4 X5 := f45.below (Nat.le_trans hB HBw4.out.size) (fun k hk => (HEs4.out.2.lt k hk).1)
  have HB5 := Lib.hid (HBw4.out.trans hB5)
  have HF5 := Lib.hid (HFw4.out.trans (f45.mono (fun k _ h => .inr (.inl h))))
  clear g5 hB5 BD HRec
  go_wp2_with fail
  refine hK.out _ _ f45 (fun hHeld => ?_)
  clear hK K
  try simp only [Act.put, List.setIfInBounds_toArray, List.set_cons_zero, List.set_cons_succ]
  refine wpAnyH_take (i := 11) (oi := { dst := some 9, op := _, type := _, pos := _, after := _, guard := _ }) (v := .slice ae' (ne + rl) ce') rfl (by kernel_rfl) (by kernel_rfl) (by kernel_rfl) (fun _ _ _ h => h) (Or.inl ⟨by kernel_rfl, fun wy hy => by first | (go_simp; done)⟩) (by assumption) ?_
  try simp only [Act.put, List.setIfInBounds_toArray, List.set_cons_zero, List.set_cons_succ]
  refine wpAnyH_done (by kernel_rfl) (NoPanic.normal ?_) _
  clear hHeld f45
  go_simp
  go_step
  have hrl2 : 3 ≤ rl ∧ rl ≤ 8000 := by
   rw [HRl2.out, HRr.out]
   have h1 := uintL_len sh
   have h2 := uintL_len (K.drop sh).length
   have h3 := uintL_len e.val.length
   have h4 : (K.drop sh).length ≤ mk := by rw [List.length_drop, ← HMk.out]; omega
   have h5 := HVn.out
   unfold recL
   simp only [List.length_append]
   omega
  obtain ⟨rl3, rl8⟩ := hrl2
  have HSz := Lib.hid (fun wx => sizeOf_any (a := ae') (b := ap') (n := ne + rl) (m := np + tn) (c := ce') (d := cp') wx (by omega) (by omega))
  obtain ⟨sz, hsz9⟩ : ∃ sz, sz = ne + rl + (np + tn) + 9 := ⟨_, rfl⟩
  rw [← hsz9] at HSz
  have HSz9 := Lib.hid hsz9
  clear hsz9
  have hbx5 := HBx4.out.fb HF45.out HNe.out.2
  have hes5 := HG5.out.old
  have hps5 : Own X5 B (.slice ap np cp) np s.ps := HG.out.old.fb HF45.out (fun k hk hp => HBd3.out.ep k hp hk)
  have hpn5 : Own X5 B (.slice ap' (np + tn) cp') (np + tn) (s.ps ++ tl) := HG.out.new.fb HF45.out (fun k hk hp => by
   rcases HG.out.loc k hk with h | h
   ·exact HBd3.out.ep k hp h
   ·have := HLo.out.1 k hp; have := HX23.out.size; omega)
  have hla5 := HLa4.out.fb HF45.out (fun k hk hp => HBd3.out.el k hp hk)
  have hko5 := HKo4.out.fb HF45.out (fun k hk hp => by have h1 := HLo.out.1 k hp; have h2 := (HKo4.out.2.lt k hk).1; have := HXs.out.1; omega)
  have HFu : Hid (fullB r s K e.val = decide (131072 < ne + rl + (np + tn) + 9)) := by
   unfold Hid fullB esOf
   rw [HPs.out, ← HSh.out, ← HRr.out, List.length_append, List.length_append, ← HRl2.out, ← HTn.out, ← HLn.out.1, ← HLn.out.2.1]
  have HBx5 := Lib.hid hbx5
  have HOld : Hid (Bd X5 B g r s (.slice ae ne ce) (.slice ap np cp) (.slice al nl cl)) := by
   have d := HBd3.out
   exact ⟨hbx5, by rw [← HLn.out.1]; exact hes5, by rw [← HLn.out.2.1]; exact hps5, hla5, d.ep, d.el, d.pl, d.bg, d.size, d.lal, d.few, d.byE, d.byP, d.byL⟩
  clear hbx5 hes5 hps5
  have HPn5 := Lib.hid hpn5
  have HKo5 := Lib.hid hko5
  clear hpn5 hla5 hko5
  go_wp2_with fail
  refine Calls.mono (HSz.out _) ?_
  rintro z Xr ⟨rfl, rfl⟩
  by_cases hfu : 131072 < sz
  ·have hfu2 : decide ((131072 : Int) < (sz : Int)) = true := decide_eq_true (by omega)
   have HEnd := Lib.hid (addN_full (w := w) HC0.out (Int.not_le.2 HLe.out) (by rw [← HK.out, HFu.out, ← HSz9.out]; exact decide_eq_true hfu) HOld.out HB5.out HF5.out)
   clear hfu
   go_wp2
   go_ret
   exact HEnd.out
  ·have hfu2 : decide ((131072 : Int) < (sz : Int)) = false := decide_eq_false (by omega)
   have HFf : Hid (fullB r s (keyL e) e.val = false) := by unfold Hid; rw [← HK.out, HFu.out, ← HSz9.out]; exact decide_eq_false hfu
   have hszl : ne + rl + (np + tn) ≤ 131072 := by have := HSz9.out; omega
   clear hfu
   obtain ⟨c0, c1, c2, c3, c4⟩ := HBx5.out.cells
   have z1 := HBx5.out.fz 1
   have z2 := HBx5.out.fz 2
   have z3 := HBx5.out.fz 3
   have z4 := HBx5.out.fz 4
   have hput := HBx5.out.put3 (.slice ae' (ne + rl) ce') (.slice ap' (np + tn) cp') (.slice (some ⟨gk, 0, none⟩) mk ck)
   obtain ⟨X6, hX6⟩ : ∃ X6, X6 = ((Xr.setCell ⟨g, 2, none⟩ (.slice ae' (ne + rl) ce')).setCell ⟨g, 3, none⟩ (.slice ap' (np + tn) cp')).setCell ⟨g, 4, none⟩ (.slice (some ⟨gk, 0, none⟩) mk ck) := ⟨_, rfl⟩
   rw [← hX6] at hput
   have HX6 := Lib.hid hX6
   have HPut := Lib.hid hput
   clear hX6 hput
   go_upto_region 13 with fail
   rw [← HX6.out]
   clear HX6 c0 c1 c2 c3 c4 z1 z2 z3 z4
   obtain ⟨c0, c1, c2, c3, c4⟩ := HPut.out.1.cells
   have z1 := HPut.out.1.fz 1
   have hput1 := HPut.out.1.put1 ((s.n : Int) + 1)
   obtain ⟨X7, hX7⟩ : ∃ X7, X7 = X6.setCell ⟨g, 1, none⟩ (.int .i64 ((s.n : Int) + 1)) := ⟨_, rfl⟩
   rw [← hX7] at hput1
   have HX7 := Lib.hid hX7
   have f57 : Fb Xr X7 (fun k => k = g) := (Fb.of_grown HPut.out.2 (fun i h => by cases h; rfl)).trans (Fb.of_grown hput1.2 (fun i h => by cases h; rfl))
   have hsn : (s.n : Int) + 1 ≤ 9223372036854775807 := by have := hfew; rw [← HLn.out.1] at this; omega
   have HEnd : Hid (AddN w B g r s e (bO g (.slice ae ne ce) (.slice ap np cp)) (.slice ae ne ce) (.slice ap np cp) (.slice al nl cl) (.returned (.int .i64 0)) X7) := by
    have d := HBd3.out
    have hg5 := HG5.out
    have n1 : ∀ {v : Value} {n : Nat} {xs : List Nat} {B' : Nat}, Own Xr B' v n xs → ∀ k, v.ownBlock = some k → ¬ k = g := fun o k hk z => by subst z; exact HBx5.out.ne o hk
    have he1 : (addB r s (keyL e) e.val).es = s.es ++ recL sh R e.val := by
     unfold addB esOf
     rw [← HK.out, ← HSh.out, ← HRr.out]
    have he2 : (addB r s (keyL e) e.val).ps = s.ps ++ tl := HPs.out
    have he3 : (addB r s (keyL e) e.val).la = K := HK.out.symm
    have l1 : (addB r s (keyL e) e.val).es.length = ne + rl := by rw [he1, List.length_append, ← HRl2.out, ← HLn.out.1]
    have l2 : (addB r s (keyL e) e.val).ps.length = np + tn := by rw [he2, List.length_append, ← HTn.out, ← HLn.out.2.1]
    have hk4 := HKo4.out.2.lt
    have hkey : ∀ k, (Value.slice (some ⟨gk, 0, none⟩) mk ck).ownBlock = some k → X.heap.size ≤ k ∧ k < X3.heap.size := HKo3.out.2.lt
    have hpn : ∀ k, (Value.slice ap' (np + tn) cp').ownBlock = some k → k < w.heap.size ∧ (Value.slice ap np cp).ownBlock = some k ∨ X3.heap.size ≤ k ∧ k < X4.heap.size := fun k hk => by
     rcases HG.out.loc k hk with h | h
     ·exact .inl ⟨HLo.out.2.1 k h, h⟩
     ·exact .inr ⟨h, (HG.out.new.2.lt k hk).2⟩
    have hen : ∀ k, (Value.slice ae' (ne + rl) ce').ownBlock = some k → k < w.heap.size ∧ (Value.slice ae ne ce).ownBlock = some k ∨ X4.heap.size ≤ k := fun k hk => by
     rcases hg5.loc k hk with h | h
     ·exact .inl ⟨HLo.out.1 k h, h⟩
     ·exact .inr h
    have hw3 := HX23.out.size
    have hxs := HXs.out.1
    refine addN_done HC0.out (Int.not_le.2 HLe.out) HFf.out (ve := .slice ae' (ne + rl) ce') (vp := .slice ap' (np + tn) cp') (vl := .slice (some ⟨gk, 0, none⟩) mk ck) ?_ (HB5.out.trans (f57.below (Nat.le_trans hB HB5.out.size) (fun k hk => by subst hk; exact d.bg))) (HF5.out.trans (f57.mono (fun k _ h => .inl h))) ⟨fun k hk => (hen k hk).elim (fun h => .inl h.2) (fun h => .inr (by omega)), fun k hk => (hpn k hk).elim (fun h => .inl h.2) (fun h => .inr (by omega)), fun k hk => .inr (by have := hkey k hk; omega)⟩
    refine ⟨?_, ?_, ?_, ?_, fun k h1 h2 => ?_, fun k h1 h2 => ?_, fun k h1 h2 => ?_, d.bg, by rw [l1, l2]; exact hszl, ?_, ?_, ?_, ?_, ?_⟩
    ·exact hput1.1
    ·rw [l1, he1]
     exact hg5.new.fb f57 (n1 hg5.new)
    ·rw [l2, he2]
     exact HPn5.out.fb f57 (n1 HPn5.out)
    ·rw [he3, ← HMk.out]
     exact ((HKo5.out.fb f57 (n1 HKo5.out)).mono (Nat.le_trans hB (Nat.le_of_lt hxs)))
    ·rcases hen k h1 with h | h <;> rcases hpn k h2 with h' | h'
     ·exact d.ep k h.2 h'.2
     ·omega
     ·omega
     ·omega
    ·have := hkey k h2
     rcases hen k h1 with h | h <;> omega
    ·have := hkey k h2
     rcases hpn k h1 with h | h <;> omega
    ·rw [he3, ← HMk.out]; omega
    ·rw [l1]
     show s.n + 1 ≤ ne + rl
     have := d.few
     rw [← HLn.out.1] at this
     omega
    ·rw [he1]
     have hbR : Bys R := by rw [HRr.out]; exact fun x hx => HKb.out x (List.mem_of_mem_drop hx)
     have hR2 : R.length ≤ mk := by rw [HRr.out, List.length_drop, ← HMk.out]; omega
     unfold recL
     exact Bys.app d.byE (Bys.app (uintL_bys _ (by omega)) (Bys.app (uintL_bys _ (by omega)) (Bys.app hbR (Bys.app (uintL_bys _ (by have := HVn.out; omega)) HVb.out))))
    ·rw [he2, HTl.out]
     refine Bys.app d.byP ?_
     split
     ·intro x hx
      simp [be4] at hx
      omega
     ·intro x hx; simp at hx
    ·rw [he3]
     exact HKb.out
   clear f57 hput1 hX7 HPut
   go_wp2
   rw [← HX7.out]
   go_ret
   exact HEnd.out
 ·have hc1 : ¬ (E : Int) = 0 := by omega
  have HEnd : Hid (AddN w B g r s e (bO g (.slice ae ne ce) (.slice ap np cp)) (.slice ae ne ce) (.slice ap np cp) (.slice al nl cl) (.returned (.int .i64 (E : Int))) X1) := by
   have := addN_bad (w := w) (by rw [← HC.out]; exact hc0) HBd1.out HBw.out (HFw.out (bO g (.slice ae ne ce) (.slice ap np cp)))
   rw [← HC.out] at this
   exact this
  go_wp2
  go_ret
  exact HEnd.out
end Go.Proofs.YtchebhafabhabaaGreatDoor

namespace Go.Proofs.YtchebhafabhabaaGreatDoor
open Go.RowKit
set_option linter.unusedVariables false

theorem und_bptrs : Tryz.prog.underlying 84 = some (.slice 25) := by kernel_rfl
theorem info_bptrs : (Tryz.prog.info? 25).map (fun i => (i.zero, i.size, i.bytes)) = some (some (.pointer none), 1, 8) := by kernel_rfl
def BuI (w : World) (J : Nat → Prop) (r : Nat) (s : Bs) (p : Value) : Prop := ∃ g ve vp vl, p = .pointer (some ⟨g, 0, none⟩) ∧ Bd w 0 g r s ve vp vl ∧ ∀ k, (bO g ve vp k ∨ vl.ownBlock = some k) → J k
def OpX (w : World) (J : Nat → Prop) (r : Nat) (zs : List EntD) (s : Bs) (p : Value) : Prop := ∃ g b ne ce np cp, p = .pointer (some ⟨g, 0, none⟩) ∧ Lk w 0 g r (kvL zs).length b ne ce s.es s.ps np cp ∧ J g ∧ J b
theorem BuI.fb {w w' : World} {J O : Nat → Prop} {r : Nat} {s : Bs} {p : Value} (h : BuI w J r s p) (f : Fb w w' O) (hn : ∀ k, J k → ¬ O k) : BuI w' J r s p := by
 obtain ⟨g, ve, vp, vl, h1, h2, h3⟩ := h
 exact ⟨g, ve, vp, vl, h1, h2.fbN f (fun k hk => hn k (h3 k hk)), h3⟩
theorem BuI.mono {w : World} {J J' : Nat → Prop} {r : Nat} {s : Bs} {p : Value} (h : BuI w J r s p) (k : ∀ i, J i → J' i) : BuI w J' r s p := by
 obtain ⟨g, ve, vp, vl, h1, h2, h3⟩ := h
 exact ⟨g, ve, vp, vl, h1, h2, fun i hi => k i (h3 i hi)⟩
theorem OpX.fb {w w' : World} {J O : Nat → Prop} {r : Nat} {zs : List EntD} {s : Bs} {p : Value} (h : OpX w J r zs s p) (f : Fb w w' O) (hn : ∀ k, J k → ¬ O k) : OpX w' J r zs s p := by
 obtain ⟨g, b, ne, ce, np, cp, h1, h2, h3, h4⟩ := h
 exact ⟨g, b, ne, ce, np, cp, h1, ⟨h2.box.fb f (hn _ h3), h2.ents.fb f (hn _ h4), h2.pls.fb f (hn _ h4), h2.bg, h2.bb, h2.ne⟩, h3, h4⟩
theorem OpX.mono {w : World} {J J' : Nat → Prop} {r : Nat} {zs : List EntD} {s : Bs} {p : Value} (h : OpX w J r zs s p) (k : ∀ i, J i → J' i) : OpX w J' r zs s p := by
 obtain ⟨g, b, ne, ce, np, cp, h1, h2, h3, h4⟩ := h
 exact ⟨g, b, ne, ce, np, cp, h1, h2, k _ h3, k _ h4⟩
structure L1S (V1 wr : World) (r : Nat) (zs : List EntD) (s : Bs) (vb vx : Value) (nb nx : Nat) (ps xs : List Value) (J : Nat → Prop) : Prop where
 bel : Below V1.heap.size V1 wr
 rb : wr.ownsRow V1.heap.size 25 1 vb nb ps
 rx : wr.ownsRow V1.heap.size 58 1 vx nx xs
 ib : ∀ p ∈ ps, BuI wr J r s p
 ix : ∀ p ∈ xs, OpX wr J r zs s p
 lo : ∀ k, J k → V1.heap.size ≤ k ∧ k < wr.heap.size
 nb_ : ∀ k, vb.ownBlock = some k → ¬ J k
 nx_ : ∀ k, vx.ownBlock = some k → ¬ J k ∧ vb.ownBlock ≠ some k
theorem L1S.later {V1 wr w' : World} {r nb nx : Nat} {zs : List EntD} {s : Bs} {vb vx : Value} {ps xs : List Value} {J : Nat → Prop} (h : L1S V1 wr r zs s vb vx nb nx ps xs J) (b : Below wr.heap.size wr w') : L1S V1 w' r zs s vb vx nb nx ps xs J :=
 ⟨h.bel.trans (b.mono h.bel.size), row_same5 h.rb (fun k hk => b.block k (h.rb.lt k hk).2), row_same5 h.rx (fun k hk => b.block k (h.rx.lt k hk).2), fun p hp => (h.ib p hp).fb (O := fun _ => False) (Fb.of_below b) (fun _ _ h => h), fun p hp => (h.ix p hp).fb (O := fun _ => False) (Fb.of_below b) (fun _ _ h => h), fun k hk => ⟨(h.lo k hk).1, Nat.lt_of_lt_of_le (h.lo k hk).2 b.size⟩, h.nb_, h.nx_⟩
theorem L1S.more {V1 wr : World} {r nb nx B : Nat} {zs : List EntD} {s : Bs} {vb vx : Value} {ps xs : List Value} {J : Nat → Prop} (h : L1S V1 wr r zs s vb vx nb nx ps xs J) (hB : V1.heap.size ≤ B) (hr : ∀ k, vb.ownBlock = some k ∨ vx.ownBlock = some k → k < B) : L1S V1 wr r zs s vb vx nb nx ps xs (fun k => J k ∨ (B ≤ k ∧ k < wr.heap.size)) :=
 ⟨h.bel, h.rb, h.rx, fun p hp => (h.ib p hp).mono (fun _ k => .inl k), fun p hp => (h.ix p hp).mono (fun _ k => .inl k), fun k hk => by
  rcases hk with hk | hk
  ·exact h.lo k hk
  ·exact ⟨by omega, hk.2⟩, fun k hk e => by
  rcases e with e | e
  ·exact h.nb_ k hk e
  ·have := hr k (.inl hk); omega, fun k hk => ⟨fun e => by
  rcases e with e | e
  ·exact (h.nx_ k hk).1 e
  ·have := hr k (.inr hk); omega, (h.nx_ k hk).2⟩⟩
theorem L1S.pushB {V1 wr w' : World} {r nb nx : Nat} {zs : List EntD} {s : Bs} {vb vx vb' p : Value} {ps xs : List Value} {J : Nat → Prop} (h : L1S V1 wr r zs s vb vx nb nx ps xs J) (hp : BuI wr J r s p) (g : wr.grownBy w' vb.ownBlock) (rb' : w'.ownsRow V1.heap.size 25 1 vb' (nb + 1) (ps ++ [p])) (loc : vb'.ownBlock = vb.ownBlock ∨ vb'.ownBlock = some wr.heap.size) : L1S V1 w' r zs s vb' vx (nb + 1) nx (ps ++ [p]) xs J := by
 have f : Fb wr w' (fun k => vb.ownBlock = some k) := Fb.of_grown g (fun i e => e)
 have hJ : ∀ k, J k → ¬ vb.ownBlock = some k := fun k hk e => h.nb_ k e hk
 refine ⟨h.bel.trans (f.belowB (fun k e => (h.rb.lt k e).1) h.bel.size), rb', row_same5 h.rx (fun k hk => f.block k (h.rx.lt k hk).2 (h.nx_ k hk).2), fun q hq => ?_, fun q hq => (h.ix q hq).fb f hJ, fun k hk => ⟨(h.lo k hk).1, Nat.lt_of_lt_of_le (h.lo k hk).2 f.size⟩, fun k hk => ?_, fun k hk => ⟨(h.nx_ k hk).1, ?_⟩⟩
 ·rcases List.mem_append.1 hq with hq | hq
  ·exact (h.ib q hq).fb f hJ
  ·rw [List.mem_singleton.1 hq]; exact hp.fb f hJ
 ·rcases loc with e | e
  ·rw [e] at hk; exact h.nb_ k hk
  ·rw [e] at hk
   simp only [Option.some.injEq] at hk
   subst hk
   intro hj
   have := (h.lo _ hj).2
   omega
 ·rcases loc with e | e
  ·rw [e]; exact (h.nx_ k hk).2
  ·rw [e]
   intro hh
   simp only [Option.some.injEq] at hh
   have := (h.rx.lt k hk).2
   omega
theorem L1S.pushX {V1 wr w' : World} {r nb nx : Nat} {zs : List EntD} {s : Bs} {vb vx vx' p : Value} {ps xs : List Value} {J : Nat → Prop} (h : L1S V1 wr r zs s vb vx nb nx ps xs J) (hp : OpX wr J r zs s p) (g : wr.grownBy w' vx.ownBlock) (rx' : w'.ownsRow V1.heap.size 58 1 vx' (nx + 1) (xs ++ [p])) (loc : vx'.ownBlock = vx.ownBlock ∨ vx'.ownBlock = some wr.heap.size) : L1S V1 w' r zs s vb vx' nb (nx + 1) ps (xs ++ [p]) J := by
 have f : Fb wr w' (fun k => vx.ownBlock = some k) := Fb.of_grown g (fun i e => e)
 have hJ : ∀ k, J k → ¬ vx.ownBlock = some k := fun k hk e => (h.nx_ k e).1 hk
 refine ⟨h.bel.trans (f.belowB (fun k e => (h.rx.lt k e).1) h.bel.size), row_same5 h.rb (fun k hk => f.block k (h.rb.lt k hk).2 (fun e => (h.nx_ k e).2 hk)), rx', fun q hq => (h.ib q hq).fb f hJ, fun q hq => ?_, fun k hk => ⟨(h.lo k hk).1, Nat.lt_of_lt_of_le (h.lo k hk).2 f.size⟩, h.nb_, fun k hk => ?_⟩
 ·rcases List.mem_append.1 hq with hq | hq
  ·exact (h.ix q hq).fb f hJ
  ·rw [List.mem_singleton.1 hq]; exact hp.fb f hJ
 ·rcases loc with e | e
  ·rw [e] at hk; exact h.nx_ k hk
  ·rw [e] at hk
   simp only [Option.some.injEq] at hk
   subst hk
   refine ⟨fun hj => ?_, fun hh => ?_⟩
   ·have := (h.lo _ hj).2; omega
   ·have := (h.rb.lt _ hh).2; omega
theorem l1s_nil {V1 : World} {r : Nat} {zs : List EntD} {s : Bs} : L1S V1 V1 r zs s (.slice none 0 0) (.slice none 0 0) 0 0 [] [] (fun _ => False) :=
 ⟨Below.refl _ _, ⟨rfl, .inl ⟨rfl, rfl⟩⟩, ⟨rfl, .inl ⟨rfl, rfl⟩⟩, fun p hp => (List.not_mem_nil hp).elim, fun p hp => (List.not_mem_nil hp).elim, fun k hk => hk.elim, (fun k hk => by cases hk), (fun k hk => by cases hk)⟩
def AdI (w wr : World) (g r : Nat) (zs : List EntD) (k : Nat) : Prop := ∃ s ve vp vl, Bd wr w.heap.size g r s ve vp vl ∧ bldS r Bs.zero (zs.take k) = (0, s) ∧ Below w.heap.size w wr
theorem AdI.adds {w wr : World} {g r k : Nat} {zs : List EntD} {e : EntD} {s0 : Bs} (h : AdI w wr g r zs k) (hr : 1 ≤ r ∧ r ≤ 16) (he : zs[k]? = some e) (ho : EntD.Ok w e) (hb : bldS r Bs.zero zs = (0, s0)) :
  Calls Tryz.prog 12 #[.pointer (some ⟨g, 0, none⟩), .agg e.cells] wr fun x w' => x = .returned (.int .i64 0) ∧ AdI w w' g r zs (k + 1) := by
 obtain ⟨s, ve, vp, vl, h1, h2, h3⟩ := h
 have hbO : ∀ j, bO g ve vp j → w.heap.size ≤ j := fun j hj => by
  rcases hj with hj | hj | hj
  ·rw [hj]; exact h1.bg
  ·exact (h1.es.2.lt j hj).1
  ·exact (h1.ps.2.lt j hj).1
 refine (addN_any h1 hr h3.size (fun wx f => ho.later (h3.trans (f.belowB hbO h3.size)))).mono ?_
 rintro x w' ⟨rfl, ⟨ve', vp', vl', hd, -⟩, b1, -⟩
 have h0 : (addE r s e).1 = 0 := by
  rcases Nat.eq_zero_or_pos (addE r s e).1 with k0 | k0
  ·exact k0
  ·have := bldS_fail r zs k he h2 (c := (addE r s e).1) (by omega) rfl
   rw [hb] at this
   simp only at this
   omega
 refine ⟨by rw [h0]; rfl, (addE r s e).2, ve', vp', vl', hd, ?_, h3.trans b1⟩
 have e2 : addE r s e = (0, (addE r s e).2) := Prod.ext h0 rfl
 have := bldS_snoc r (zs.take k) Bs.zero h2 e2
 rw [List.take_add_one, he]
 exact this
end Go.Proofs.YtchebhafabhabaaGreatDoor
