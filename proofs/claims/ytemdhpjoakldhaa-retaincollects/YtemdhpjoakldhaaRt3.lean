import Derived.Test.YtemdhpjoakldhaaJ09
import Derived.Deep.RegionHeld3
import Derived.Deep.DeepCutAuto
namespace Go.Proofs.Ytemdhpjoakldhaa
open Go.RowKit
set_option linter.unusedVariables false
variable {W0 W : World} {wb g rb : Nat} {fv : Value} {fs : List FamD} {clock : Int} {T : World → (Nat → Prop) → List Vd → Prop} {O : Nat → Prop} {s : SpD} {vs : List Vd} {e : EntD}

set_option maxRecDepth 100000 in
set_option maxHeartbeats 4000000 in
theorem stretch_any (ht : Teller g rb T) (h : Wk W0 wb g rb fv fs clock T W O s vs) (he : EntD.Ok W e) (hf : Fit fs.length e.dat) (hv : vs.length < 1353245080339) :
    Calls Try.prog 67 #[.pointer (some ⟨wb, 0, none⟩), .agg e.cells] W fun r W' => r = .returned (.tuple #[]) ∧ ∃ O' s', Wk W0 wb g rb fv fs clock T W' O' s' (vs ++ [(stretchS s.dat e.dat).1]) ∧ s'.dat = (stretchS s.dat e.dat).2 ∧ s'.last = s.last := by
  have A := (Below.refl W.heap.size W).alloc (Nat.le_refl _) (.cells e.cells 38)
  have eb := EBox.new W e
  have h1 := h.later ht A
  have he1 := he.later A
  obtain ⟨X, hX⟩ : ∃ X, X = W.alloc (.cells e.cells 38) := ⟨_, rfl⟩
  rw [← hX] at eb h1 he1
  have HX := Lib.hid hX
  have HT := Lib.hid ht
  have HF := Lib.hid hf
  have HU : Hid (∀ Z, Below X.heap.size X Z → Wk W0 wb g rb fv fs clock T Z O s vs ∧ EBox Z W.heap.size e ∧ EntD.Ok Z e) := fun Z b => ⟨h1.later ht b, eb.later b, he1.later b⟩
  have eg := ht.enters
  have D0 : Below X.heap.size X X.drew := (Below.refl _ _).drew
  have hne : wb ≠ W.heap.size := by have := h.wlow; have := h.fr.1; omega
  have hmk : 0 ≤ s.mask := h.mask.1
  have hne' : W.heap.size ≠ wb := hne.symm
  have HQ : Hid (¬ O W.heap.size) := h.fresh ht (Nat.le_refl _)
  obtain ⟨qb, hqb⟩ : ∃ q, q = W.heap.size := ⟨_, rfl⟩
  have hqb' := hqb.symm
  rw [← hqb] at HU hne HQ hne'
  unfold EntD.cells at HX ⊢
  clear ht h he hf A hX eb h1 he1 hqb
  have x3 := (HU.out _ D0).2.1.ts
  have y12 := (HU.out _ D0).1.box.c12
  go_enter Try.func67, Try.ntmps67
  by_cases hm : e.ts ≤ s.mask
  · go_wp2_with fail
    rw [← HX.out]
    (try rw [hqb'])
    clear hqb'
    go_region_held3 (fun Z => Z.cell? ⟨qb, 3, none⟩ = some (.int .i64 e.ts) ∧ Z.cell? ⟨wb, 12, none⟩ = some (.int .i64 s.mask)) (first | exact ⟨x3, y12⟩) (fail)
    clear x3 y12
    have D1 : Below X.heap.size X X.drew.drew := D0.drew
    have HC := Lib.hid (HT.out.say 8 0 (HU.out _ D1).1.tell (HU.out _ D1).2.2 HF.out hv)
    have z2 := (HU.out _ D1).1.box.c2
    have ze := (HU.out _ D1).2.1.cells7
    unfold vdV at HC
    go_wp2_with fail
    go_region_held3 (fun Z => Z.cell? ⟨wb, 2, none⟩ = some (.func (.func g) #[.pointer (some ⟨rb, 0, none⟩)] #[]) ∧ Z.cell? ⟨qb, 0, none⟩ = some e.vr ∧ Z.cell? ⟨qb, 1, none⟩ = some (.int .i64 e.fam) ∧ Z.cell? ⟨qb, 2, none⟩ = some e.vq ∧ Z.cell? ⟨qb, 3, none⟩ = some (.int .i64 e.ts) ∧ Z.cell? ⟨qb, 4, none⟩ = some (.int .i64 e.seq) ∧ Z.cell? ⟨qb, 5, none⟩ = some (.int .i64 e.kind) ∧ Z.cell? ⟨qb, 6, none⟩ = some e.vv) (first | exact ⟨K2.box.c2, eb2.cells7⟩ | exact ⟨z2, ze⟩) ((refine Calls.mono HC.out ?_; rintro z X2 ⟨rfl, O2, t2, f2⟩; have K2 := (HU.out _ D1).1.told t2 f2; have eb2 := f2.ebox HQ.out (HU.out _ D1).2.1))
    have HK := Lib.hid K2
    clear K2 eb2 t2 f2 z2 ze D0 D1
    go_wp2
    refine bodyPost_ret (results_none rfl _ _ _) rfl ?_
    refine ⟨rfl, O2, s, ?_, ?_, rfl⟩
    · have e1 : (stretchS s.dat e.dat).1 = ⟨e.dat, 8, 0⟩ := by unfold stretchS; rw [if_pos (show e.dat.ts ≤ s.dat.mask from hm)]
      rw [e1]; exact HK.out
    · unfold stretchS; rw [if_pos (show e.dat.ts ≤ s.dat.mask from hm)]
  · go_wp2_with fail
    rw [← HX.out]
    (try rw [hqb'])
    clear hqb'
    go_region_held3 (fun Z => Z.cell? ⟨qb, 3, none⟩ = some (.int .i64 e.ts) ∧ Z.cell? ⟨wb, 12, none⟩ = some (.int .i64 s.mask)) (first | exact ⟨x3, y12⟩) (fail)
    clear x3 y12
    have hS1 : (stretchS s.dat e.dat).1 = ⟨e.dat, 7, 0⟩ := by unfold stretchS; rw [if_neg (show ¬ e.dat.ts ≤ s.dat.mask from Int.not_le.2 hm)]
    have hS2 : (stretchS s.dat e.dat).2 = { s.dat with mask := e.ts, family := if e.kind = 5 then e.ts else s.family } := by unfold stretchS; rw [if_neg (show ¬ e.dat.ts ≤ s.dat.mask from Int.not_le.2 hm)]; rfl
    have HS := Lib.hid (And.intro hS1 hS2)
    clear hS1 hS2
    have ts2 : 1 ≤ e.ts := HF.out.ts0
    have u := HU.out X (Below.refl _ _)
    have x3 := u.2.1.ts
    have f12 := u.1.box.fz 12
    have y12 := u.1.box.c12
    have hG : X.grownBy ((X.setCell ⟨wb, 12, none⟩ (.int .i64 e.ts)).drew) (some wb) := (grown1 _ _ _ _).drew
    have K1 := u.1.put HT.out (W' := (X.setCell ⟨wb, 12, none⟩ (.int .i64 e.ts)).drew) (u.1.box.setMask e.ts) hG rfl u.1.rank ⟨by show 0 ≤ e.ts; omega, u.1.mask.2⟩ u.1.wait
    have E1 : EBox ((X.setCell ⟨wb, 12, none⟩ (.int .i64 e.ts)).drew) qb e := (hG.block qb (Array.getElem?_eq_some_iff.1 u.2.1).1 (fun k => hne (by cases k; rfl))).trans u.2.1
    have O1 := u.1.ent u.2.2 hG
    obtain ⟨Y, hY⟩ : ∃ Y, Y = (X.setCell ⟨wb, 12, none⟩ (.int .i64 e.ts)).drew := ⟨_, rfl⟩
    rw [← hY] at K1 E1 O1
    have HY := Lib.hid hY
    clear hY hG u
    go_upto_region 4 with fail
    rw [← HY.out]
    have HK1 := Lib.hid K1
    have HE1 := Lib.hid E1
    have HO1 := Lib.hid O1
    clear x3 f12 y12 K1 E1 O1 HU HY HX
    have x3 := HE1.out.ts
    have x5 := HE1.out.kind
    have f11 := HK1.out.box.fz 11
    have y11 := HK1.out.box.c11
    have HKd : Hid (e.kind = 5 ∨ ¬ e.kind = 5) := Decidable.em _
    rcases HKd.out with hk | hk
    · have hkb : (e.kind == 5) = true := by simp [hk]
      have HKk := Lib.hid hk
      clear hk HKd
      have hG : Y.grownBy (Y.setCell ⟨wb, 11, none⟩ (.int .i64 e.ts)) (some wb) := grown1 _ _ _ _
      have K2 := HK1.out.put HT.out (HK1.out.box.setFamily e.ts) hG rfl HK1.out.rank ⟨HK1.out.mask.1, by show 0 ≤ e.ts; omega⟩ HK1.out.wait
      have E2 : EBox (Y.setCell ⟨wb, 11, none⟩ (.int .i64 e.ts)) qb e := (hG.block qb (Array.getElem?_eq_some_iff.1 HE1.out).1 (fun k => hne (by cases k; rfl))).trans HE1.out
      have O2 := HK1.out.ent HO1.out hG
      obtain ⟨V, hV⟩ : ∃ V, V = Y.setCell ⟨wb, 11, none⟩ (.int .i64 e.ts) := ⟨_, rfl⟩
      rw [← hV] at K2 E2 O2
      have HV := Lib.hid hV
      clear hV hG
      go_upto_region 6 with fail
      rw [← HV.out]
      have D2 : Below V.heap.size V V.drew := (Below.refl _ _).drew
      have HC := Lib.hid (HT.out.say 7 0 (K2.later HT.out D2).tell (O2.later D2) HF.out hv)
      have HK2 := Lib.hid (K2.later HT.out D2)
      have HE2 := Lib.hid (E2.later D2)
      clear x3 x5 f11 y11 K2 E2 O2 HK1 HE1 HO1 HV
      have z2 := HK2.out.box.c2
      have ze := HE2.out.cells7
      unfold vdV at HC
      go_region_held3 (fun Z => Z.cell? ⟨wb, 2, none⟩ = some (.func (.func g) #[.pointer (some ⟨rb, 0, none⟩)] #[]) ∧ Z.cell? ⟨qb, 0, none⟩ = some e.vr ∧ Z.cell? ⟨qb, 1, none⟩ = some (.int .i64 e.fam) ∧ Z.cell? ⟨qb, 2, none⟩ = some e.vq ∧ Z.cell? ⟨qb, 3, none⟩ = some (.int .i64 e.ts) ∧ Z.cell? ⟨qb, 4, none⟩ = some (.int .i64 e.seq) ∧ Z.cell? ⟨qb, 5, none⟩ = some (.int .i64 e.kind) ∧ Z.cell? ⟨qb, 6, none⟩ = some e.vv) (first | exact ⟨K3.box.c2, eb3.cells7⟩ | exact ⟨z2, ze⟩) ((refine Calls.mono HC.out ?_; rintro z X2 ⟨rfl, O2, t2, f2⟩; have K3 := HK2.out.told t2 f2; have eb3 := f2.ebox HQ.out HE2.out))
      have HK := Lib.hid K3
      clear K3 eb3 t2 f2 z2 ze D2
      go_wp2
      go_end0
      refine ⟨rfl, O2, ⟨s.begun, s.last, e.ts, e.ts, s.rank, s.waiting, s.seq⟩, ?_, ?_, ?_⟩
      · rw [HS.out.1]; exact HK.out
      · rw [HS.out.2, if_pos HKk.out]; rfl
      · rfl
    · have hkb : (e.kind == 5) = false := by simp [hk]
      have HKk := Lib.hid hk
      clear hk HKd
      go_upto_region 6 with fail
      have D2 : Below Y.heap.size Y Y.drew := (Below.refl _ _).drew
      have HC := Lib.hid (HT.out.say 7 0 (HK1.out.later HT.out D2).tell (HO1.out.later D2) HF.out hv)
      have HK2 := Lib.hid (HK1.out.later HT.out D2)
      have HE2 := Lib.hid (HE1.out.later D2)
      clear x3 x5 f11 y11 HK1 HE1 HO1
      have z2 := HK2.out.box.c2
      have ze := HE2.out.cells7
      unfold vdV at HC
      go_region_held3 (fun Z => Z.cell? ⟨wb, 2, none⟩ = some (.func (.func g) #[.pointer (some ⟨rb, 0, none⟩)] #[]) ∧ Z.cell? ⟨qb, 0, none⟩ = some e.vr ∧ Z.cell? ⟨qb, 1, none⟩ = some (.int .i64 e.fam) ∧ Z.cell? ⟨qb, 2, none⟩ = some e.vq ∧ Z.cell? ⟨qb, 3, none⟩ = some (.int .i64 e.ts) ∧ Z.cell? ⟨qb, 4, none⟩ = some (.int .i64 e.seq) ∧ Z.cell? ⟨qb, 5, none⟩ = some (.int .i64 e.kind) ∧ Z.cell? ⟨qb, 6, none⟩ = some e.vv) (first | exact ⟨K3.box.c2, eb3.cells7⟩ | exact ⟨z2, ze⟩) ((refine Calls.mono HC.out ?_; rintro z X2 ⟨rfl, O2, t2, f2⟩; have K3 := HK2.out.told t2 f2; have eb3 := f2.ebox HQ.out HE2.out))
      have HK := Lib.hid K3
      clear K3 eb3 t2 f2 z2 ze D2
      go_wp2
      go_end0
      refine ⟨rfl, O2, ⟨s.begun, s.last, s.family, e.ts, s.rank, s.waiting, s.seq⟩, ?_, ?_, ?_⟩
      · rw [HS.out.1]; exact HK.out
      · rw [HS.out.2, if_neg HKk.out]; rfl
      · rfl
end Go.Proofs.Ytemdhpjoakldhaa
