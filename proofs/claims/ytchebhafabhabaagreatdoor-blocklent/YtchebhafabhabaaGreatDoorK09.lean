import Derived.Test.YtchebhafabhabaaGreatDoorK08
import Derived.Deep.DeepCutAuto
import Derived.Shelf.Abstract
namespace Go.Proofs.YtchebhafabhabaaGreatDoor
open Go.RowKit
set_option linter.unusedVariables false

set_option maxRecDepth 100000 in
set_option maxHeartbeats 1000000 in
theorem appendWordG_any {w : World} {B m c : Nat} {a : Option Addr} {acc : List Nat} (n : Nat) (hn : n < 4294967296) (ho : Own w B (.slice a m c) m acc) (hB : B ≤ w.heap.size) (hm : m ≤ 1000000000) :
  Calls Tryz.prog 53 #[.slice a m c, .int .i64 (n : Int)] w fun e w' => ∃ a' c', e = .returned (.slice a' (m + 4) c') ∧ Gr w w' B m (m + 4) (.slice a m c) (.slice a' (m + 4) c') acc (be4 n) := by
 have HO := Lib.hid ho
 clear ho
 go_enter Tryz.func53, Tryz.ntmps53
 go_wp2_with (at_builtin; refine wpList_append_lit rfl _ _ rfl B _ _ 4 _ _ (be4 n) _ (by simp [bv, be4]) rfl (by decide) rfl rfl HO.out (by omega) hB ?_)
 intro a2 c2 x2 g2
 have G1 := Lib.hid g2
 clear g2
 go_wp2
 go_ret
 exact ⟨a2, c2, rfl, G1.out⟩

structure Bs where
 n : Nat
 es : List Nat
 ps : List Nat
 la : List Nat
def Bs.zero : Bs := ⟨0, [], [], []⟩
def shOf (r : Nat) (s : Bs) (key : List Nat) : Nat := if s.n % r = 0 then 0 else comL s.la key
def psOf (r : Nat) (s : Bs) : List Nat := if s.n % r = 0 then s.ps ++ be4 s.es.length else s.ps
def esOf (r : Nat) (s : Bs) (key val : List Nat) : List Nat := s.es ++ recL (shOf r s key) (key.drop (shOf r s key)) val
def addB (r : Nat) (s : Bs) (key val : List Nat) : Bs := ⟨s.n + 1, esOf r s key val, psOf r s, key⟩
def fullB (r : Nat) (s : Bs) (key val : List Nat) : Bool := decide (131072 < (esOf r s key val).length + (psOf r s).length + 9)
structure Fb (w w' : World) (O : Nat → Prop) : Prop where
 os : w'.os = w.os
 tape : w'.tape = w.tape
 output : w'.output = w.output
 size : w.heap.size ≤ w'.heap.size
 block : ∀ k, k < w.heap.size → ¬ O k → w'.heap[k]? = w.heap[k]?
theorem Fb.refl (w : World) (O : Nat → Prop) : Fb w w O := ⟨rfl, rfl, rfl, Nat.le_refl _, fun _ _ _ => rfl⟩
theorem Fb.trans {w w' w2 : World} {O : Nat → Prop} (h : Fb w w' O) (k : Fb w' w2 O) : Fb w w2 O := ⟨k.os.trans h.os, k.tape.trans h.tape, k.output.trans h.output, Nat.le_trans h.size k.size, fun i hi ho => (k.block i (Nat.lt_of_lt_of_le hi h.size) ho).trans (h.block i hi ho)⟩
theorem Fb.mono {w w' : World} {O O' : Nat → Prop} (h : Fb w w' O) (k : ∀ i, i < w.heap.size → O i → O' i) : Fb w w' O' := ⟨h.os, h.tape, h.output, h.size, fun i hi ho => h.block i hi (fun z => ho (k i hi z))⟩
theorem Fb.of_below {w w' : World} {O : Nat → Prop} (h : Below w.heap.size w w') : Fb w w' O := ⟨h.os, h.tape, h.output, h.size, fun i hi _ => h.block i hi⟩
theorem Fb.of_grown {w w' : World} {O : Nat → Prop} {row : Option Nat} (h : w.grownBy w' row) (k : ∀ i, row = some i → O i) : Fb w w' O := ⟨h.os, h.tape, h.output, h.size, fun i hi ho => h.block i hi (fun z => ho (k i z.symm))⟩
theorem Fb.below {w w' : World} {O : Nat → Prop} {B : Nat} (h : Fb w w' O) (hB : B ≤ w.heap.size) (k : ∀ i, O i → B ≤ i) : Below B w w' := ⟨h.os, h.tape, h.output, h.size, fun i hi => h.block i (by omega) (fun z => by have := k i z; omega)⟩
theorem Own.fb {w w' : World} {O : Nat → Prop} {B n : Nat} {v : Value} {xs : List Nat} (h : Own w B v n xs) (f : Fb w w' O) (k : ∀ i, v.ownBlock = some i → ¬ O i) : Own w' B v n xs := by
 refine ⟨h.1, h.2.1, ?_⟩
 rcases h.2.2 with h2 | ⟨g, cap, cur, h3, h4, h5, h6⟩
 ·exact .inl h2
 ·exact .inr ⟨g, cap, cur, h3, h4, by rw [f.block g (Array.getElem?_eq_some_iff.1 h5).1 (k g (by rw [h3]; rfl))]; exact h5, h6⟩
theorem BBox.fb {w w' : World} {O : Nat → Prop} {g : Nat} {r n : Int} {ve vp vl : Value} (h : BBox w g r n ve vp vl) (f : Fb w w' O) (k : ¬ O g) : BBox w' g r n ve vp vl := by
 unfold BBox at *
 rw [f.block g (Array.getElem?_eq_some_iff.1 h).1 k]
 exact h
def Apb (u v : Value) : Prop := ∀ k, u.ownBlock = some k → v.ownBlock ≠ some k
structure Bd (w : World) (B g r : Nat) (s : Bs) (ve vp vl : Value) : Prop where
 box : BBox w g (r : Int) (s.n : Int) ve vp vl
 es : Own w B ve s.es.length s.es
 ps : Own w B vp s.ps.length s.ps
 la : Own w B vl s.la.length s.la
 ep : Apb ve vp
 el : Apb ve vl
 pl : Apb vp vl
 bg : B ≤ g
 size : s.es.length + s.ps.length ≤ 131072
 lal : s.la.length ≤ 100000
 few : s.n ≤ s.es.length
 byE : Bys s.es
 byP : Bys s.ps
 byL : Bys s.la
theorem BBox.ne {w : World} {g B n : Nat} {r m : Int} {ve vp vl v : Value} {xs : List Nat} (h : BBox w g r m ve vp vl) (o : Own w B v n xs) : v.ownBlock ≠ some g := fun z => by
 rcases o.2.2 with ⟨h1, _⟩ | ⟨g', cap, cur, h1, _, h3, _⟩
 ·rw [h1] at z; cases z
 ·rw [h1] at z
  cases z
  unfold BBox at h
  rw [h3] at h
  cases h
def bO (g : Nat) (ve vp : Value) (k : Nat) : Prop := k = g ∨ ve.ownBlock = some k ∨ vp.ownBlock = some k
end Go.Proofs.YtchebhafabhabaaGreatDoor

namespace Go.Proofs.YtchebhafabhabaaGreatDoor
open Go.RowKit
set_option linter.unusedVariables false

theorem setg (w : World) (g i : Nat) (v : Value) : w.grownBy (w.setCell ⟨g, i, none⟩ v) (some g) := ⟨rfl, rfl, rfl, by rw [World.size_setCell]; exact Nat.le_refl _, fun j hj hne => Below.heap_setCell w ⟨g, i, none⟩ v j (fun z => hne (by rw [z]))⟩
theorem BBox.put3 {w : World} {g : Nat} {r n : Int} {ve vp vl : Value} (h : BBox w g r n ve vp vl) (a b c : Value) : BBox (((w.setCell ⟨g, 2, none⟩ a).setCell ⟨g, 3, none⟩ b).setCell ⟨g, 4, none⟩ c) g r n a b c ∧ w.grownBy (((w.setCell ⟨g, 2, none⟩ a).setCell ⟨g, 3, none⟩ b).setCell ⟨g, 4, none⟩ c) (some g) := by
 refine ⟨?_, ((setg w g 2 a).trans (setg _ g 3 b)).trans (setg _ g 4 c)⟩
 unfold BBox at *
 simp [World.setCell, Array.getElem?_modify, h]
theorem BBox.put1 {w : World} {g : Nat} {r n : Int} {ve vp vl : Value} (h : BBox w g r n ve vp vl) (m : Int) : BBox (w.setCell ⟨g, 1, none⟩ (.int .i64 m)) g r m ve vp vl ∧ w.grownBy (w.setCell ⟨g, 1, none⟩ (.int .i64 m)) (some g) := by
 refine ⟨?_, setg w g 1 _⟩
 unfold BBox at *
 simp [World.setCell, Array.getElem?_modify, h]
theorem EBox.fb {w w' : World} {O : Nat → Prop} {g : Nat} {e : EntD} (h : EBox w g e) (f : Fb w w' O) (k : ¬ O g) : EBox w' g e := by
 unfold EBox at *
 rw [f.block g (Array.getElem?_eq_some_iff.1 h).1 k]
 exact h
theorem com_lt : ∀ {a b : List Nat}, ¬ ordC b a ≤ 0 → comL a b < b.length
 | [], [], h => absurd (by simp [ordC]) h
 | [], y :: b, _ => by simp [comL]
 | x :: a, [], h => absurd (by simp [ordC]) h
 | x :: a, y :: b, h => by
  simp only [comL]
  split
  ·rename_i hxy
   have : ¬ ordC b a ≤ 0 := by
    intro k
    apply h
    have e : x = y := by simpa using hxy
    simp only [ordC, e, Nat.lt_irrefl, if_false]
    exact k
   have := com_lt this
   simp only [List.length_cons]
   omega
  ·simp
def addE (r : Nat) (s : Bs) (e : EntD) : Nat × Bs :=
 if checkS e ≠ 0 then (checkS e, s) else if ordC (keyL e) s.la ≤ 0 then (30, s) else if fullB r s (keyL e) e.val = true then (53, s) else (0, addB r s (keyL e) e.val)
def AddP (w : World) (B g r : Nat) (s : Bs) (e : EntD) (O : Nat → Prop) (x : Ending) (w' : World) : Prop :=
 x = .returned (.int .i64 (((addE r s e).1 : Nat) : Int)) ∧ (∃ ve vp vl, Bd w' B g r (addE r s e).2 ve vp vl) ∧ Below B w w' ∧ Fb w w' O
theorem add_bad {w w' : World} {B g r : Nat} {s : Bs} {e : EntD} {ve vp vl : Value} {O : Nat → Prop} (h : checkS e ≠ 0) (hb : Bd w' B g r s ve vp vl) (hw : Below B w w') (hf : Fb w w' O) : AddP w B g r s e O (.returned (.int .i64 ((checkS e : Nat) : Int))) w' := by
 have e1 : addE r s e = (checkS e, s) := by unfold addE; rw [if_pos h]
 exact ⟨by rw [e1], ⟨ve, vp, vl, by rw [e1]; exact hb⟩, hw, hf⟩
theorem add_order {w w' : World} {B g r : Nat} {s : Bs} {e : EntD} {ve vp vl : Value} {O : Nat → Prop} (h : checkS e = 0) (h2 : ordC (keyL e) s.la ≤ 0) (hb : Bd w' B g r s ve vp vl) (hw : Below B w w') (hf : Fb w w' O) : AddP w B g r s e O (.returned (.int .i64 30)) w' := by
 have e1 : addE r s e = (30, s) := by unfold addE; rw [if_neg (fun k => k h), if_pos h2]
 exact ⟨by rw [e1]; rfl, ⟨ve, vp, vl, by rw [e1]; exact hb⟩, hw, hf⟩
theorem add_full {w w' : World} {B g r : Nat} {s : Bs} {e : EntD} {ve vp vl : Value} {O : Nat → Prop} (h : checkS e = 0) (h2 : ¬ ordC (keyL e) s.la ≤ 0) (h3 : fullB r s (keyL e) e.val = true) (hb : Bd w' B g r s ve vp vl) (hw : Below B w w') (hf : Fb w w' O) : AddP w B g r s e O (.returned (.int .i64 53)) w' := by
 have e1 : addE r s e = (53, s) := by unfold addE; rw [if_neg (fun k => k h), if_neg h2, if_pos h3]
 exact ⟨by rw [e1]; rfl, ⟨ve, vp, vl, by rw [e1]; exact hb⟩, hw, hf⟩
theorem add_done {w w' : World} {B g r : Nat} {s : Bs} {e : EntD} {ve vp vl : Value} {O : Nat → Prop} (h : checkS e = 0) (h2 : ¬ ordC (keyL e) s.la ≤ 0) (h3 : fullB r s (keyL e) e.val = false) (hb : Bd w' B g r (addB r s (keyL e) e.val) ve vp vl) (hw : Below B w w') (hf : Fb w w' O) : AddP w B g r s e O (.returned (.int .i64 0)) w' := by
 have e1 : addE r s e = (0, addB r s (keyL e) e.val) := by unfold addE; rw [if_neg (fun k => k h), if_neg h2, if_neg (by rw [h3]; simp)]
 exact ⟨by rw [e1]; rfl, ⟨ve, vp, vl, by rw [e1]; exact hb⟩, hw, hf⟩
theorem Bd.later {w w' : World} {B g r : Nat} {s : Bs} {ve vp vl : Value} (h : Bd w B g r s ve vp vl) (b : Below w.heap.size w w') : Bd w' B g r s ve vp vl := ⟨h.box.later b, h.es.later b, h.ps.later b, h.la.later b, h.ep, h.el, h.pl, h.bg, h.size, h.lal, h.few, h.byE, h.byP, h.byL⟩
set_option maxRecDepth 100000 in
set_option maxHeartbeats 8000000 in
theorem add_any {w : World} {B g r : Nat} {s : Bs} {ve vp vl : Value} {e : EntD} (hb : Bd w B g r s ve vp vl) (hr : 1 ≤ r ∧ r ≤ 16) (hB : B ≤ w.heap.size) (he : ∀ wx, Fb w wx (bO g ve vp) → EntD.Ok wx e) :
  Calls Tryz.prog 12 #[.pointer (some ⟨g, 0, none⟩), .agg e.cells] w fun x w' => AddP w B g r s e (bO g ve vp) x w' := by
 obtain ⟨ae, ce, rfl⟩ := own_form hb.es.2
 obtain ⟨ap, cp, rfl⟩ := own_form hb.ps.2
 obtain ⟨al, cl, rfl⟩ := own_form hb.la.2
 have hok := he w (Fb.refl _ _)
 obtain ⟨ne, hne⟩ : ∃ ne, ne = s.es.length := ⟨_, rfl⟩
 obtain ⟨np, hnp⟩ : ∃ np, np = s.ps.length := ⟨_, rfl⟩
 obtain ⟨nl, hnl⟩ : ∃ nl, nl = s.la.length := ⟨_, rfl⟩
 rw [← hne, ← hnp, ← hnl] at hb
 rw [← hne, ← hnp] at he ⊢
 have HLn := Lib.hid (And.intro hne (And.intro hnp hnl))
 have hsz : ne + np ≤ 131072 := by rw [hne, hnp]; exact hb.size
 have hfew := hb.few
 clear hne hnp hnl
 have A1 := (Below.refl w.heap.size w).alloc (Nat.le_refl _) (.cells e.cells 40)
 have eb := EBox.new w e
 obtain ⟨X, hX⟩ : ∃ X, X = w.alloc (.cells e.cells 40) := ⟨_, rfl⟩
 rw [← hX] at A1 eb
 obtain ⟨hy1, a1, n1, e1, -⟩ := hok.1
 obtain ⟨hy2, a2, n2, e2, -⟩ := hok.2.1
 obtain ⟨hy3, a3, n3, e3, l3, -⟩ := hok.2.2
 have hXe : e.cells = #[.slice a1 e.row.length n1, .int .i64 e.fam, .slice a2 e.qual.length n2, .int .i64 e.ts, .int .i64 e.seq, .int .i64 e.kind, .slice a3 e.val.length n3] := by unfold EntD.cells; rw [e1, e2, e3]
 have HKy := Lib.hid (key_any (hok.later A1))
 have x0 := EBox.vr eb
 have x1 := EBox.fam eb
 have x2 := EBox.vq eb
 have x3 := EBox.ts eb
 have x4 := EBox.seq eb
 have x5 := EBox.kind eb
 have x6 := EBox.vv eb
 rw [e1] at x0
 rw [e2] at x2
 rw [e3] at x6
 rw [hXe] at hX HKy ⊢
 have HX := Lib.hid hX
 have HXe := Lib.hid hXe
 obtain ⟨C, hC⟩ : ∃ C, C = checkS e := ⟨_, rfl⟩
 have HBd := Lib.hid hb
 have HBX := Lib.hid (hb.later A1)
 have HA1 := Lib.hid A1
 have HEb := Lib.hid eb
 have HOk := Lib.hid he
 have HV := Lib.hid (And.intro e3 (And.intro hy1 hy2))
 have HVb := Lib.hid hy3
 obtain ⟨vn, hvn⟩ : ∃ vn, vn = e.val.length := ⟨_, rfl⟩
 have HVn := Lib.hid hvn
 rw [← hvn] at x6 HX HXe HKy ⊢
 obtain ⟨rn, hrn⟩ : ∃ rn, rn = e.row.length := ⟨_, rfl⟩
 rw [← hrn] at x0 HX HXe HKy ⊢
 obtain ⟨qn, hqn⟩ : ∃ qn, qn = e.qual.length := ⟨_, rfl⟩
 rw [← hqn] at x2 HX HXe HKy ⊢
 have HLo : Hid ((∀ k, (Value.slice ae ne ce).ownBlock = some k → k < w.heap.size) ∧ (∀ k, (Value.slice ap np cp).ownBlock = some k → k < w.heap.size) ∧ (∀ k, (Value.slice al nl cl).ownBlock = some k → k < w.heap.size)) := ⟨fun k hk => (hb.es.2.lt k hk).2, fun k hk => (hb.ps.2.lt k hk).2, fun k hk => (hb.la.2.lt k hk).2⟩
 have HXs : Hid (w.heap.size < X.heap.size ∧ g < w.heap.size) := ⟨(Array.getElem?_eq_some_iff.1 eb).1, (Array.getElem?_eq_some_iff.1 hb.box).1⟩
 clear hX A1 eb hb he hok hXe e1 e2 e3 hy1 hy2 hy3 hvn hrn hqn
 go_enter Tryz.func12, Tryz.ntmps12
 go_upto_region 1 with fail
 rw [← HX.out]
 clear HX
 go_wp2_with fail
 refine Calls.mono HKy.out ?_
 rintro z X1 ⟨ak, mk, ck, E, rfl, hE, hown, hb1⟩
 rw [← hC] at hE
 subst hE
 have HB1 := Lib.hid hb1
 have HOwn := Lib.hid hown
 have HC := Lib.hid hC
 have HBw := Lib.hid ((HA1.out.mono hB).trans (hb1.mono (Nat.le_trans hB HA1.out.size)))
 have HFw := Lib.hid (fun O : Nat → Prop => (Fb.of_below (HA1.out.trans (hb1.mono HA1.out.size)) : Fb w _ O))
 have HBd1 := Lib.hid (HBX.out.later hb1)
 clear hb1 hown hC HKy x0 x1 x2 x3 x4 x5 x6
 by_cases hc0 : E = 0
 ·subst hc0
  have hC0 : checkS e = 0 := HC.out.symm
  have hown := HOwn.out rfl
  have hmk := hown.1
  have hkb := keyL_bys HV.out.2.1 HV.out.2.2 hC0
  have hkl := keyL_len hC0
  obtain ⟨K, hK⟩ : ∃ K, K = keyL e := ⟨_, rfl⟩
  rw [← hK] at hown hmk hkb hkl
  have hkp : 0 < K.length := by rw [hK, keyL_parts]; simp; omega
  have HK := Lib.hid hK
  have HC0 := Lib.hid hC0
  obtain ⟨gk, rfl⟩ : ∃ gk, ak = some ⟨gk, 0, none⟩ := by
   rcases ownNonil hown with ⟨_, h, _⟩ | h
   ·omega
   ·exact h
  have hrk := hown.rd hkb (by omega)
  have HKo := Lib.hid hown
  have HKb := Lib.hid hkb
  have mk1 : 0 < mk := by omega
  have mk2 : mk ≤ 2000 := by omega
  have hck : mk ≤ ck := (rd_lens hrk).2.1
  have hcm : ck ≤ 9223372036854775807 := by have := (rd_lens hrk).2.2.1; unfold maxLen at this; exact this
  have HKr := Lib.hid hrk
  have HMk := Lib.hid hmk
  obtain ⟨c0, c1, c2, c3, c4⟩ := HBd1.out.box.cells
  have hrl := HBd1.out.la.rd HBd1.out.byL (by have := HBd1.out.lal; omega)
  have HCmp := Lib.hid (bytesCompare_any hrk hrl)
  obtain ⟨O, hO⟩ : ∃ O, O = ordC K s.la := ⟨_, rfl⟩
  rw [← hO] at HCmp
  have HOe := Lib.hid hO
  have HRl := Lib.hid hrl
  clear hC0 hown hmk hkb hkl hK hrk hrl hO HOwn
  go_upto_region 4 with fail
  go_wp2_with fail
  refine Calls.mono HCmp.out ?_
  rintro z Xq ⟨rfl, rfl⟩
  by_cases hle : O ≤ 0
  ·have HEnd := Lib.hid (add_order (w := w) HC0.out (by rw [← HK.out, ← HOe.out]; exact hle) HBd1.out HBw.out (HFw.out (bO g (.slice ae ne ce) (.slice ap np cp))))
   clear c0 c1 c2 c3 c4
   go_wp2
   go_ret
   exact HEnd.out
  have hle2 : ¬ ordC (keyL e) s.la ≤ 0 := by rw [← HK.out, ← HOe.out]; exact hle
  have HLe := Lib.hid hle2
  have HCom := Lib.hid (fun wx (h : Below Xq.heap.size Xq wx) => common_any (HRl.out.later h) (HKr.out.later h))
  obtain ⟨sh0, hsh0⟩ : ∃ sh0, sh0 = comL s.la K := ⟨_, rfl⟩
  rw [← hsh0] at HCom
  have HSh0 := Lib.hid hsh0
  clear c0 c1 c2 c3 c4 HCmp hle2 hsh0
  go_upto_region 6 with fail
  have BD : Below Xq.heap.size Xq Xq.drew := (Below.refl _ _).drew
  refine wp_region_noPanic ?_
  refine wp_region_held_drew (S := fun wx => Below Xq.heap.size Xq wx) (by kernel_rfl) BD (fun hHeld => ?_)
  refine wpAnyH_take (i := 0) (oi := { dst := some 25, op := _, type := _, pos := _, after := _, guard := _ }) (v := .pointer (some ⟨g, 0, none⟩)) rfl (by kernel_rfl) (by kernel_rfl) (by kernel_rfl) (fun _ _ _ h => h) (Or.inl ⟨by kernel_rfl, fun wy hy => by first | (go_simp; done)⟩) (by assumption) ?_
  try simp only [Act.put, List.setIfInBounds_toArray, List.set_cons_zero, List.set_cons_succ]
  refine wpAnyH_take (i := 1) (oi := { dst := some 26, op := _, type := _, pos := _, after := _, guard := _ }) (v := .pointer (some ⟨g, 0, none⟩)) rfl (by kernel_rfl) (by kernel_rfl) (by kernel_rfl) (fun _ _ _ h => h) (Or.inl ⟨by kernel_rfl, fun wy hy => by first | (go_simp; done)⟩) (by assumption) ?_
  try simp only [Act.put, List.setIfInBounds_toArray, List.set_cons_zero, List.set_cons_succ]
  refine wpAnyH_take (i := 2) (oi := { dst := some 27, op := _, type := _, pos := _, after := _, guard := _ }) (v := .pointer (some ⟨g, 3, none⟩)) rfl (by kernel_rfl) (by kernel_rfl) (by kernel_rfl) (fun _ _ _ h => h) (Or.inl ⟨by kernel_rfl, fun wy hy => by first | (go_simp; done)⟩) (by assumption) ?_
  try simp only [Act.put, List.setIfInBounds_toArray, List.set_cons_zero, List.set_cons_succ]
  refine wpAnyH_take (i := 3) (oi := { dst := some 28, op := _, type := _, pos := _, after := _, guard := _ }) (v := .slice ap np cp) rfl (by kernel_rfl) (by kernel_rfl) (by kernel_rfl) (fun _ _ _ h => h) (Or.inl ⟨by kernel_rfl, fun wy hy => by (obtain ⟨c0, c1, c2, c3, c4⟩ := (HBd1.out.later hy).box.cells; go_simp; done)⟩) (by assumption) ?_
  try simp only [Act.put, List.setIfInBounds_toArray, List.set_cons_zero, List.set_cons_succ]
  refine wpAnyH_take (i := 4) (oi := { dst := some 29, op := _, type := _, pos := _, after := _, guard := _ }) (v := .pointer (some ⟨g, 0, none⟩)) rfl (by kernel_rfl) (by kernel_rfl) (by kernel_rfl) (fun _ _ _ h => h) (Or.inl ⟨by kernel_rfl, fun wy hy => by first | (go_simp; done)⟩) (by assumption) ?_
  try simp only [Act.put, List.setIfInBounds_toArray, List.set_cons_zero, List.set_cons_succ]
  refine wpAnyH_take (i := 5) (oi := { dst := some 30, op := _, type := _, pos := _, after := _, guard := _ }) (v := .pointer (some ⟨g, 0, none⟩)) rfl (by kernel_rfl) (by kernel_rfl) (by kernel_rfl) (fun _ _ _ h => h) (Or.inl ⟨by kernel_rfl, fun wy hy => by first | (go_simp; done)⟩) (by assumption) ?_
  try simp only [Act.put, List.setIfInBounds_toArray, List.set_cons_zero, List.set_cons_succ]
  refine wpAnyH_take (i := 6) (oi := { dst := some 31, op := _, type := _, pos := _, after := _, guard := _ }) (v := .pointer (some ⟨g, 4, none⟩)) rfl (by kernel_rfl) (by kernel_rfl) (by kernel_rfl) (fun _ _ _ h => h) (Or.inl ⟨by kernel_rfl, fun wy hy => by first | (go_simp; done)⟩) (by assumption) ?_
  try simp only [Act.put, List.setIfInBounds_toArray, List.set_cons_zero, List.set_cons_succ]
  refine wpAnyH_take (i := 7) (oi := { dst := some 32, op := _, type := _, pos := _, after := _, guard := _ }) (v := .slice al nl cl) rfl (by kernel_rfl) (by kernel_rfl) (by kernel_rfl) (fun _ _ _ h => h) (Or.inl ⟨by kernel_rfl, fun wy hy => by (obtain ⟨c0, c1, c2, c3, c4⟩ := (HBd1.out.later hy).box.cells; go_simp; done)⟩) (by assumption) ?_
  try simp only [Act.put, List.setIfInBounds_toArray, List.set_cons_zero, List.set_cons_succ]
  refine wpAnyH_take (i := 8) (oi := { dst := some 33, op := _, type := _, pos := _, after := _, guard := _ }) (v := .slice (some ⟨gk, 0, none⟩) mk ck) rfl (by kernel_rfl) (by kernel_rfl) (by kernel_rfl) (fun _ _ _ h => h) (Or.inl ⟨by kernel_rfl, fun wy hy => by first | (go_simp; done)⟩) (by assumption) ?_
  try simp only [Act.put, List.setIfInBounds_toArray, List.set_cons_zero, List.set_cons_succ]
  refine wpAnyH_ready (rs := [9]) (by kernel_rfl) (by simp) ?_
  refine AllReadyH.cons (o := { dst := some 34, op := _, type := _, pos := _, after := _, guard := _ }) rfl (fun K hK => ?_) AllReadyH.nil
  go_simp
  go_at_call 52
  refine (HCom.out _ BD).mono ?_
  rintro e1 X2 ⟨rfl, hb2⟩
  have hb22 : Below Xq.heap.size Xq X2 := BD.trans hb2
  clear hb2 BD HCom
  go_wp2_with fail
  refine hK.out _ _ hb22 (fun hHeld => ?_)
  clear hK K
  try simp only [Act.put, List.setIfInBounds_toArray, List.set_cons_zero, List.set_cons_succ]
  refine wpAnyH_take (i := 10) (oi := { dst := some 7, op := _, type := _, pos := _, after := _, guard := _ }) (v := .slice ap np cp) rfl (by kernel_rfl) (by kernel_rfl) (by kernel_rfl) (fun _ _ _ h => h) (Or.inl ⟨by kernel_rfl, fun wy hy => by first | (go_simp; done)⟩) (by assumption) ?_
  try simp only [Act.put, List.setIfInBounds_toArray, List.set_cons_zero, List.set_cons_succ]
  refine wpAnyH_take (i := 11) (oi := { dst := some 8, op := _, type := _, pos := _, after := _, guard := _ }) (v := .int .i64 (sh0 : Int)) rfl (by kernel_rfl) (by kernel_rfl) (by kernel_rfl) (fun _ _ _ h => h) (Or.inl ⟨by kernel_rfl, fun wy hy => by first | (go_simp; done)⟩) (by assumption) ?_
  try simp only [Act.put, List.setIfInBounds_toArray, List.set_cons_zero, List.set_cons_succ]
  refine wpAnyH_done (by kernel_rfl) (NoPanic.normal ?_) _
  have HB2 := Lib.hid hb22
  clear hb22 hHeld
  go_simp
  go_step
  have HBd2 := Lib.hid (HBd1.out.later HB2.out)
  have HEb2 := Lib.hid ((HEb.out.later HB1.out).later HB2.out)
  have HKr2 := Lib.hid (HKr.out.later HB2.out)
  have HKo2 := Lib.hid (HKo.out.later HB2.out)
  have HBw2 := Lib.hid (HBw.out.trans (HB2.out.mono (Nat.le_trans hB HBw.out.size)))
  have HX2 : Hid (Below w.heap.size w X2) := (HA1.out.trans (HB1.out.mono HA1.out.size)).trans (HB2.out.mono (HA1.out.trans (HB1.out.mono HA1.out.size)).size)
  clear HBd HBX HBd1 HEb HKr HKo HBw HB1 HB2 HA1 HRl
  obtain ⟨Z, hZ⟩ : ∃ Z : Bool, Z = decide (s.n % r = 0) := ⟨_, rfl⟩
  have HZ := Lib.hid hZ
  clear hZ
  have r1 : (1 : Int) ≤ (r : Int) := by omega
  have sn0 : (0 : Int) ≤ (s.n : Int) := by omega
  go_upto_region 7 with fail
  go_cut [44] (fun b wx => b = .bool Z ∧ Hid (Below X2.heap.size X2 wx))
  case first =>
   obtain ⟨c0, c1, c2, c3, c4⟩ := HBd2.out.box.cells
   by_cases hz : s.n % r = 0
   ·have hz2 : (((s.n : Int) % (r : Int)) == 0) = true := by rw [beq_iff_eq]; omega
    have hZt : Z = true := by rw [HZ.out]; simp [hz]
    go_quiet (fail)
    go_wp2_with fail
    go_meet
    exact ⟨by rw [hZt], below_drewN (Below.refl _ _) _⟩
   ·have hz2 : (((s.n : Int) % (r : Int)) == 0) = false := by rw [beq_eq_false_iff_ne]; omega
    have hZt : Z = false := by rw [HZ.out]; simp [hz]
    go_quiet (fail)
    go_wp2_with fail
    go_meet
    exact ⟨by rw [hZt], below_drewN (Below.refl _ _) _⟩
  case rest =>
  obtain ⟨rfl, HX3⟩ := hcut
  rename World => X3
  have HBd3 := Lib.hid (HBd2.out.later HX3.out)
  have HEb3 := Lib.hid (HEb2.out.later HX3.out)
  have HKr3 := Lib.hid (HKr2.out.later HX3.out)
  have HKo3 := Lib.hid (HKo2.out.later HX3.out)
  have HBw3 := Lib.hid (HBw2.out.trans (HX3.out.mono (Nat.le_trans hB HBw2.out.size)))
  have HX23 : Hid (Below w.heap.size w X3) := HX2.out.trans (HX3.out.mono HX2.out.size)
  clear HBd2 HEb2 HKr2 HKo2 HBw2 HX2 HX3
  obtain ⟨tl, htl⟩ : ∃ tl, tl = if s.n % r = 0 then be4 ne else [] := ⟨_, rfl⟩
  obtain ⟨sh, hsh⟩ : ∃ sh, sh = shOf r s K := ⟨_, rfl⟩
  obtain ⟨tn, htn⟩ : ∃ tn, tn = tl.length := ⟨_, rfl⟩
  have hps : psOf r s = s.ps ++ tl := by unfold psOf; rw [htl, HLn.out.1]; split <;> simp
  have htn4 : tn ≤ 4 := by rw [htn, htl]; split <;> simp [be4]
  have hsl : sh < mk := by
   rw [hsh, HMk.out]
   unfold shOf
   split
   ·omega
   ·exact com_lt (by have := HOe.out; omega)
  have HTl := Lib.hid htl
  have HSh := Lib.hid hsh
  have HTn := Lib.hid htn
  have HPs := Lib.hid hps
  clear htl hsh htn hps
  go_upto_if 44 with fail
  go_cut [7, 8] (fun p8 s8 wx => ∃ ap' cp', p8 = .slice ap' (np + tn) cp' ∧ s8 = .int .i64 (sh : Int) ∧ Hid (Gr X3 wx B np (np + tn) (.slice ap np cp) (.slice ap' (np + tn) cp') s.ps tl))
  case first =>
   obtain ⟨c0, c1, c2, c3, c4⟩ := HBd3.out.box.cells
   have hpo := HBd3.out.ps
   rw [← HLn.out.2.1] at hpo
   cases Z with
   | true =>
    have hz : s.n % r = 0 := of_decide_eq_true HZ.out.symm
    have htl : tl = be4 ne := by rw [HTl.out, if_pos hz]
    have hs0 : sh = 0 := by rw [HSh.out]; unfold shOf; rw [if_pos hz]
    have ht4 : tn = 4 := by rw [HTn.out, htl]; rfl
    have HWd := Lib.hid (appendWordG_any ne (by omega) hpo (Nat.le_trans hB HBw3.out.size) (by omega))
    rw [← htl] at HWd
    subst ht4 hs0
    clear htl hz hpo
    go_wp2_with fail
    refine Calls.mono HWd.out ?_
    rintro z X4 ⟨a4, c4', rfl, g4⟩
    have HG4 := Lib.hid g4
    clear g4 HWd c0 c1 c2 c3 c4
    go_wp2_with fail
    go_meet
    exact ⟨a4, c4', rfl, rfl, HG4⟩
   | false =>
    have hz : ¬ s.n % r = 0 := of_decide_eq_false HZ.out.symm
    have htl : tl = [] := by rw [HTl.out, if_neg hz]
    have hs0 : sh = sh0 := by rw [HSh.out, HSh0.out]; unfold shOf; rw [if_neg hz]
    have ht4 : tn = 0 := by rw [HTn.out, htl]; rfl
    have hg := Gr.refl hpo
    rw [← htl] at hg
    subst ht4 hs0
    have HG4 := Lib.hid hg
    clear htl hz hpo hg c0 c1 c2 c3 c4
    go_wp2_with fail
    go_meet
    exact ⟨ap, cp, rfl, rfl, HG4⟩
  case rest =>
  obtain ⟨ap', cp', rfl, rfl, HG⟩ := hcut
  rename World => X4
  have hne1 : (Value.slice ap np cp).ownBlock ≠ some g := HBd3.out.box.ne HBd3.out.ps
  have hne2 : (Value.slice ae ne ce).ownBlock ≠ some g := HBd3.out.box.ne HBd3.out.es
  have f34 : Fb X3 X4 (fun k => (Value.slice ap np cp).ownBlock = some k) := Fb.of_grown HG.out.grown (fun i h => h)
  have hbx4 : BBox X4 g (r : Int) (s.n : Int) (.slice ae ne ce) (.slice ap np cp) (.slice al nl cl) := HBd3.out.box.fb f34 hne1
  have hes4 : Own X4 B (.slice ae ne ce) s.es.length s.es := HBd3.out.es.fb f34 (fun k hk hp => HBd3.out.ep k hk hp)
  have hla4 : Own X4 B (.slice al nl cl) s.la.length s.la := HBd3.out.la.fb f34 (fun k hk hp => HBd3.out.pl k hp hk)
  have hko4 : Own X4 X.heap.size (.slice (some ⟨gk, 0, none⟩) mk ck) mk K := HKo3.out.fb f34 (fun k hk hp => by have h1 := HLo.out.2.1 k hp; have h2 := (HKo3.out.2.lt k hk).1; have := HXs.out.1; omega)
  have heb4 : EBox X4 w.heap.size e := by
   have h := HEb3.out
   unfold EBox at *
   rw [f34.block _ (Array.getElem?_eq_some_iff.1 h).1 (fun hp => by have := HLo.out.2.1 _ hp; omega)]
   exact h
  have fw4 : Fb w X4 (bO g (.slice ae ne ce) (.slice ap np cp)) := (Fb.of_below HX23.out).trans (f34.mono (fun k _ h => .inr (.inr h)))
  have HBx4 := Lib.hid hbx4
  have HEs4 := Lib.hid hes4
  have HLa4 := Lib.hid hla4
  have HKo4 := Lib.hid hko4
  have HEb4 := Lib.hid heb4
  have HFw4 := Lib.hid fw4
  have HFw4 := Lib.hid fw4
  have HBw4 : Hid (Below B w X4) := fw4.below hB (fun k hk => by
   rcases hk with rfl | hk | hk
   ·exact HBd3.out.bg
   ·exact (HBd3.out.es.2.lt k hk).1
   ·exact (HBd3.out.ps.2.lt k hk).1)
  have hX34 : X3.heap.size ≤ X4.heap.size := HG.out.grown.size
  have HNe := Lib.hid (And.intro hne1 hne2)
  obtain ⟨R, hR⟩ : ∃ R, R = K.drop sh := ⟨_, rfl⟩
  obtain ⟨rl, hrl⟩ : ∃ rl, rl = (recL sh R e.val).length := ⟨_, rfl⟩
  have hv4 : vn ≤ 4096 := by rw [HVn.out]; obtain ⟨_, _, _, _, _, _, _, h, _⟩ := check_facts HC0.out; exact h
  have HRr := Lib.hid hR
  have HRl2 := Lib.hid hrl
  have hrec : Calls Tryz.prog 54 #[.slice ae ne ce, .int .i64 (sh : Int), .slice (some ⟨gk, sh, none⟩) (mk - sh) (ck - sh), .slice a3 vn n3] X4.drew fun z w' => ∃ a' c', z = .returned (.slice a' (ne + rl) c') ∧ Gr X4.drew w' B ne (ne + rl) (.slice ae ne ce) (.slice a' (ne + rl) c') s.es (recL sh R e.val) := by
   rw [hrl]
   have hes5 : Own X4.drew B (.slice ae ne ce) ne s.es := by
    have := hes4.later ((Below.refl _ _).drew)
    rw [← HLn.out.1] at this
    exact this
   refine appendRecord_any hes5 (Nat.le_trans hB HBw4.out.size) (by omega) (by omega) (by omega) (by omega) (fun wx gx => ?_)
   have fx : Fb X4 wx (fun k => (Value.slice ae ne ce).ownBlock = some k) := (Fb.of_below ((Below.refl _ _).drew)).trans (Fb.of_grown gx (fun i h => h))
   have hk5 := hko4.fb fx (fun k hk hp => by have h1 := HLo.out.1 k hp; have h2 := (hko4.2.lt k hk).1; have := HXs.out.1; omega)
   have hrk := hk5.rd HKb.out (by omega)
   refine ⟨?_, ?_⟩
   ·rw [hR]
    have := hrk.sub sh mk (by omega) (Nat.le_refl _) (off' := 0 + sh) (n' := mk - sh) (cap' := ck - sh) rfl rfl rfl
    rw [Nat.zero_add] at this
    have e1 : (K.take mk).drop sh = K.drop sh := by rw [HMk.out, List.take_length]
    rw [e1] at this
    exact this
   ·have := (HOk.out wx (fw4.trans (fx.mono (fun k _ h => .inr (.inl h))))).2.2
    rw [HV.out.1, ← HVn.out] at this
    exact this
  have HRec := Lib.hid hrec
  clear hbx4 hes4 hla4 hko4 heb4 fw4 f34 hne1 hne2 hR hrl hrec
  have sh1 : (sh : Int) < (mk : Int) := by omega
  have sh2 : (sh : Int) ≤ (ck : Int) := by omega
  have sh3 : (0 : Int) ≤ (sh : Int) := by omega
  have sh4 : ¬ ck = sh := by omega
  have sh5 : (sh : Int) ≤ (mk : Int) := by omega
  go_upto_region 9 with fail
  have BD : Fb X4 X4.drew (fun k => (Value.slice ae ne ce).ownBlock = some k) := Fb.of_below ((Below.refl _ _).drew)
  refine wp_region_noPanic ?_
  refine wp_region_held_drew (S := fun wx => Fb X4 wx (fun k => (Value.slice ae ne ce).ownBlock = some k)) (by kernel_rfl) BD (fun hHeld => ?_)
  refine wpAnyH_take (i := 0) (oi := { dst := some 52, op := _, type := _, pos := _, after := _, guard := _ }) (v := .pointer (some ⟨g, 0, none⟩)) rfl (by kernel_rfl) (by kernel_rfl) (by kernel_rfl) (fun _ _ _ h => h) (Or.inl ⟨by kernel_rfl, fun wy hy => by first | (go_simp; done)⟩) (by assumption) ?_
  try simp only [Act.put, List.setIfInBounds_toArray, List.set_cons_zero, List.set_cons_succ]
  refine wpAnyH_take (i := 1) (oi := { dst := some 53, op := _, type := _, pos := _, after := _, guard := _ }) (v := .pointer (some ⟨g, 0, none⟩)) rfl (by kernel_rfl) (by kernel_rfl) (by kernel_rfl) (fun _ _ _ h => h) (Or.inl ⟨by kernel_rfl, fun wy hy => by first | (go_simp; done)⟩) (by assumption) ?_
  try simp only [Act.put, List.setIfInBounds_toArray, List.set_cons_zero, List.set_cons_succ]
  refine wpAnyH_take (i := 2) (oi := { dst := some 54, op := _, type := _, pos := _, after := _, guard := _ }) (v := .pointer (some ⟨g, 2, none⟩)) rfl (by kernel_rfl) (by kernel_rfl) (by kernel_rfl) (fun _ _ _ h => h) (Or.inl ⟨by kernel_rfl, fun wy hy => by first | (go_simp; done)⟩) (by assumption) ?_
  try simp only [Act.put, List.setIfInBounds_toArray, List.set_cons_zero, List.set_cons_succ]
  refine wpAnyH_take (i := 3) (oi := { dst := some 55, op := _, type := _, pos := _, after := _, guard := _ }) (v := .slice ae ne ce) rfl (by kernel_rfl) (by kernel_rfl) (by kernel_rfl) (fun _ _ _ h => h) (Or.inl ⟨by kernel_rfl, fun wy hy => by (obtain ⟨c0, c1, c2, c3, c4⟩ := (HBx4.out.fb hy HNe.out.2).cells; go_simp; done)⟩) (by assumption) ?_
  try simp only [Act.put, List.setIfInBounds_toArray, List.set_cons_zero, List.set_cons_succ]
  refine wpAnyH_take (i := 4) (oi := { dst := some 56, op := _, type := _, pos := _, after := _, guard := _ }) (v := .int .i64 (sh : Int)) rfl (by kernel_rfl) (by kernel_rfl) (by kernel_rfl) (fun _ _ _ h => h) (Or.inl ⟨by kernel_rfl, fun wy hy => by first | (go_simp; done)⟩) (by assumption) ?_
  try simp only [Act.put, List.setIfInBounds_toArray, List.set_cons_zero, List.set_cons_succ]
  refine wpAnyH_take (i := 5) (oi := { dst := some 57, op := _, type := _, pos := _, after := _, guard := _ }) (v := .slice (some ⟨gk, 0, none⟩) mk ck) rfl (by kernel_rfl) (by kernel_rfl) (by kernel_rfl) (fun _ _ _ h => h) (Or.inl ⟨by kernel_rfl, fun wy hy => by first | (go_simp; done)⟩) (by assumption) ?_
  try simp only [Act.put, List.setIfInBounds_toArray, List.set_cons_zero, List.set_cons_succ]
  refine wpAnyH_take (i := 6) (oi := { dst := some 58, op := _, type := _, pos := _, after := _, guard := _ }) (v := .int .i64 (sh : Int)) rfl (by kernel_rfl) (by kernel_rfl) (by kernel_rfl) (fun _ _ _ h => h) (Or.inl ⟨by kernel_rfl, fun wy hy => by first | (go_simp; done)⟩) (by assumption) ?_
  try simp only [Act.put, List.setIfInBounds_toArray, List.set_cons_zero, List.set_cons_succ]
  refine wpAnyH_take (i := 7) (oi := { dst := some 59, op := _, type := _, pos := _, after := _, guard := _ }) (v := .slice (some ⟨gk, sh, none⟩) (mk - sh) (ck - sh)) rfl (by kernel_rfl) (by kernel_rfl) (by kernel_rfl) (fun _ _ _ h => h) (Or.inl ⟨by kernel_rfl, fun wy hy => by (go_simp; done)⟩) (by assumption) ?_
  try simp only [Act.put, List.setIfInBounds_toArray, List.set_cons_zero, List.set_cons_succ]
  refine wpAnyH_take (i := 8) (oi := { dst := some 60, op := _, type := _, pos := _, after := _, guard := _ }) (v := .pointer (some ⟨w.heap.size, 6, none⟩)) rfl (by kernel_rfl) (by kernel_rfl) (by kernel_rfl) (fun _ _ _ h => h) (Or.inl ⟨by kernel_rfl, fun wy hy => by first | (go_simp; done)⟩) (by assumption) ?_
  try simp only [Act.put, List.setIfInBounds_toArray, List.set_cons_zero, List.set_cons_succ]
  refine wpAnyH_take (i := 9) (oi := { dst := some 61, op := _, type := _, pos := _, after := _, guard := _ }) (v := .slice a3 vn n3) rfl (by kernel_rfl) (by kernel_rfl) (by kernel_rfl) (fun _ _ _ h => h) (Or.inl ⟨by kernel_rfl, fun wy hy => by (have x6 := (HEb4.out.fb hy (fun hp => by have := HLo.out.1 _ hp; omega)).vv; rw [HV.out.1, ← HVn.out] at x6; go_simp; done)⟩) (by assumption) ?_
  try simp only [Act.put, List.setIfInBounds_toArray, List.set_cons_zero, List.set_cons_succ]
  refine wpAnyH_ready (rs := [10]) (by kernel_rfl) (by simp) ?_
  refine AllReadyH.cons (o := { dst := some 62, op := _, type := _, pos := _, after := _, guard := _ }) rfl (fun K hK => ?_) AllReadyH.nil
  go_simp
  go_at_call 54
  refine HRec.out.mono ?_
  rintro e1 X5 ⟨ae', ce', rfl, g5⟩
  have f45 : Fb X4 X5 (fun k => (Value.slice ae ne ce).ownBlock = some k) := BD.trans (Fb.of_grown g5.grown (fun i h => h))
  have HF45 := Lib.hid f45
  have HG5 := Lib.hid g5
  have hB5 : Below B X4 X5 := f45.below (Nat.le_trans hB HBw4.out.size) (fun k hk => (HEs4.out.2.lt k hk).1)
  have HB5 := Lib.hid (HBw4.out.trans hB5)
  have HF5 := Lib.hid (HFw4.out.trans (f45.mono (fun k _ h => .inr (.inl h))))
  clear g5 hB5 BD HRec
  go_wp2_with fail
  refine hK.out _ _ f45 (fun hHeld => ?_)
  clear hK K
  try simp only [Act.put, List.setIfInBounds_toArray, List.set_cons_zero, List.set_cons_succ]
  refine wpAnyH_take (i := 11) (oi := { dst := some 9, op := _, type := _, pos := _, after := _, guard := _ }) (v := .slice ae' (ne + rl) ce') rfl (by kernel_rfl) (by kernel_rfl) (by kernel_rfl) (fun _ _ _ h => h) (Or.inl ⟨by kernel_rfl, fun wy hy => by first | (go_simp; done)⟩) (by assumption) ?_
  try simp only [Act.put, List.setIfInBounds_toArray, List.set_cons_zero, List.set_cons_succ]
  refine wpAnyH_done (by kernel_rfl) (NoPanic.normal ?_) _
  clear hHeld f45
  go_simp
  go_step
  have hrl2 : 3 ≤ rl ∧ rl ≤ 8000 := by
   rw [HRl2.out, HRr.out]
   have h1 := uintL_len sh
   have h2 := uintL_len (K.drop sh).length
   have h3 := uintL_len e.val.length
   have h4 : (K.drop sh).length ≤ mk := by rw [List.length_drop, ← HMk.out]; omega
   have h5 := HVn.out
   unfold recL
   simp only [List.length_append]
   omega
  obtain ⟨rl3, rl8⟩ := hrl2
  have HSz := Lib.hid (fun wx => sizeOf_any (a := ae') (b := ap') (n := ne + rl) (m := np + tn) (c := ce') (d := cp') wx (by omega) (by omega))
  obtain ⟨sz, hsz9⟩ : ∃ sz, sz = ne + rl + (np + tn) + 9 := ⟨_, rfl⟩
  rw [← hsz9] at HSz
  have HSz9 := Lib.hid hsz9
  clear hsz9
  have hbx5 := HBx4.out.fb HF45.out HNe.out.2
  have hes5 := HG5.out.old
  have hps5 : Own X5 B (.slice ap np cp) np s.ps := HG.out.old.fb HF45.out (fun k hk hp => HBd3.out.ep k hp hk)
  have hpn5 : Own X5 B (.slice ap' (np + tn) cp') (np + tn) (s.ps ++ tl) := HG.out.new.fb HF45.out (fun k hk hp => by
   rcases HG.out.loc k hk with h | h
   ·exact HBd3.out.ep k hp h
   ·have := HLo.out.1 k hp; have := HX23.out.size; omega)
  have hla5 := HLa4.out.fb HF45.out (fun k hk hp => HBd3.out.el k hp hk)
  have hko5 := HKo4.out.fb HF45.out (fun k hk hp => by have h1 := HLo.out.1 k hp; have h2 := (HKo4.out.2.lt k hk).1; have := HXs.out.1; omega)
  have HFu : Hid (fullB r s K e.val = decide (131072 < ne + rl + (np + tn) + 9)) := by
   unfold Hid fullB esOf
   rw [HPs.out, ← HSh.out, ← HRr.out, List.length_append, List.length_append, ← HRl2.out, ← HTn.out, ← HLn.out.1, ← HLn.out.2.1]
  have HBx5 := Lib.hid hbx5
  have HOld : Hid (Bd X5 B g r s (.slice ae ne ce) (.slice ap np cp) (.slice al nl cl)) := by
   have d := HBd3.out
   exact ⟨hbx5, by rw [← HLn.out.1]; exact hes5, by rw [← HLn.out.2.1]; exact hps5, hla5, d.ep, d.el, d.pl, d.bg, d.size, d.lal, d.few, d.byE, d.byP, d.byL⟩
  clear hbx5 hes5 hps5
  have HPn5 := Lib.hid hpn5
  have HKo5 := Lib.hid hko5
  clear hpn5 hla5 hko5
  go_wp2_with fail
  refine Calls.mono (HSz.out _) ?_
  rintro z Xr ⟨rfl, rfl⟩
  by_cases hfu : 131072 < sz
  ·have hfu2 : decide ((131072 : Int) < (sz : Int)) = true := decide_eq_true (by omega)
   have HEnd := Lib.hid (add_full (w := w) HC0.out (Int.not_le.2 HLe.out) (by rw [← HK.out, HFu.out, ← HSz9.out]; exact decide_eq_true hfu) HOld.out HB5.out HF5.out)
   clear hfu
   go_wp2
   go_ret
   exact HEnd.out
  ·have hfu2 : decide ((131072 : Int) < (sz : Int)) = false := decide_eq_false (by omega)
   have HFf : Hid (fullB r s (keyL e) e.val = false) := by unfold Hid; rw [← HK.out, HFu.out, ← HSz9.out]; exact decide_eq_false hfu
   have hszl : ne + rl + (np + tn) ≤ 131072 := by have := HSz9.out; omega
   clear hfu
   obtain ⟨c0, c1, c2, c3, c4⟩ := HBx5.out.cells
   have z1 := HBx5.out.fz 1
   have z2 := HBx5.out.fz 2
   have z3 := HBx5.out.fz 3
   have z4 := HBx5.out.fz 4
   have hput := HBx5.out.put3 (.slice ae' (ne + rl) ce') (.slice ap' (np + tn) cp') (.slice (some ⟨gk, 0, none⟩) mk ck)
   obtain ⟨X6, hX6⟩ : ∃ X6, X6 = ((Xr.setCell ⟨g, 2, none⟩ (.slice ae' (ne + rl) ce')).setCell ⟨g, 3, none⟩ (.slice ap' (np + tn) cp')).setCell ⟨g, 4, none⟩ (.slice (some ⟨gk, 0, none⟩) mk ck) := ⟨_, rfl⟩
   rw [← hX6] at hput
   have HX6 := Lib.hid hX6
   have HPut := Lib.hid hput
   clear hX6 hput
   go_upto_region 13 with fail
   rw [← HX6.out]
   clear HX6 c0 c1 c2 c3 c4 z1 z2 z3 z4
   obtain ⟨c0, c1, c2, c3, c4⟩ := HPut.out.1.cells
   have z1 := HPut.out.1.fz 1
   have hput1 := HPut.out.1.put1 ((s.n : Int) + 1)
   obtain ⟨X7, hX7⟩ : ∃ X7, X7 = X6.setCell ⟨g, 1, none⟩ (.int .i64 ((s.n : Int) + 1)) := ⟨_, rfl⟩
   rw [← hX7] at hput1
   have HX7 := Lib.hid hX7
   have f57 : Fb Xr X7 (fun k => k = g) := (Fb.of_grown HPut.out.2 (fun i h => by cases h; rfl)).trans (Fb.of_grown hput1.2 (fun i h => by cases h; rfl))
   have hsn : (s.n : Int) + 1 ≤ 9223372036854775807 := by have := hfew; rw [← HLn.out.1] at this; omega
   have HEnd : Hid (AddP w B g r s e (bO g (.slice ae ne ce) (.slice ap np cp)) (.returned (.int .i64 0)) X7) := by
    have d := HBd3.out
    have hg5 := HG5.out
    have n1 : ∀ {v : Value} {n : Nat} {xs : List Nat} {B' : Nat}, Own Xr B' v n xs → ∀ k, v.ownBlock = some k → ¬ k = g := fun o k hk z => by subst z; exact HBx5.out.ne o hk
    refine add_done HC0.out (Int.not_le.2 HLe.out) HFf.out (ve := .slice ae' (ne + rl) ce') (vp := .slice ap' (np + tn) cp') (vl := .slice (some ⟨gk, 0, none⟩) mk ck) ?_ (HB5.out.trans (f57.below (Nat.le_trans hB HB5.out.size) (fun k hk => by subst hk; exact d.bg))) (HF5.out.trans (f57.mono (fun k _ h => .inl h)))
    have he1 : (addB r s (keyL e) e.val).es = s.es ++ recL sh R e.val := by
     unfold addB esOf
     rw [← HK.out, ← HSh.out, ← HRr.out]
    have he2 : (addB r s (keyL e) e.val).ps = s.ps ++ tl := HPs.out
    have he3 : (addB r s (keyL e) e.val).la = K := HK.out.symm
    have l1 : (addB r s (keyL e) e.val).es.length = ne + rl := by rw [he1, List.length_append, ← HRl2.out, ← HLn.out.1]
    have l2 : (addB r s (keyL e) e.val).ps.length = np + tn := by rw [he2, List.length_append, ← HTn.out, ← HLn.out.2.1]
    have hk4 := HKo4.out.2.lt
    have hkey : ∀ k, (Value.slice (some ⟨gk, 0, none⟩) mk ck).ownBlock = some k → X.heap.size ≤ k ∧ k < X3.heap.size := HKo3.out.2.lt
    have hpn : ∀ k, (Value.slice ap' (np + tn) cp').ownBlock = some k → k < w.heap.size ∧ (Value.slice ap np cp).ownBlock = some k ∨ X3.heap.size ≤ k ∧ k < X4.heap.size := fun k hk => by
     rcases HG.out.loc k hk with h | h
     ·exact .inl ⟨HLo.out.2.1 k h, h⟩
     ·exact .inr ⟨h, (HG.out.new.2.lt k hk).2⟩
    have hen : ∀ k, (Value.slice ae' (ne + rl) ce').ownBlock = some k → k < w.heap.size ∧ (Value.slice ae ne ce).ownBlock = some k ∨ X4.heap.size ≤ k := fun k hk => by
     rcases hg5.loc k hk with h | h
     ·exact .inl ⟨HLo.out.1 k h, h⟩
     ·exact .inr h
    have hw3 := HX23.out.size
    have hxs := HXs.out.1
    refine ⟨?_, ?_, ?_, ?_, fun k h1 h2 => ?_, fun k h1 h2 => ?_, fun k h1 h2 => ?_, d.bg, by rw [l1, l2]; exact hszl, ?_, ?_, ?_, ?_, ?_⟩
    ·exact hput1.1
    ·rw [l1, he1]
     exact hg5.new.fb f57 (n1 hg5.new)
    ·rw [l2, he2]
     exact HPn5.out.fb f57 (n1 HPn5.out)
    ·rw [he3, ← HMk.out]
     exact ((HKo5.out.fb f57 (n1 HKo5.out)).mono (Nat.le_trans hB (Nat.le_of_lt hxs)))
    ·rcases hen k h1 with h | h <;> rcases hpn k h2 with h' | h'
     ·exact d.ep k h.2 h'.2
     ·omega
     ·omega
     ·omega
    ·have := hkey k h2
     rcases hen k h1 with h | h <;> omega
    ·have := hkey k h2
     rcases hpn k h1 with h | h <;> omega
    ·rw [he3, ← HMk.out]; omega
    ·rw [l1]
     show s.n + 1 ≤ ne + rl
     have := d.few
     rw [← HLn.out.1] at this
     omega
    ·rw [he1]
     have hbR : Bys R := by rw [HRr.out]; exact fun x hx => HKb.out x (List.mem_of_mem_drop hx)
     have hR2 : R.length ≤ mk := by rw [HRr.out, List.length_drop, ← HMk.out]; omega
     unfold recL
     exact Bys.app d.byE (Bys.app (uintL_bys _ (by omega)) (Bys.app (uintL_bys _ (by omega)) (Bys.app hbR (Bys.app (uintL_bys _ (by have := HVn.out; omega)) HVb.out))))
    ·rw [he2, HTl.out]
     refine Bys.app d.byP ?_
     split
     ·intro x hx
      simp [be4] at hx
      omega
     ·intro x hx; simp at hx
    ·rw [he3]
     exact HKb.out
   clear f57 hput1 hX7 HPut
   go_wp2
   rw [← HX7.out]
   go_ret
   exact HEnd.out
 ·have hc1 : ¬ (E : Int) = 0 := by omega
  have HEnd : Hid (AddP w B g r s e (bO g (.slice ae ne ce) (.slice ap np cp)) (.returned (.int .i64 (E : Int))) X1) := by
   have := add_bad (w := w) (by rw [← HC.out]; exact hc0) HBd1.out HBw.out (HFw.out (bO g (.slice ae ne ce) (.slice ap np cp)))
   rw [← HC.out] at this
   exact this
  go_wp2
  go_ret
  exact HEnd.out
end Go.Proofs.YtchebhafabhabaaGreatDoor

namespace Go.Proofs.YtchebhafabhabaaGreatDoor
open Go.RowKit
set_option linter.unusedVariables false

structure RdL5 (w : World) (a : Option Addr) (kp : Nat) (xs : List EntD) : Prop where
 cap : xs.length ≤ kp ∧ kp ≤ maxLen
 at_ : xs = [] ∨ ∃ b off, a = some ⟨b, off, none⟩ ∧ ∀ (i : Nat) x, xs[i]? = some x → ∀ (j : Nat) u, x.cells.toList[j]? = some u → w.cell? ⟨b, off + i * 7 + j, none⟩ = some u
 ok : ∀ x ∈ xs, EntD.Ok w x
 nn : a = none → kp = 0
theorem RdL5.later {w w' : World} {a : Option Addr} {kp : Nat} {xs : List EntD} (h : RdL5 w a kp xs) (hb : Below w.heap.size w w') : RdL5 w' a kp xs := by
 refine ⟨h.cap, ?_, fun x hx => (h.ok x hx).later hb, h.nn⟩
 rcases h.at_ with h1 | ⟨b, off, rfl, hc⟩
 ·exact .inl h1
 ·exact .inr ⟨b, off, rfl, fun i x hi j u hj => by rw [hb.cell (p := ⟨b, off + i * 7 + j, none⟩) (World.block_lt_of_cell? w _ (hc i x hi j u hj))]; exact hc i x hi j u hj⟩
def bldS (r : Nat) : Bs → List EntD → Nat × Bs
 | s, [] => (0, s)
 | s, e :: t => if (addE r s e).1 = 0 then bldS r (addE r s e).2 t else ((addE r s e).1, s)
def BuP (W : World) (r : Int) (l : List EntD) (x : Ending) (W' : World) : Prop :=
 ∃ (v : Value) (E : Nat), x = .returned (.tuple #[v, .int .i64 (E : Int)]) ∧ Below W.heap.size W W' ∧
  (¬ (1 ≤ r ∧ r ≤ 16) → E = 1 ∧ v = .slice none 0 0) ∧
  (1 ≤ r ∧ r ≤ 16 → (bldS r.toNat Bs.zero l).1 ≠ 0 → E = (bldS r.toNat Bs.zero l).1 ∧ v = .slice none 0 0) ∧
  (1 ≤ r ∧ r ≤ 16 → (bldS r.toNat Bs.zero l).1 = 0 → l = [] → E = 54 ∧ v = .slice none 0 0) ∧
  (1 ≤ r ∧ r ≤ 16 → (bldS r.toNat Bs.zero l).1 = 0 → l ≠ [] → E = 0 ∧ ∃ a m c, v = .slice a m c ∧ Own W' W.heap.size v m (blockL (bldS r.toNat Bs.zero l).2.es (bldS r.toNat Bs.zero l).2.ps (bldS r.toNat Bs.zero l).2.n r.toNat))
theorem addE_n (r : Nat) (s : Bs) (e : EntD) (h : (addE r s e).1 = 0) : (addE r s e).2.n = s.n + 1 := by
 unfold addE at *
 split at h
 ·rename_i k; exact absurd h k
 ·split at h
  ·cases h
  ·split at h
   ·cases h
   ·rename_i k1 k2 k3
    rw [if_neg k1, if_neg k2, if_neg k3]
    rfl
theorem bldS_n (r : Nat) : ∀ (l : List EntD) (s : Bs), (bldS r s l).1 = 0 → (bldS r s l).2.n = s.n + l.length
 | [], s, _ => by simp [bldS]
 | e :: t, s, h => by
  simp only [bldS] at *
  split at h
  ·rename_i k
   rw [if_pos k, bldS_n r t _ h, addE_n r s e k]
   simp only [List.length_cons]
   omega
  ·rename_i k; exact absurd h k
theorem bd_zero {w : World} {B g r : Nat} (h : BBox w g (r : Int) 0 (.slice none 0 0) (.slice none 0 0) (.slice none 0 0)) (hg : B ≤ g) : Bd w B g r Bs.zero (.slice none 0 0) (.slice none 0 0) (.slice none 0 0) :=
 ⟨h, ownNil _ _, ownNil _ _, ownNil _ _, (fun k hk => by cases hk), (fun k hk => by cases hk), (fun k hk => by cases hk), hg, by simp [Bs.zero], by simp [Bs.zero], by simp [Bs.zero], (fun x hx => by simp [Bs.zero] at hx), (fun x hx => by simp [Bs.zero] at hx), (fun x hx => by simp [Bs.zero] at hx)⟩
end Go.Proofs.YtchebhafabhabaaGreatDoor

namespace Go.Proofs.YtchebhafabhabaaGreatDoor
open Go.RowKit
set_option linter.unusedVariables false

theorem RdL5.cel {w : World} {a : Option Addr} {kp : Nat} {xs : List EntD} (h : RdL5 w a kp xs) {i : Nat} {x : EntD} (hi : xs[i]? = some x) : ∃ b off, a = some ⟨b, off, none⟩ ∧ w.cell? ⟨b, off + i * 7, none⟩ = some x.vr ∧ w.cell? ⟨b, off + i * 7 + 1, none⟩ = some (.int .i64 x.fam) ∧ w.cell? ⟨b, off + i * 7 + 2, none⟩ = some x.vq ∧ w.cell? ⟨b, off + i * 7 + 3, none⟩ = some (.int .i64 x.ts) ∧ w.cell? ⟨b, off + i * 7 + 4, none⟩ = some (.int .i64 x.seq) ∧ w.cell? ⟨b, off + i * 7 + 5, none⟩ = some (.int .i64 x.kind) ∧ w.cell? ⟨b, off + i * 7 + 6, none⟩ = some x.vv := by
 rcases h.at_ with h1 | ⟨b, off, rfl, hc⟩
 ·rw [h1] at hi; simp at hi
 ·exact ⟨b, off, rfl, hc i x hi 0 _ rfl, hc i x hi 1 _ rfl, hc i x hi 2 _ rfl, hc i x hi 3 _ rfl, hc i x hi 4 _ rfl, hc i x hi 5 _ rfl, hc i x hi 6 _ rfl⟩
set_option maxRecDepth 100000 in
theorem finish_none {w : World} {g : Nat} {r : Int} {ve vp vl : Value} (h : BBox w g r ((0 : Nat) : Int) ve vp vl) : Calls Tryz.prog 41 #[.pointer (some ⟨g, 0, none⟩)] w fun x w' => x = .returned (.tuple #[.slice none 0 0, .int .i64 54]) ∧ w' = w := by
 obtain ⟨c0, c1, c2, c3, c4⟩ := h.cells
 clear h
 go_enter Tryz.func41, Tryz.ntmps41
 go_wp2
 go_ret2
 exact ⟨rfl, rfl⟩
structure Bu (W : World) (g r : Nat) (l : List EntD) (wr : World) (k : Nat) : Prop where
 bd : ∃ s ve vp vl, Bd wr W.heap.size g r s ve vp vl ∧ s.n = k ∧ bldS r Bs.zero l = bldS r s (l.drop k)
 below : Below W.heap.size W wr
set_option maxRecDepth 100000 in
set_option maxHeartbeats 4000000 in
theorem build_any {W : World} {a : Option Addr} {cap : Nat} {l : List EntD} (r : Int) (hr : RdL5 W a cap l) (ht : Tab W) :
  Calls Tryz.prog 18 #[.int .i64 r, .slice a l.length cap] W fun x W' => BuP W r l x W' := by
 obtain ⟨N, hN⟩ : ∃ N, N = l.length := ⟨_, rfl⟩
 rw [← hN]
 have HN := Lib.hid hN
 have HR := Lib.hid hr
 have HT := Lib.hid ht
 have hNm : N ≤ 9223372036854775807 := by have := hr.cap; unfold maxLen at this; omega
 have HBg := Lib.hid (begin_any r W)
 clear hN hr ht
 go_enter Tryz.func18, Tryz.ntmps18
 go_wp2_with fail
 refine Calls.mono HBg.out ?_
 rintro z X ⟨bX, h | h⟩
 ·obtain ⟨hno, rfl⟩ := h
  have HEnd : Hid (BuP W r l (.returned (.tuple #[.slice none 0 0, .int .i64 1])) X) := ⟨_, 1, rfl, bX, fun _ => ⟨rfl, rfl⟩, fun k => absurd k hno, fun k => absurd k hno, fun k => absurd k hno⟩
  clear bX hno HBg
  go_wp2
  go_ret2
  exact HEnd.out
 obtain ⟨hr16, g, hg, rfl, hbx⟩ := h
 obtain ⟨rn, rfl⟩ : ∃ rn : Nat, r = (rn : Int) := ⟨r.toNat, by omega⟩
 have r1 : 1 ≤ rn := by omega
 have r16 : rn ≤ 16 := by omega
 have HS0 : Hid (Bu W g rn l X 0) := ⟨⟨Bs.zero, _, _, _, bd_zero hbx hg, rfl, by simp⟩, bX⟩
 have HGg : Hid (W.heap.size ≤ g) := hg
 clear hbx bX hr16 HBg hg
 go_wp2
 go_loopw [21] (fun i wr => ∃ k : Nat, k ≤ N ∧ i = .int .i64 (k : Int) ∧ Hid (Bu W g rn l wr k)) (fun i _ => N - (intOf i).toNat)
 case atStart => exact ⟨0, Nat.zero_le _, rfl, HS0⟩
 case round =>
  clear HS0
  obtain ⟨k, hk, rfl, HU⟩ := hrel
  have k0 : (0 : Int) ≤ (k : Int) := by omega
  by_cases hlt : k < N
  ·have hlt2 : (k : Int) < (N : Int) := by omega
   have hl2 : k < l.length := by rw [← HN.out]; exact hlt
   obtain ⟨e, he⟩ : ∃ e, l[k]? = some e := ⟨l[k], List.getElem?_eq_getElem hl2⟩
   have hrd := HR.out.later HU.out.below
   have hok := hrd.ok e (List.mem_of_getElem? he)
   obtain ⟨b, off, rfl, d0, d1, d2, d3, d4, d5, d6⟩ := hrd.cel he
   have hcap := hrd.cap
   have hdrop : l.drop k = e :: l.drop (k + 1) := by
    rw [List.drop_eq_getElem_cons hl2]
    congr 1
    rw [List.getElem?_eq_getElem hl2] at he
    exact Option.some.inj he
   have A5 := (Below.refl wr.heap.size wr).alloc (Nat.le_refl _) (.cells e.cells 40)
   have eb := EBox.new wr e
   obtain ⟨X5, hX5⟩ : ∃ X5, X5 = wr.alloc (.cells e.cells 40) := ⟨_, rfl⟩
   rw [← hX5] at A5 eb
   obtain ⟨s, ve, vp, vl, hbd, hsn, hbs⟩ := HU.out.bd
   have b5 := HU.out.below.trans (A5.mono HU.out.below.size)
   have hadd := add_any (e := e) (hbd.later A5) ⟨r1, r16⟩ b5.size (fun wx fx => by
    have hb : Below W.heap.size X5 wx := fx.below b5.size (fun k hk => by
     rcases hk with rfl | hk | hk
     ·exact HGg.out
     ·exact (hbd.es.2.lt k hk).1
     ·exact (hbd.ps.2.lt k hk).1)
    exact (HR.out.later (b5.trans hb)).ok e (List.mem_of_getElem? he))
   obtain ⟨E, hE⟩ : ∃ E, E = (addE rn s e).1 := ⟨_, rfl⟩
   have HStep : Hid (bldS rn Bs.zero l = if (addE rn s e).1 = 0 then bldS rn (addE rn s e).2 (l.drop (k + 1)) else ((addE rn s e).1, s)) := by
    unfold Hid
    rw [hbs, hdrop]
    rfl
   have HSn : Hid (E = 0 → (addE rn s e).2.n = k + 1) := fun h => by rw [addE_n rn s e (by rw [← hE]; exact h), hsn]
   obtain ⟨_, p1, q1, e1, -⟩ := hok.1
   obtain ⟨_, p2, q2, e2, -⟩ := hok.2.1
   obtain ⟨_, p3, q3, e3, -⟩ := hok.2.2
   have hce : e.cells = #[.slice p1 e.row.length q1, .int .i64 e.fam, .slice p2 e.qual.length q2, .int .i64 e.ts, .int .i64 e.seq, .int .i64 e.kind, .slice p3 e.val.length q3] := by unfold EntD.cells; rw [e1, e2, e3]
   have x0 := EBox.vr eb
   have x1 := EBox.fam eb
   have x2 := EBox.vq eb
   have x3 := EBox.ts eb
   have x4 := EBox.seq eb
   have x5 := EBox.kind eb
   have x6 := EBox.vv eb
   rw [e1] at d0 x0
   rw [e2] at d2 x2
   rw [e3] at d6 x6
   rw [hce] at hX5 hadd
   have HX5 := Lib.hid hX5
   have HAdd := Lib.hid hadd
   have HEe := Lib.hid hE
   have HB5 := Lib.hid b5
   obtain ⟨z1, hz1⟩ : ∃ z, z = e.row.length := ⟨_, rfl⟩
   obtain ⟨z2, hz2⟩ : ∃ z, z = e.qual.length := ⟨_, rfl⟩
   obtain ⟨z3, hz3⟩ : ∃ z, z = e.val.length := ⟨_, rfl⟩
   rw [← hz1] at d0 x0 HX5 HAdd
   rw [← hz2] at d2 x2 HX5 HAdd
   rw [← hz3] at d6 x6 HX5 HAdd
   clear hrd he hok hdrop A5 eb hX5 hbd hsn hbs b5 hadd hE e1 e2 e3 hce hl2 HU hz1 hz2 hz3
   go_upto_region 7 with fail
   rw [← HX5.out]
   clear HX5 d0 d1 d2 d3 d4 d5 d6
   go_wp2_with fail
   refine Calls.mono HAdd.out ?_
   rintro z X6 ⟨rfl, ⟨ve', vp', vl', hbd'⟩, bl6, -⟩
   rw [← HEe.out]
   have HBd6 := Lib.hid hbd'
   have HB6 := Lib.hid (HB5.out.trans bl6)
   clear hbd' bl6 HAdd x0 x1 x2 x3 x4 x5 x6
   by_cases h0 : E = 0
   ·have h00 : (E : Int) = 0 := by omega
    have HU2 : Hid (Bu W g rn l X6 (k + 1)) := ⟨⟨_, ve', vp', vl', HBd6.out, HSn.out h0, by rw [HStep.out, if_pos (by rw [← HEe.out]; exact h0)]⟩, HB6.out⟩
    subst h0
    clear h00
    go_wp2
    go_roundw
    case rel => exact ⟨k + 1, by omega, by go_num, HU2⟩
    case measure => simp only [intOf]; omega
   ·have h00 : ¬ (E : Int) = 0 := by omega
    have HEnd : Hid (BuP W (rn : Int) l (.returned (.tuple #[.slice none 0 0, .int .i64 (E : Int)])) X6) := by
     have hb : bldS rn Bs.zero l = (E, s) := by rw [HStep.out, if_neg (by rw [← HEe.out]; exact h0), ← HEe.out]
     refine ⟨_, E, rfl, HB6.out, fun k => absurd ⟨by omega, by omega⟩ k, fun _ _ => ?_, fun _ k => ?_, fun _ k => ?_⟩
     ·rw [Int.toNat_natCast, hb]; exact ⟨rfl, rfl⟩
     ·rw [Int.toNat_natCast, hb] at k; exact absurd k h0
     ·rw [Int.toNat_natCast, hb] at k; exact absurd k h0
    go_wp2
    go_ret2
    exact HEnd.out
  ·have hge : ¬ (k : Int) < (N : Int) := by omega
   obtain ⟨s, ve, vp, vl, hbd, hsn, hbs⟩ := HU.out.bd
   have hkN : k = N := by omega
   have hd : l.drop k = [] := List.drop_of_length_le (by rw [← HN.out]; omega)
   rw [hd] at hbs
   have hbs2 : bldS rn Bs.zero l = (0, s) := hbs
   obtain ⟨ae, ce, rfl⟩ := own_form hbd.es.2
   obtain ⟨ap, cp, rfl⟩ := own_form hbd.ps.2
   have HBs := Lib.hid hbs2
   have HBe := Lib.hid HU.out.below
   by_cases hk0 : s.n = 0
   ·have hbx := hbd.box
    rw [hk0] at hbx
    have HFn := Lib.hid (finish_none hbx)
    have HEnd : Hid (BuP W (rn : Int) l (.returned (.tuple #[.slice none 0 0, .int .i64 54])) wr) := by
     have hl0 : l = [] := List.eq_nil_of_length_eq_zero (by rw [← HN.out]; omega)
     refine ⟨_, 54, rfl, HBe.out, fun k => absurd ⟨by omega, by omega⟩ k, fun _ k => ?_, fun _ _ _ => ⟨rfl, rfl⟩, fun _ _ k => absurd hl0 k⟩
     rw [Int.toNat_natCast, HBs.out] at k
     exact absurd rfl k
    clear hbx hbd hbs hbs2 hsn hd hk0
    go_wp2_with fail
    refine Calls.mono HFn.out ?_
    rintro z X7 ⟨rfl, rfl⟩
    go_wp2
    go_ret2
    exact HEnd.out
   ·have hse := hbd.size
    have hfe := hbd.few
    have hfn := finish_any (n := s.n) (r := rn) hbd.box (hbd.es.rd hbd.byE (by omega)) (hbd.ps.rd hbd.byP (by omega)) (by omega) (by omega) (by omega) (by omega) (by omega) (HT.out.later HBe.out) sumL_lt
    have HFn := Lib.hid hfn
    have hN0 : N ≠ 0 := by omega
    clear hfn hbd hbs hbs2 hd hse hfe
    go_wp2_with fail
    refine Calls.mono HFn.out ?_
    rintro z X7 ⟨a7, m7, c7, rfl, own7, b7⟩
    have HEnd : Hid (BuP W (rn : Int) l (.returned (.tuple #[.slice a7 m7 c7, .int .i64 0])) X7) := by
     refine ⟨_, 0, rfl, HBe.out.trans (b7.mono HBe.out.size), fun k => absurd ⟨by omega, by omega⟩ k, fun _ k => ?_, fun _ _ k => ?_, fun _ _ _ => ⟨rfl, a7, m7, c7, rfl, ?_⟩⟩
     ·rw [Int.toNat_natCast, HBs.out] at k
      exact absurd rfl k
     ·rw [k] at HN
      exact absurd HN.out hN0
     ·rw [Int.toNat_natCast, HBs.out]
      exact own7.mono HBe.out.size
    clear own7 b7 HFn
    go_wp2
    go_ret2
    exact HEnd.out
end Go.Proofs.YtchebhafabhabaaGreatDoor

namespace Go.Proofs.YtchebhafabhabaaGreatDoor
open Go.RowKit
set_option linter.unusedVariables false

def LBox (w : World) (g : Nat) (r n : Int) (ve vp : Value) : Prop := w.heap[g]? = some (.cells #[.int .i64 r, .int .i64 n, ve, vp] 107 (0, 0))
theorem LBox.cells {w : World} {g : Nat} {r n : Int} {ve vp : Value} (h : LBox w g r n ve vp) : w.cell? ⟨g, 0, none⟩ = some (.int .i64 r) ∧ w.cell? ⟨g, 1, none⟩ = some (.int .i64 n) ∧ w.cell? ⟨g, 2, none⟩ = some ve ∧ w.cell? ⟨g, 3, none⟩ = some vp := by
 unfold LBox at h
 simp [World.cell?, h]
theorem LBox.fb {w w' : World} {O : Nat → Prop} {g : Nat} {r n : Int} {ve vp : Value} (h : LBox w g r n ve vp) (f : Fb w w' O) (k : ¬ O g) : LBox w' g r n ve vp := by
 unfold LBox at *
 rw [f.block g (Array.getElem?_eq_some_iff.1 h).1 k]
 exact h
structure It where
 number : Nat
 place : Nat
 shared : Nat
 key : List Nat
 val : List Nat
def walkS {S : Type} (E : List Nat) (A : S → It → Bool × S) : Nat → Nat → Nat → List Nat → S → Nat × Bool × S
 | 0, _, p, _, st => (p, true, st)
 | f + 1, n, p, key, st => match recordOf E p with
  | none => (p, false, st)
  | some (sh, r, v) => if key.length < sh then (p, false, st) else
   if (A st ⟨n, p, sh, key.take sh ++ (E.drop r.1).take r.2, (E.drop v.1).take v.2⟩).1 = true then walkS E A f (n + 1) (v.1 + v.2) (key.take sh ++ (E.drop r.1).take r.2) (A st ⟨n, p, sh, key.take sh ++ (E.drop r.1).take r.2, (E.drop v.1).take v.2⟩).2
   else (p, false, (A st ⟨n, p, sh, key.take sh ++ (E.drop r.1).take r.2, (E.drop v.1).take v.2⟩).2)
structure Asker (S M : Type) (fn : Nat) (cs : Array Value) (N Lo : Nat) (I : S × M → World → Prop) (O : S × M → Nat → Prop) (A : S → It → Bool × S) : Prop where
 enters : ∀ args w, (callFunc fn args).run Tryz.prog w = .ok (.enter fn args) w
 lt : ∀ st w k, I st w → O st k → k < w.heap.size
 stays : ∀ st w w' (O' : Nat → Prop), I st w → Fb w w' O' → (∀ k, k < w.heap.size → O st k → ¬ O' k) → (∀ k, O' k → Lo ≤ k) → I st w'
 asks : ∀ st w (it : It) (ak av : Option Addr) (kc vc kn vn : Nat), I st w → it.number < N → kn = it.key.length → vn = it.val.length → Rd w (.slice ak kn kc) it.key → Rd w (.slice av vn vc) it.val → kn ≤ 131072 → vn ≤ 131072 →
  (∀ w', Fb w w' (O st) → Rd w' (.slice ak kn kc) it.key ∧ Rd w' (.slice av vn vc) it.val) →
  Calls Tryz.prog fn (#[.agg #[.int .i64 (it.number : Int), .int .i64 (it.place : Int), .int .i64 (it.shared : Int), .slice ak kn kc, .slice av vn vc]] ++ cs) w fun e w' => e = .returned (.bool (A st.1 it).1) ∧ ∃ mm, I ((A st.1 it).2, mm) w' ∧ Fb w w' (O st) ∧ ∀ k, O ((A st.1 it).2, mm) k → O st k ∨ w.heap.size ≤ k
theorem Rd.fb {w w' : World} {O : Nat → Prop} {b off n c : Nat} {bs : List Nat} (h : Rd w (.slice (some ⟨b, off, none⟩) n c) bs) (f : Fb w w' O) (k : ¬ O b) : Rd w' (.slice (some ⟨b, off, none⟩) n c) bs := by
 obtain ⟨h1, a, cap, h2, h3, h4, h5, h6, h7⟩ := h
 refine ⟨h1, a, cap, h2, h3, h4, h5, h6, ?_⟩
 rcases h7 with h7 | ⟨b', o', rfl, hc⟩
 ·exact .inl h7
 ·simp only [Value.slice.injEq, Option.some.injEq, Addr.mk.injEq] at h2
  obtain ⟨⟨rfl, rfl, -⟩, -, -⟩ := h2
  refine .inr ⟨_, _, rfl, fun i hi => ?_⟩
  have := hc i hi
  have lt := World.block_lt_of_cell? w _ this
  unfold World.cell? at *
  rw [f.block _ lt k]
  exact this
theorem RecB.fb {w w' : World} {O : Nat → Prop} {g : Nat} {a b c d : Value} (h : RecB w g a b c d) (f : Fb w w' O) (k : ¬ O g) : RecB w' g a b c d := by
 unfold RecB at *
 rw [f.block g (Array.getElem?_eq_some_iff.1 h).1 k]
 exact h
theorem Own.take {w : World} {B n c k : Nat} {a : Option Addr} {xs : List Nat} (h : Own w B (.slice a n c) n xs) (hk : k ≤ n) : Own w B (.slice a k c) k (xs.take k) := by
 have hl : (xs.take k).length = k := by rw [List.length_take, ← h.1]; omega
 refine ⟨hl.symm, by rw [bv_length, hl]; omega, ?_⟩
 rcases h.2.2 with ⟨h1, h2⟩ | ⟨g, cap, cur, h3, h4, h5, h6, h7, h8, h9⟩
 ·simp only [Value.slice.injEq] at h1
  obtain ⟨rfl, -, rfl⟩ := h1
  have : k = 0 := by omega
  subst this
  exact .inl ⟨rfl, rfl⟩
 ·simp only [Value.slice.injEq] at h3
  obtain ⟨rfl, -, rfl⟩ := h3
  refine .inr ⟨g, c, cur, rfl, h4, h5, by omega, h7, h8, ?_⟩
  have e : cur.toList.take (k * 1) = (cur.toList.take (n * 1)).take (k * 1) := by rw [List.take_take, Nat.min_eq_left (by omega)]
  rw [e, h9]
  unfold bv
  rw [← List.map_take, Nat.mul_one]
end Go.Proofs.YtchebhafabhabaaGreatDoor
