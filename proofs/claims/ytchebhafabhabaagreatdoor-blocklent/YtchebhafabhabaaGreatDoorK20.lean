import Derived.Test.YtchebhafabhabaaGreatDoorK19
import Derived.RangeFuncNested
import Derived.RangeFuncBound
import Derived.RangeFuncCalls
import Derived.RangeFuncLeaves
import Derived.OwnWalkIn
import Derived.TacticsInMore
import Derived.LoopNIn
import Derived.LoopIn
import Derived.Sort.QuietIn
import Derived.Shelf.RegionOpen
namespace Go.Proofs.YtchebhafabhabaaGreatDoor
open Go.RowKit Go.Shelf
set_option linter.unusedVariables false
attribute [local go_sem] Oper.semAt_some

def AbB {β : Type} (B : Nat) (J : β → World → Prop) : Prop := ∀ s w w', B ≤ w.heap.size → J s w → Below B w w' → J s w'
theorem below_putB {B : Nat} {w : World} {r : Nat} {o : Obj} (o' : Obj) (hB : B ≤ w.heap.size) (hr : B ≤ r) (ho : w.heap[r]? = some o) (hc : o.isCells = false) : Below B w (w.putObj r o') := (Below.refl B w).grown (grownBy_putObj' w r o') hB (fun k e => by cases e; exact hr)
theorem wide_roomB (k : Nat) : Fence.wide.room k := fun d h => by cases h
theorem roundIn_anyDepthB {m m' : Nat} {P : Program} {l : Nat} {f : FuncId} {tmps : Array Value} {assign body : Code} {w : World} {R : Ending → World → Prop} (h : RoundIn Fence.wide m P l f tmps assign body w R) : RoundIn Fence.wide m' P l f tmps assign body w R := ⟨h.1, fun c cs _ => h.2 c cs (wide_roomB _)⟩

structure OthB (B : Nat) (w w' : World) : Prop where
 size : w.heap.size ≤ w'.heap.size
 same : ∀ (i : Nat) (o : Obj), B ≤ i → w.heap[i]? = some o → o.isCells = false → w'.heap[i]? = some o
theorem OthB.trans {B : Nat} {a b c : World} (h : OthB B a b) (k : OthB B b c) : OthB B a c := ⟨Nat.le_trans h.size k.size, fun i o hB hi ho => k.same i o hB (h.same i o hB hi ho) ho⟩
theorem OthB.put {B r : Nat} {w : World} (o : Obj) (hr : r < B) : OthB B w (w.putObj r o) := ⟨by simp, fun i u hB hi hu => (World.putObj_heap_other (by omega)).trans hi⟩
theorem OthB.from {B B' : Nat} {w w' : World} (h : KeepsFrom B w w') (hB : B ≤ B') : OthB B' w w' := ⟨h.size, fun i o k hi ho => h.same i o (Nat.le_trans hB k) hi ho⟩

def SeqB {α : Type} (P : Program) (gf : Nat) (lb : Array Value) (encs : α → Array Value) (Gd : Nat → List α → α → World → Prop) (Kp : Nat → World → World → Prop) (S Sp : List α → Prop) (w : World) : Prop :=
 ∀ (l n : Nat) (J Jx : List α → World → Prop) (W : World), Below w.heap.size w W → (∀ s X, J s X → W.heap.size ≤ X.heap.size) → AbB W.heap.size J → AbB W.heap.size Jx →
  (∀ m pre x W1, J pre W1 → Gd W.heap.size pre x W1 → YieldAt Fence.wide m P l (encs x) W1 fun e W' => (e = .returned (.bool true) ∧ J (pre ++ [x]) W' ∧ Kp W.heap.size W1 W') ∨ (e = .returned (.bool false) ∧ Jx (pre ++ [x]) W' ∧ OthB W.heap.size W1 W')) →
  J [] W → CallsIn Fence.wide n P gf (#[.func (.yield l) #[] #[]] ++ lb) W fun e W' => (∃ v, e = .returned v) ∧ ((∃ xs, S xs ∧ J xs W') ∨ (∃ pre, Sp pre ∧ Jx pre W'))

end Go.Proofs.YtchebhafabhabaaGreatDoor

namespace Go.Proofs.YtchebhafabhabaaGreatDoor
open Go.RowKit
set_option linter.unusedVariables false

def walkOk {S : Type} (E : List Nat) (A : S → It → Bool × S) (Ok : S → It → Prop) : Nat → Nat → Nat → List Nat → S → Prop
 | 0, _, _, _, _ => True
 | f + 1, n, p, key, st => match recordOf E p with
  | none => True
  | some (sh, r, v) => if key.length < sh then True else
   Ok st ⟨n, p, sh, key.take sh ++ (E.drop r.1).take r.2, (E.drop v.1).take v.2⟩ ∧ ((A st ⟨n, p, sh, key.take sh ++ (E.drop r.1).take r.2, (E.drop v.1).take v.2⟩).1 = true → walkOk E A Ok f (n + 1) (v.1 + v.2) (key.take sh ++ (E.drop r.1).take r.2) (A st ⟨n, p, sh, key.take sh ++ (E.drop r.1).take r.2, (E.drop v.1).take v.2⟩).2)
structure AskerO (S M : Type) (fn : Nat) (cs : Array Value) (N Lo : Nat) (I : S × M → World → Prop) (O : S × M → Nat → Prop) (A : S → It → Bool × S) (Ok : S → It → Prop) : Prop where
 enters : ∀ args w, (callFunc fn args).run Tryz.prog w = .ok (.enter fn args) w
 lt : ∀ st w k, I st w → O st k → k < w.heap.size
 stays : ∀ st w w' (O' : Nat → Prop), I st w → Fb w w' O' → (∀ k, k < w.heap.size → O st k → ¬ O' k) → (∀ k, O' k → Lo ≤ k) → I st w'
 asks : ∀ st w (it : It) (ak av : Option Addr) (kc vc kn vn : Nat), Ok st.1 it → I st w → it.number < N → kn = it.key.length → vn = it.val.length → Rd w (.slice ak kn kc) it.key → Rd w (.slice av vn vc) it.val → kn ≤ 131072 → vn ≤ 131072 →
  (∀ w', Fb w w' (O st) → Rd w' (.slice ak kn kc) it.key ∧ Rd w' (.slice av vn vc) it.val) →
  Calls Tryz.prog fn (#[.agg #[.int .i64 (it.number : Int), .int .i64 (it.place : Int), .int .i64 (it.shared : Int), .slice ak kn kc, .slice av vn vc]] ++ cs) w fun e w' => e = .returned (.bool (A st.1 it).1) ∧ ∃ mm, I ((A st.1 it).2, mm) w' ∧ Fb w w' (O st) ∧ ∀ k, O ((A st.1 it).2, mm) k → O st k ∨ w.heap.size ≤ k
set_option maxRecDepth 100000 in
set_option maxHeartbeats 4000000 in
theorem walk_ok {S M : Type} {fn : Nat} {cs : Array Value} {I : S × M → World → Prop} {O : S × M → Nat → Prop} {A : S → It → Bool × S} {W : World} {g r n b off ne ce : Nat} {Lo : Nat} {Ok : S → It → Prop} (ha : AskerO S M fn cs n Lo I O A Ok) {vp : Value} {E : List Nat} {st : S × M} (m p : Nat)
  (hbx : LBox W g (r : Int) (n : Int) (.slice (some ⟨b, off, none⟩) ne ce) vp) (hE : Rd W (.slice (some ⟨b, off, none⟩) ne ce) E) (hLo : Lo ≤ W.heap.size) (hI : I st W) (hg : ¬ O st g) (hb : ¬ O st b) (hgl : g < W.heap.size) (hbl : b < W.heap.size) (hel : E.length ≤ 131072) (hn : n < 4294967296) (hm : m ≤ 4294967296) (hp : p ≤ E.length) (hwk : walkOk E A Ok (n - m) m p [] st.1) :
  Calls Tryz.prog 74 #[.pointer (some ⟨g, 0, none⟩), .int .i64 (m : Int), .int .i64 (p : Int), .func (.func fn) #[] cs] W fun e W' => WaP W (O st) I O (walkS E A (n - m) m p [] st.1) e W' := by
 obtain ⟨O0, hO0⟩ : ∃ O0, O0 = O st := ⟨_, rfl⟩
 obtain ⟨res, hres⟩ : ∃ res, res = walkS E A (n - m) m p [] st.1 := ⟨_, rfl⟩
 rw [← hO0, ← hres]
 have HRes := Lib.hid hres
 have HOk0 := Lib.hid hwk
 clear hwk
 have H0 : Hid (Wa W O0 g r n b off ne ce vp E I O W p (.slice none 0 0) [] st) := ⟨hbx, hE, ownNil _ _, (fun x hx => by cases hx), hI, Fb.refl _ _, (fun k hk => .inl (by rw [hO0]; exact hk)), (fun k hk => by cases hk), hp, Nat.zero_le _⟩
 have HA := Lib.hid ha
 have HLo := Lib.hid hLo
 have HO0 : Hid (¬ O0 g ∧ ¬ O0 b ∧ g < W.heap.size ∧ b < W.heap.size) := by unfold Hid; rw [hO0]; exact ⟨hg, hb, hgl, hbl⟩
 have hent := ha.enters
 have hnE : ne = E.length := (rd_lens hE).1
 have HnE := Lib.hid hnE
 have hne : ne ≤ 131072 := by omega
 clear hLo hO0 hres ha hbx hE hI hg hb hgl hbl hnE hp
 go_enter Tryz.func74, Tryz.ntmps74
 go_wp2
 go_loopw [1, 2, 10, 11, 12] (fun nu at_ ky _ _ wr => ∃ (i q kn : Nat) (ak : Option Addr) (kc : Nat), i ≤ 4294967296 ∧ (m ≤ i ∧ (i ≤ n ∨ i = m)) ∧ nu = .int .i64 (i : Int) ∧ at_ = .int .i64 (q : Int) ∧ ky = .slice ak kn kc ∧ q ≤ 131072 ∧ Hid (∃ key st', kn = key.length ∧ Wa W O0 g r n b off ne ce vp E I O wr q (.slice ak kn kc) key st' ∧ res = walkS E A (n - i) i q key st'.1 ∧ walkOk E A Ok (n - i) i q key st'.1)) (fun nu _ _ _ _ _ => n - (intOf nu).toNat)
 case atStart => exact ⟨m, p, 0, none, 0, hm, ⟨Nat.le_refl _, .inr rfl⟩, rfl, rfl, rfl, by have := H0.out.pl; omega, [], st, rfl, H0.out, HRes.out, HOk0.out⟩
 case round =>
  clear H0 HRes HOk0
  obtain ⟨i, q, kn, ak, kc, hi4, hmi, rfl, rfl, rfl, hq, HW⟩ := hrel
  have i0 : (0 : Int) ≤ (i : Int) := by omega
  obtain ⟨key, st', hkn, hw, hres, hwk⟩ := HW.out
  obtain ⟨c0, c1, c2, c3⟩ := hw.box.cells
  by_cases hlt : i < n
  ·have hlt2 : (i : Int) < (n : Int) := by omega
   have hrec := readRecord_any hw.ents q (by rw [HnE.out]; exact hw.pl)
   have HRec := Lib.hid hrec
   have HWa := Lib.hid hw
   have HRes := Lib.hid hres
   have HOk := Lib.hid hwk
   have HKn := Lib.hid hkn
   clear hrec hw hres hkn HW hwk
   go_wp2_with fail
   refine Calls.mono HRec.out ?_
   rintro z X1 ⟨b1, h | h⟩
   ·obtain ⟨hno, rfl⟩ := h
    have b11 : Below wr.heap.size wr (X1.alloc (.cells #[.int .i64 0, .slice none 0 0, .slice none 0 0, .int .i64 0] 109)) := b1.alloc b1.size _
    have HEnd : Hid (WaP W O0 I O res (.returned (.tuple #[.int .i64 (q : Int), .bool false])) (X1.alloc (.cells #[.int .i64 0, .slice none 0 0, .slice none 0 0, .int .i64 0] 109))) := by
     have hr1 : res = (q, false, st'.1) := by
      rw [HRes.out, show n - i = (n - i - 1) + 1 by omega]
      simp only [walkS, hno]
     rw [hr1]
     exact ⟨rfl, st'.2, HA.out.stays _ _ _ (fun _ => False) HWa.out.inv (Fb.of_below b11) (fun _ _ _ h => h) (fun _ h => h.elim), HWa.out.fr.trans (Fb.of_below b11), HWa.out.loc⟩
    clear hno b1 b11 HRec c0 c1 c2 c3
    go_wp2
    go_ret2
    exact HEnd.out
   ·obtain ⟨sh, rr, vv, hrc, o1, d1, o2, d2, rfl, rd1, rd2⟩ := h
    have ok := recordOf_ok hrc HWa.out.pl
    obtain ⟨rl, hrl⟩ : ∃ rl, rl = rr.2 := ⟨_, rfl⟩
    obtain ⟨vl, hvl⟩ : ∃ vl, vl = vv.2 := ⟨_, rfl⟩
    obtain ⟨en, hen⟩ : ∃ en, en = vv.1 + vv.2 := ⟨_, rfl⟩
    obtain ⟨R, hR⟩ : ∃ R, R = (E.drop rr.1).take rr.2 := ⟨_, rfl⟩
    obtain ⟨V, hV⟩ : ∃ V, V = (E.drop vv.1).take vv.2 := ⟨_, rfl⟩
    rw [← hR, ← hrl] at rd1
    rw [← hV, ← hvl] at rd2
    rw [← hen, ← hrl, ← hvl]
    have hRl : rl = R.length := (rd_lens rd1).1
    have hVl : vl = V.length := (rd_lens rd2).1
    have hE1 := hel
    have en1 : en ≤ E.length := by rw [hen]; exact ok.2.2.2
    have rl1 : q + rl ≤ en := by rw [hrl, hen]; omega
    have vl1 : vl ≤ en := by rw [hvl, hen]; omega
    have shE : sh ≤ E.length := ok.1
    have b2 : Below wr.heap.size wr (X1.alloc (.cells #[.int .i64 (sh : Int), .slice (some ⟨b, o1, none⟩) rl d1, .slice (some ⟨b, o2, none⟩) vl d2, .int .i64 (en : Int)] 109)) := b1.alloc b1.size _
    have rb : RecB (X1.alloc (.cells #[.int .i64 (sh : Int), .slice (some ⟨b, o1, none⟩) rl d1, .slice (some ⟨b, o2, none⟩) vl d2, .int .i64 (en : Int)] 109)) X1.heap.size (.int .i64 (sh : Int)) (.slice (some ⟨b, o1, none⟩) rl d1) (.slice (some ⟨b, o2, none⟩) vl d2) (.int .i64 (en : Int)) := heap_alloc_new X1 _
    have bx : Below X1.heap.size X1 (X1.alloc (.cells #[.int .i64 (sh : Int), .slice (some ⟨b, o1, none⟩) rl d1, .slice (some ⟨b, o2, none⟩) vl d2, .int .i64 (en : Int)] 109)) := (Below.refl _ _).alloc (Nat.le_refl _) _
    obtain ⟨X2, hX2⟩ : ∃ X2, X2 = X1.alloc (.cells #[.int .i64 (sh : Int), .slice (some ⟨b, o1, none⟩) rl d1, .slice (some ⟨b, o2, none⟩) vl d2, .int .i64 (en : Int)] 109) := ⟨_, rfl⟩
    rw [← hX2] at b2 rb bx
    obtain ⟨f0, f1, f2, f3⟩ := rb.cells
    have HX2 := Lib.hid hX2
    have HB2 := Lib.hid b2
    have HRb := Lib.hid rb
    have HR1 := Lib.hid (rd1.later bx)
    have HR2 := Lib.hid (rd2.later bx)
    have HRc := Lib.hid hrc
    have HDat := Lib.hid (And.intro hR (And.intro hV (And.intro hen (And.intro hRl hVl))))
    have HX1 : Hid (wr.heap.size ≤ X1.heap.size) := b1.size
    clear ok hrl hvl hen hR hV hRl hVl rd1 rd2 b1 b2 rb bx hX2 hrc HRec
    go_upto_region 5 with fail
    rw [← HX2.out]
    clear HX2 c0 c1 c2 c3
    by_cases hsh : kn < sh
    ·have hsh2 : (kn : Int) < (sh : Int) := by omega
     have HEnd : Hid (WaP W O0 I O res (.returned (.tuple #[.int .i64 (q : Int), .bool false])) X2) := by
      have hr1 : res = (q, false, st'.1) := by
       rw [HRes.out, show n - i = (n - i - 1) + 1 by omega]
       simp only [walkS, HRc.out]
       rw [if_pos (by rw [← HKn.out]; exact hsh)]
      rw [hr1]
      exact ⟨rfl, st'.2, HA.out.stays _ _ _ (fun _ => False) HWa.out.inv (Fb.of_below HB2.out) (fun _ _ _ h => h) (fun _ h => h.elim), HWa.out.fr.trans (Fb.of_below HB2.out), HWa.out.loc⟩
     go_wp2
     go_ret2
     exact HEnd.out
    have hsh2 : ¬ (kn : Int) < (sh : Int) := by omega
    have hsh3 : (sh : Int) ≤ (kn : Int) := by omega
    have hwo : Own wr W.heap.size (.slice ak kn kc) kn key := by have := HWa.out.own; rw [← HKn.out] at this; exact this
    have hkc : kn ≤ kc := (rd_lens (hwo.rd HWa.out.by_ (by rw [HKn.out]; have := HWa.out.kl; omega))).2.1
    have hkc2 : (sh : Int) ≤ (kc : Int) := by omega
    have hcut := (hwo.take (k := sh) (by omega)).later HB2.out
    have HCut := Lib.hid hcut
    clear hwo hcut
    go_upto_region 7 with fail
    have hkb : ∀ k, (Value.slice ak sh kc).ownBlock = some k → W.heap.size ≤ k ∧ k < wr.heap.size ∧ ¬ O st' k := fun k hk => by
     have h1 : (Value.slice ak kn kc).ownBlock = some k := by rw [← hk]; cases ak <;> rfl
     have h2 := HWa.out.own.2.lt k h1
     exact ⟨h2.1, h2.2, HWa.out.apart k h1⟩
    have HKb := Lib.hid hkb
    have hWX : W.heap.size ≤ X2.heap.size := Nat.le_trans HWa.out.fr.size HB2.out.size
    have HWX := Lib.hid hWX
    clear hkb hWX f0 f1 f2 f3
    have BD : Fb X2 X2.drew (fun k => (Value.slice ak sh kc).ownBlock = some k) := Fb.of_below ((Below.refl _ _).drew)
    refine wp_region_noPanic ?_
    refine wp_region_held_drew (S := fun wx => Fb X2 wx (fun k => (Value.slice ak sh kc).ownBlock = some k)) (by kernel_rfl) BD (fun hHeld => ?_)
    refine wpAnyH_take (i := 0) (oi := { dst := some 40, op := _, type := _, pos := _, after := _, guard := _ }) (v := .slice ak kn kc) rfl (by kernel_rfl) (by kernel_rfl) (by kernel_rfl) (fun _ _ _ h => h) (Or.inl ⟨by kernel_rfl, fun wy hy => by first | (go_simp; done)⟩) (by assumption) ?_
    try simp only [Act.put, List.setIfInBounds_toArray, List.set_cons_zero, List.set_cons_succ]
    refine wpAnyH_take (i := 1) (oi := { dst := some 41, op := _, type := _, pos := _, after := _, guard := _ }) (v := .pointer (some ⟨X1.heap.size, 0, none⟩)) rfl (by kernel_rfl) (by kernel_rfl) (by kernel_rfl) (fun _ _ _ h => h) (Or.inl ⟨by kernel_rfl, fun wy hy => by first | (go_simp; done)⟩) (by assumption) ?_
    try simp only [Act.put, List.setIfInBounds_toArray, List.set_cons_zero, List.set_cons_succ]
    refine wpAnyH_take (i := 2) (oi := { dst := some 42, op := _, type := _, pos := _, after := _, guard := _ }) (v := .int .i64 (sh : Int)) rfl (by kernel_rfl) (by kernel_rfl) (by kernel_rfl) (fun _ _ _ h => h) (Or.inl ⟨by kernel_rfl, fun wy hy => by (obtain ⟨f0, f1, f2, f3⟩ := (HRb.out.fb hy (fun hk => by have := (HKb.out _ hk).2.1; have := HX1.out; omega)).cells; go_simp; done)⟩) (by assumption) ?_
    try simp only [Act.put, List.setIfInBounds_toArray, List.set_cons_zero, List.set_cons_succ]
    refine wpAnyH_take (i := 3) (oi := { dst := some 43, op := _, type := _, pos := _, after := _, guard := _ }) (v := .slice ak sh kc) rfl (by kernel_rfl) (by kernel_rfl) (by kernel_rfl) (fun _ _ _ h => h) (Or.inl ⟨by kernel_rfl, fun wy hy => by first | (go_simp; done) | (cases ak <;> (go_simp; done))⟩) (by assumption) ?_
    try simp only [Act.put, List.setIfInBounds_toArray, List.set_cons_zero, List.set_cons_succ]
    refine wpAnyH_take (i := 4) (oi := { dst := some 44, op := _, type := _, pos := _, after := _, guard := _ }) (v := .pointer (some ⟨X1.heap.size, 1, none⟩)) rfl (by kernel_rfl) (by kernel_rfl) (by kernel_rfl) (fun _ _ _ h => h) (Or.inl ⟨by kernel_rfl, fun wy hy => by first | (go_simp; done)⟩) (by assumption) ?_
    try simp only [Act.put, List.setIfInBounds_toArray, List.set_cons_zero, List.set_cons_succ]
    refine wpAnyH_take (i := 5) (oi := { dst := some 45, op := _, type := _, pos := _, after := _, guard := _ }) (v := .slice (some ⟨b, o1, none⟩) rl d1) rfl (by kernel_rfl) (by kernel_rfl) (by kernel_rfl) (fun _ _ _ h => h) (Or.inl ⟨by kernel_rfl, fun wy hy => by (obtain ⟨f0, f1, f2, f3⟩ := (HRb.out.fb hy (fun hk => by have := (HKb.out _ hk).2.1; have := HX1.out; omega)).cells; go_simp; done)⟩) (by assumption) ?_
    try simp only [Act.put, List.setIfInBounds_toArray, List.set_cons_zero, List.set_cons_succ]
    refine wpAnyH_ready (rs := [6]) (by kernel_rfl) (by simp) ?_
    refine AllReadyH.cons (o := { dst := some 46, op := _, type := _, pos := _, after := _, guard := _ }) rfl (fun K hK => ?_) AllReadyH.nil
    refine bstep_append _ _ rfl (B := W.heap.size) (n := sh) (xs := key.take sh) (bs := R) rfl (HCut.out.later ((Below.refl _ _).drew)) rfl (HR1.out.later ((Below.refl _ _).drew)) (by have := HDat.out.2.2.2.1; omega) HWX.out (fun a3 c3 X3 own3 gr3 lo3 => ?_)
    have f23 : Fb X2 X3 (fun k => (Value.slice ak sh kc).ownBlock = some k) := BD.trans (Fb.of_grown gr3 (fun i h => h))
    have hRl : rl = R.length := HDat.out.2.2.2.1
    rw [← hRl] at own3 lo3 ⊢
    refine hK.out _ _ f23 (fun hHeld => ?_)
    clear hK K
    try simp only [Act.put, List.setIfInBounds_toArray, List.set_cons_zero, List.set_cons_succ]
    refine wpAnyH_take (i := 7) (oi := { dst := some 10, op := _, type := _, pos := _, after := _, guard := _ }) (v := .slice a3 (sh + rl) c3) rfl (by kernel_rfl) (by kernel_rfl) (by kernel_rfl) (fun _ _ _ h => h) (Or.inl ⟨by kernel_rfl, fun wy hy => by first | (go_simp; done)⟩) (by assumption) ?_
    try simp only [Act.put, List.setIfInBounds_toArray, List.set_cons_zero, List.set_cons_succ]
    refine wpAnyH_done (by kernel_rfl) (NoPanic.normal ?_) _
    obtain ⟨K', hK'⟩ : ∃ K', K' = key.take sh ++ R := ⟨_, rfl⟩
    rw [← hK'] at own3
    have hkl' : sh + rl = K'.length := own3.1
    have hbR : Bys R := HR1.out.1
    have hbK : Bys K' := by rw [hK']; exact Bys.app (fun x hx => HWa.out.by_ x (List.mem_of_mem_take hx)) hbR
    have hskn : kn ≤ q := by rw [HKn.out]; exact HWa.out.kl
    have b2 := HB2.out
    have hX23 : X2.heap.size ≤ X3.heap.size := f23.size
    have hk3 : ∀ k, (Value.slice a3 (sh + rl) c3).ownBlock = some k → W.heap.size ≤ k ∧ k < X3.heap.size ∧ ¬ O st' k := fun k hk => by
     refine ⟨(own3.2.lt k hk).1, (own3.2.lt k hk).2, ?_⟩
     rcases lo3 k hk with h | h
     ·exact (HKb.out k h).2.2
     ·intro ho
      have := HA.out.lt st' wr k HWa.out.inv ho
      have := b2.size
      have h' : k = X2.heap.size := h
      omega
    have hOst : ∀ k, O st' k → O0 k ∨ W.heap.size ≤ k := HWa.out.loc
    have hng : ¬ O st' g := fun h => by rcases hOst g h with h | h; exact HO0.out.1 h; have := HO0.out.2.2.1; omega
    have hnb : ¬ O st' b := fun h => by rcases hOst b h with h | h; exact HO0.out.2.1 h; have := HO0.out.2.2.2; omega
    have hkg : ∀ k, (Value.slice ak sh kc).ownBlock = some k → k ≠ g ∧ k ≠ b := fun k hk => by have := (HKb.out k hk).1; have := HO0.out.2.2; omega
    have fw3 : Fb wr X3 (fun k => (Value.slice ak sh kc).ownBlock = some k) := (Fb.of_below b2).trans f23
    have hI3 : I st' X3 := HA.out.stays _ _ _ _ HWa.out.inv fw3 (fun k _ ho hk => (HKb.out k hk).2.2 ho) (fun k hk => Nat.le_trans HLo.out (HKb.out k hk).1)
    have hbx3 : LBox X3 g (r : Int) (n : Int) (.slice (some ⟨b, off, none⟩) ne ce) vp := HWa.out.box.fb fw3 (fun h => (hkg g h).1 rfl)
    have hen3 : Rd X3 (.slice (some ⟨b, off, none⟩) ne ce) E := HWa.out.ents.fb fw3 (fun h => (hkg b h).2 rfl)
    have hv3 : Rd X3 (.slice (some ⟨b, o2, none⟩) vl d2) V := HR2.out.fb f23 (fun h => (hkg b h).2 rfl)
    have hrb3 := HRb.out.fb f23 (fun hk => by have := (HKb.out _ hk).2.1; have := HX1.out; omega)
    have hkr3 : Rd X3 (.slice a3 (sh + rl) c3) K' := own3.rd hbK (by omega)
    have hok : Ok st'.1 ⟨i, q, sh, K', V⟩ ∧ ((A st'.1 ⟨i, q, sh, K', V⟩).1 = true → walkOk E A Ok (n - (i + 1)) (i + 1) en K' (A st'.1 ⟨i, q, sh, K', V⟩).2) := by
     have hq := HOk.out
     rw [show n - i = (n - (i + 1)) + 1 by omega] at hq
     simp only [walkOk, HRc.out] at hq
     rw [if_neg (by rw [← HKn.out]; exact hsh), ← HDat.out.1, ← HDat.out.2.1, ← HDat.out.2.2.1, ← hK'] at hq
     exact hq
    have hask : Calls Tryz.prog fn (#[.agg #[.int .i64 (i : Int), .int .i64 (q : Int), .int .i64 (sh : Int), .slice a3 (sh + rl) c3, .slice (some ⟨b, o2, none⟩) vl d2]] ++ cs) X3 fun e w' => e = .returned (.bool (A st'.1 ⟨i, q, sh, K', V⟩).1) ∧ ∃ mm, I ((A st'.1 ⟨i, q, sh, K', V⟩).2, mm) w' ∧ Fb X3 w' (O st') ∧ ∀ k, O ((A st'.1 ⟨i, q, sh, K', V⟩).2, mm) k → O st' k ∨ X3.heap.size ≤ k := HA.out.asks st' X3 ⟨i, q, sh, K', V⟩ a3 (some ⟨b, o2, none⟩) c3 d2 (sh + rl) vl hok.1 hI3 (by simpa using hlt) hkl' HDat.out.2.2.2.2 hkr3 hv3 (by omega) (by omega) (fun w' f' => ⟨(own3.fb f' (fun k hk => (hk3 k hk).2.2)).rd hbK (by omega), hv3.fb f' hnb⟩)
    obtain ⟨it, hit⟩ : ∃ it : It, it = ⟨i, q, sh, K', V⟩ := ⟨_, rfl⟩
    rw [← hit] at hask hok
    have HOk2 := Lib.hid hok.2
    clear hok
    have HAsk := Lib.hid hask
    have HRb3 := Lib.hid hrb3
    have HOwn3 := Lib.hid own3
    have HF03 : Hid (Fb W X3 O0) := ⟨fw3.os.trans HWa.out.fr.os, fw3.tape.trans HWa.out.fr.tape, fw3.output.trans HWa.out.fr.output, Nat.le_trans HWa.out.fr.size fw3.size, fun k hk ho => (fw3.block k (Nat.lt_of_lt_of_le hk HWa.out.fr.size) (fun h => by have := (HKb.out k h).1; omega)).trans (HWa.out.fr.block k hk ho)⟩
    have HStep : Hid (res = if (A st'.1 it).1 = true then walkS E A (n - (i + 1)) (i + 1) en K' (A st'.1 it).2 else (q, false, (A st'.1 it).2)) := by
     unfold Hid
     rw [HRes.out, show n - i = (n - (i + 1)) + 1 by omega]
     simp only [walkS, HRc.out]
     rw [if_neg (by rw [← HKn.out]; exact hsh), ← HDat.out.1, ← HDat.out.2.1, ← HDat.out.2.2.1, ← hK', ← hit]
    have HK3 := Lib.hid hk3
    have HN2 := Lib.hid (And.intro hng hnb)
    have HBx3 := Lib.hid hbx3
    have HEn3 := Lib.hid hen3
    have HBk := Lib.hid hbK
    have HKl := Lib.hid hkl'
    have HOst := Lib.hid hOst
    obtain ⟨f0, f1, f2, f3⟩ := hrb3.cells
    clear hHeld own3 gr3 lo3 f23 hK' hkl' hbR hbK b2 hX23 hk3 hOst hng hnb hkg fw3 hI3 hbx3 hen3 hv3 hrb3 hkr3 hask hit BD hRl
    go_simp
    go_step
    obtain ⟨B, hB⟩ : ∃ B, B = (A st'.1 it).1 := ⟨_, rfl⟩
    obtain ⟨st2, hst2⟩ : ∃ st2, st2 = (A st'.1 it).2 := ⟨_, rfl⟩
    rw [← hB, ← hst2] at HAsk HStep HOk2
    clear hB hst2
    go_wp2_with fail
    refine Calls.mono HAsk.out ?_
    rintro z X4 ⟨rfl, mm, hI4, hf4, hlo4⟩
    have hf04 : Fb W X4 O0 := ⟨hf4.os.trans HF03.out.os, hf4.tape.trans HF03.out.tape, hf4.output.trans HF03.out.output, Nat.le_trans HF03.out.size hf4.size, fun k hk ho => (hf4.block k (Nat.lt_of_lt_of_le hk HF03.out.size) (fun h => by rcases HOst.out k h with h | h; exact ho h; omega)).trans (HF03.out.block k hk ho)⟩
    have hlo : ∀ k, O (st2, mm) k → O0 k ∨ W.heap.size ≤ k := fun k hk => by
     rcases hlo4 k hk with h | h
     ·exact HOst.out k h
     ·exact .inr (Nat.le_trans HF03.out.size h)
    cases B with
    | false =>
     have HEnd : Hid (WaP W O0 I O res (.returned (.tuple #[.int .i64 (q : Int), .bool false])) X4) := by
      have hr1 : res = (q, false, st2) := by rw [HStep.out]; rfl
      rw [hr1]
      exact ⟨rfl, mm, hI4, hf04, hlo⟩
     clear hI4 hf4 hlo4 hf04 hlo HAsk f0 f1 f2 f3
     go_wp2
     go_ret2
     exact HEnd.out
    | true =>
     have hr1 : res = walkS E A (n - (i + 1)) (i + 1) en K' st2 := by rw [HStep.out]; rfl
     have hrb4 := HRb3.out.fb hf4 (fun h => by
      have h1 := HA.out.lt st' wr _ HWa.out.inv h
      have := HX1.out
      omega)
     have HW4 : Hid (∃ key st', sh + rl = key.length ∧ Wa W O0 g r n b off ne ce vp E I O X4 en (.slice a3 (sh + rl) c3) key st' ∧ res = walkS E A (n - (i + 1)) (i + 1) en key st'.1 ∧ walkOk E A Ok (n - (i + 1)) (i + 1) en key st'.1) := by
      refine ⟨K', (st2, mm), HKl.out, ⟨HBx3.out.fb hf4 HN2.out.1, HEn3.out.fb hf4 HN2.out.2, ?_, HBk.out, hI4, hf04, hlo, fun k hk h => ?_, en1, by rw [← HKl.out]; have := HWa.out.kl; have := HKn.out; omega⟩, hr1, HOk2.out rfl⟩
      ·rw [← HKl.out]
       exact HOwn3.out.fb hf4 (fun k hk => (HK3.out k hk).2.2)
      ·rcases hlo4 k h with h | h
       ·exact (HK3.out k hk).2.2 h
       ·have := (HK3.out k hk).2.1; omega
     obtain ⟨g0, g1, g2, g3⟩ := hrb4.cells
     clear hI4 hf4 hlo4 hf04 hlo HAsk f0 f1 f2 f3 hr1 hrb4
     go_wp2
     go_roundw
     case rel => exact ⟨i + 1, en, sh + rl, a3, c3, by omega, ⟨by omega, .inl (by omega)⟩, by go_num, rfl, rfl, by omega, HW4⟩
     case measure => simp only [intOf]; omega
  ·have hge : ¬ (i : Int) < (n : Int) := by omega
   have HEnd : Hid (WaP W O0 I O res (.returned (.tuple #[.int .i64 (q : Int), .bool true])) wr) := by
    have hr1 : res = (q, true, st'.1) := by
     rw [hres, show n - i = 0 by omega]
     rfl
    rw [hr1]
    exact ⟨rfl, st'.2, hw.inv, hw.fr, hw.loc⟩
   clear hw hres hkn HW hwk
   go_wp2
   go_ret2
   exact HEnd.out
end Go.Proofs.YtchebhafabhabaaGreatDoor

namespace Go.Proofs.YtchebhafabhabaaGreatDoor
open Go.RowKit Go.Shelf
set_option linter.unusedVariables false
attribute [local go_sem] Oper.semAt_some

def SeqT {α : Type} (P : Program) (gf : Nat) (lb : Array Value) (encs : α → Array Value) (Gd : Nat → List α → α → World → Prop) (Kp : Nat → World → World → Prop) (S Sp : List α → Prop) (w : World) : Prop :=
 ∀ (l n : Nat) (J Jx : List α → World → Prop) (W : World), (∀ s X, ¬ Jx s X) → w.heap.size + 2 ≤ W.heap.size → Below w.heap.size w W → (∀ s X, J s X → W.heap.size ≤ X.heap.size) → AbB W.heap.size J → AbB W.heap.size Jx →
  (∀ m pre x W1, J pre W1 → Gd W.heap.size pre x W1 → YieldAt Fence.wide m P l (encs x) W1 fun e W' => (e = .returned (.bool true) ∧ J (pre ++ [x]) W' ∧ Kp W.heap.size W1 W') ∨ (e = .returned (.bool false) ∧ Jx (pre ++ [x]) W' ∧ OthB W.heap.size W1 W')) →
  J [] W → CallsIn Fence.wide n P gf (#[.func (.yield l) #[] #[]] ++ lb) W fun e W' => (∃ v, e = .returned v) ∧ ((∃ xs, S xs ∧ J xs W') ∨ (∃ pre, Sp pre ∧ Jx pre W'))

theorem range_t {α : Type} {P : Program} {g : Operand} {ps : Array Tmp} {assign body : Code} {Q : Exit → Act → World → Prop} {a : Act} {w : World} {n : Nat} {gf : Nat} {lb : Array Value}
  (hg : a.eval g = .func (.func gf) #[] lb) (eg : ∀ args w, (callFunc gf args).run P w = .ok (.enter gf args) w)
  {encs : α → Array Value} {Gd : Nat → List α → α → World → Prop} {Kp : Nat → World → World → Prop} {S Sp : List α → Prop} (hseq : SeqT P gf lb encs Gd Kp S Sp w)
  (hKt : ∀ {A B C : World}, Kp (w.heap.size + 2) A B → Kp (w.heap.size + 2) B C → Kp (w.heap.size + 2) A C) (hKb : ∀ (W : World) (o o' : Obj), W.heap[w.heap.size + 1]? = some o → o.isCells = false → Kp (w.heap.size + 2) W (W.putObj (w.heap.size + 1) o')) (hps : ∀ x, (encs x).size = ps.size)
  (I : List α → World → Prop) (Ix : Code → List α → World → Prop) (hIs : ∀ s X, I s X → w.heap.size ≤ X.heap.size) (hI : AbB w.heap.size I) (hIx : ∀ c, AbB w.heap.size (Ix c)) (h0 : I [] w)
  (Ax : List α → α → Act → World → Prop) (hAx : ∀ pre x a' (W : World) (o o' : Obj), W.heap[w.heap.size + 1]? = some o → o.isCells = false → Ax pre x a' W → Ax pre x a' (W.putObj (w.heap.size + 1) o'))
  (hassign : ∀ (l : Nat) (pre : List α) (x : α) (W : World) (K : Act → World → Prop), I pre W → w.heap.size + 2 ≤ W.heap.size → Gd (w.heap.size + 2) pre x W → (∀ a' W', KeepsFrom w.heap.size W W' → Kp (w.heap.size + 2) W W' → I pre W' → Ax pre x a' W' → K a' W') →
   assign.wpIn (Fence.wide.inRound l) n P (Exit.then K (fun _ _ _ => False)) { tmps := (ps.zip (encs x)).foldl (fun t (p, v) => t.setIfInBounds p v) a.tmps, defers := [] } W)
  (hbody : ∀ (l : Nat) (pre : List α) (x : α) (a' : Act) (W : World), I pre W → Ax pre x a' W → body.wpIn (Fence.wide.inRound l) n P (ownPostG w.heap.size (Kp (w.heap.size + 2)) I Ix (pre ++ [x]) W) a' W)
  (hdone : ∀ (D : Nat) (xs : List α) (W : World), w.heap.size ≤ D → S xs → I xs W → W.heap[D]? = some (.deferred (some [])) → Q .normal { a with defers := { target := .collected D, args := #[] } :: a.defers } W)
  (hstop : ∀ (D : Nat) (c : Code) (pre : List α) (W : World), w.heap.size ≤ D → Sp pre → Ix c pre W → W.heap[D]? = some (.deferred (some [])) → c.wpIn Fence.wide n P Q { a with defers := { target := .collected D, args := #[] } :: a.defers } W)
  (hIxs : ∀ c s X, Ix c s X → w.heap.size ≤ X.heap.size) (hF : ∀ c s X, ¬ Ix c s X) :
  (Code.rangeFunc g ps assign body).wpIn Fence.wide n P Q a w := by
 refine wpIn_rangeFunc fun fn hfn => ?_
 let rc : LoopState → Option Code → Obj := fun st pe => .loop { state := st, pending := pe, fn, tmps := a.tmps, params := ps, assign, body, defers := w.heap.size }
 let Bk : Obj → World → Prop := fun r W => W.heap[w.heap.size + 1]? = some r ∧ W.heap[w.heap.size]? = some (.deferred (some []))
 have T0 : Below w.heap.size w ((w.alloc (.deferred (some []))).alloc (rc .ready none)) := ((Below.refl _ w).alloc (Nat.le_refl _) _).alloc (by simp) _
 have k0 : Bk (rc .ready none) ((w.alloc (.deferred (some []))).alloc (rc .ready none)) := by
  constructor
  ·have := World.alloc_heap_new (w.alloc (.deferred (some []))) (rc .ready none); rwa [World.size_alloc] at this
  ·exact (Below.heap_alloc _ _ _ (by simp)).trans (World.alloc_heap_new w _)
 have hsz : ((w.alloc (.deferred (some []))).alloc (rc .ready none)).heap.size = w.heap.size + 2 := by simp
 obtain ⟨W1, hW1⟩ : ∃ W1, W1 = ((w.alloc (.deferred (some []))).alloc (rc .ready none)) := ⟨_, rfl⟩
 rw [← hW1] at T0 k0 hsz
 refine ⟨w.heap.size + 1, [{ target := .collected w.heap.size, args := #[] }], W1, { target := .fn (.func gf) lb, args := #[.func (.yield (w.heap.size + 1)) #[] #[]] }, W1, gf, #[.func (.yield (w.heap.size + 1)) #[] #[]] ++ lb, W1, ?_, ?_, fun _ _ => trivial, ?_, fun h => (by cases h), ?_⟩
 ·rw [hW1]; exact run_enterLoop_outer _ _ _ _ _
 ·simp only [resolve, hg]
  simp [go_sem]
 ·simp [invoke, go_sem, eg]
 have keepB : ∀ (r : Obj) (X Y : World), Bk r X → Below (w.heap.size + 2) X Y → Bk r Y := fun r X Y h t => ⟨(t.block _ (by omega)).trans h.1, (t.block _ (by omega)).trans h.2⟩
 have putB : ∀ (r r' : Obj) (X : World), Bk r X → Bk r' (X.putObj (w.heap.size + 1) r') := fun r r' X h => ⟨World.putObj_heap_same (Array.getElem?_eq_some_iff.1 h.1).1, (World.putObj_heap_other (by omega)).trans h.2⟩
 have putT : ∀ (st : LoopState) (pe : Option Code) (r' : Obj) (X : World), w.heap.size ≤ X.heap.size → Bk (rc st pe) X → Below w.heap.size X (X.putObj (w.heap.size + 1) r') := fun st pe r' X hX h => below_putB r' hX (by omega) h.1 rfl
 have keepF : ∀ (r : Obj) (X Y : World), r.isCells = false → Bk r X → KeepsFrom w.heap.size X Y → Bk r Y := fun r X Y hc h k => ⟨k.same _ _ (by omega) h.1 hc, k.same _ _ (Nat.le_refl _) h.2 rfl⟩
 refine CallsIn.mono (hseq (w.heap.size + 1) (n - 1) (fun pre W => I pre W ∧ w.heap.size + 2 ≤ W.heap.size ∧ Bk (rc .ready none) W) (fun pre W => ∃ c, Ix c pre W ∧ Bk (rc .done (some c)) W) _ (fun s X ⟨c, h, _⟩ => hF c s X h) (Nat.le_of_eq hsz.symm) T0 (fun s X h => by rw [hsz]; exact h.2.1)
  (fun s X Y hX h t => ⟨hI s X Y (hIs s X h.1) h.1 (t.mono (by rw [hsz]; omega)), Nat.le_trans h.2.1 t.size, keepB _ X Y h.2.2 (by rw [hsz] at t; exact t)⟩)
  (fun s X Y hX ⟨c, h1, h2⟩ t => ⟨c, hIx c s X Y (by rw [hsz] at hX; omega) h1 (t.mono (by rw [hsz]; omega)), keepB _ X Y h2 (by rw [hsz] at t; exact t)⟩)
  ?_ ⟨hI [] w _ (Nat.le_refl _) h0 T0, by rw [hsz]; omega, k0⟩) ?_
 ·rw [hsz]
  rintro m pre x W ⟨hi, hsW, hb⟩ hgd
  refine ⟨fn, _, assign, body, run_yield hb.1 (hps x), ?_⟩
  refine roundIn_anyDepthB (roundIn_of_wpIn hfn (hassign _ pre x W _ hi hsW hgd ?_))
  intro a' Wa kf kp hia hax
  have hba := keepF _ _ _ rfl hb kf
  have hsa : w.heap.size ≤ Wa.heap.size := hIs _ _ hia
  refine ⟨_, run_beginRound hba.1 rfl, ?_⟩
  have t1 := putT _ _ (rc .busy none) Wa hsa hba
  have hb1 := putB _ (rc .busy none) Wa hba
  have hi1 := hI pre _ _ hsa hia t1
  refine wpIn_mono (hbody _ pre x a' _ hi1 (hAx pre x a' _ _ _ hba.1 rfl hax)) ?_
  have fin : ∀ (jump : Option Code) (W3 : World), Bk (rc .busy none) W3 → (Instr.endRound (w.heap.size + 1) jump).run P W3 = .ok (.bool jump.isNone) (W3.putObj (w.heap.size + 1) (rc (if jump.isNone then .ready else .done) jump)) := fun jump W3 h => run_endRound jump h.1
  have out : ∀ (c : Code) (W3 : World), KeepsFrom w.heap.size (Wa.putObj (w.heap.size + 1) (rc .busy none)) W3 ∧ Ix c (pre ++ [x]) W3 → ∃ v w', (Instr.endRound (w.heap.size + 1) (some c)).run P W3 = .ok v w' ∧ ((Ending.returned v = .returned (.bool true) ∧ (I (pre ++ [x]) w' ∧ w.heap.size + 2 ≤ w'.heap.size ∧ Bk (rc .ready none) w') ∧ Kp (w.heap.size + 2) W w') ∨ (Ending.returned v = .returned (.bool false) ∧ (∃ c, Ix c (pre ++ [x]) w' ∧ Bk (rc .done (some c)) w') ∧ OthB (w.heap.size + 2) W w')) := fun c W3 h => by
   have hb3 := keepF _ _ _ rfl hb1 h.1
   refine ⟨_, _, fin (some c) W3 hb3, .inr ⟨rfl, ⟨c, ?_, putB _ _ _ hb3⟩, (OthB.from kf (by omega)).trans ((OthB.put _ (by omega)).trans ((OthB.from h.1 (by omega)).trans (OthB.put _ (by omega))))⟩⟩
   exact hIx c _ _ _ (hIxs c _ _ h.2) h.2 (putT _ _ _ _ (hIxs c _ _ h.2) hb3)
  rintro e a3 W3 hp
  cases e with
  | normal =>
   obtain ⟨k3, kp3, hi3⟩ := hp
   have hb3 := keepF _ _ _ rfl hb1 k3
   have hs3 := hIs _ _ hi3
   have t3 := putT _ _ (rc .ready none) W3 hs3 hb3
   refine ⟨_, _, fin none W3 hb3, .inl ⟨rfl, ⟨hI _ _ _ hs3 hi3 t3, ?_, putB _ _ _ hb3⟩, hKt kp (hKt (hKt (hKb _ _ _ hba.1 rfl) kp3) (hKb _ _ _ hb3.1 rfl))⟩⟩
   exact (Array.getElem?_eq_some_iff.1 (putB _ (rc .ready none) _ hb3).1).1
  | ret => exact out .ret W3 hp
  | exit id => exact out (.exit id) W3 hp
  | goto t => exact out (.goto t) W3 hp
  | panic ch => exact hp.elim
  | outgrown => exact hp.elim
 ·rintro e W2 ⟨⟨v, rfl⟩, (⟨xs, hS, hi, hs2, hb⟩ | ⟨pre, hSp, c, hi, hb⟩)⟩
  ·exact ⟨none, _, run_endLoop hb.1 (by simp), hdone _ xs _ (Nat.le_refl _) hS (hI _ _ _ (hIs _ _ hi) hi (putT _ _ _ _ (hIs _ _ hi) hb)) ((World.putObj_heap_other (by omega)).trans hb.2)⟩
  ·exact ⟨some c, _, run_endLoop hb.1 (by simp), hstop _ c pre _ (Nat.le_refl _) hSp (hIx c _ _ _ (hIxs c _ _ hi) hi (putT _ _ _ _ (hIxs c _ _ hi) hb)) ((World.putObj_heap_other (by omega)).trans hb.2)⟩
end Go.Proofs.YtchebhafabhabaaGreatDoor

namespace Go.Proofs.YtchebhafabhabaaGreatDoor
open Go.RowKit Go.Shelf
set_option linter.unusedVariables false
attribute [local go_sem] Oper.semAt_some

def StF {β : Type} (B : Nat) (J : β → World → Prop) (O : β → Nat → Prop) : Prop := ∀ s w w' (C : Nat → Prop), J s w → Fb w w' C → (∀ k, k < w.heap.size → O s k → ¬ C k) → (∀ k, C k → B ≤ k) → J s w'
def RdF {α M : Type} (J : List α × M → World → Prop) (O : List α × M → Nat → Prop) (xb : α → Nat → Prop) (C : Nat → Prop) (pre : List α) (x : α) (W1 W' : World) : Prop :=
 ∃ mm', J (pre ++ [x], mm') W' ∧ Fb W1 W' (fun k => C k ∨ xb x k) ∧ ∀ k, O (pre ++ [x], mm') k → C k ∨ xb x k ∨ W1.heap.size ≤ k
def SeqF {α : Type} (M : Type) (q : Nat) (P : Program) (gf : Nat) (lb : Array Value) (encs : α → Array Value) (Gd : (Nat → Prop) → List α → α → World → Prop) (xb : α → Nat → Prop) (No : Nat → Prop) (S Sp : List α → Prop) (w : World) : Prop :=
 ∀ (l n : Nat) (J Jx : List α × M → World → Prop) (O : List α × M → Nat → Prop) (W : World) (m0 : M), Below w.heap.size w W → w.heap.size + 1 ≤ W.heap.size → (∀ st X, J st X → W.heap.size ≤ X.heap.size) → (∀ st X k, J st X → O st k → k < X.heap.size ∧ ¬ No k) → (∀ st X k, Jx st X → O st k → k < X.heap.size) → StF w.heap.size J O → StF w.heap.size Jx O →
  (∀ m pre mm x W1, J (pre, mm) W1 → Gd (O (pre, mm)) pre x W1 → YieldAt Fence.wide m P l (encs x) W1 fun e W' => (pre.length ≠ q ∧ e = .returned (.bool true) ∧ RdF J O xb (O (pre, mm)) pre x W1 W') ∨ (pre.length = q ∧ e = .returned (.bool false) ∧ RdF Jx O xb (O (pre, mm)) pre x W1 W')) →
  J ([], m0) W → CallsIn Fence.wide n P gf (#[.func (.yield l) #[] #[]] ++ lb) W fun e W' => (∃ v, e = .returned v) ∧ ((∃ xs mm, S xs ∧ J (xs, mm) W') ∨ (∃ pre mm, Sp pre ∧ Jx (pre, mm) W'))
def postF {α M : Type} (q : Nat) (I : List α × M → World → Prop) (Ix : Code → List α × M → World → Prop) (O : List α × M → Nat → Prop) (xb : α → Nat → Prop) (C : Nat → Prop) (pre : List α) (x : α) (W1 : World) : Exit → Act → World → Prop
 | .normal => fun _ W' => pre.length ≠ q ∧ RdF I O xb C pre x W1 W'
 | .ret => fun _ W' => pre.length = q ∧ RdF (Ix .ret) O xb C pre x W1 W'
 | .exit id => fun _ W' => pre.length = q ∧ RdF (Ix (.exit id)) O xb C pre x W1 W'
 | .goto t => fun _ W' => pre.length = q ∧ RdF (Ix (.goto t)) O xb C pre x W1 W'
 | .panic _ => fun _ _ => False
 | .outgrown => fun _ _ => False
theorem fb_put (X : World) (r : Nat) (o : Obj) : Fb X (X.putObj r o) (fun k => k = r) := Fb.of_grown (grownBy_putObj' X r o) (fun i e => by cases e; rfl)
theorem range_f {α M : Type} {q : Nat} {P : Program} {g : Operand} {ps : Array Tmp} {assign body : Code} {Q : Exit → Act → World → Prop} {a : Act} {w : World} {n : Nat} {gf : Nat} {lb : Array Value}
  (hg : a.eval g = .func (.func gf) #[] lb) (eg : ∀ args w, (callFunc gf args).run P w = .ok (.enter gf args) w)
  {encs : α → Array Value} {Gd : (Nat → Prop) → List α → α → World → Prop} {xb : α → Nat → Prop} {No : Nat → Prop} {S Sp : List α → Prop} (hseq : SeqF M q P gf lb encs Gd xb No S Sp w) (hps : ∀ x, (encs x).size = ps.size)
  (I : List α × M → World → Prop) (Ix : Code → List α × M → World → Prop) (O : List α × M → Nat → Prop) (m0 : M) (hNo : ∀ k, No k → k < w.heap.size)
  (hIs : ∀ st X, I st X → w.heap.size ≤ X.heap.size) (hO : ∀ st X k, I st X → O st k → k < X.heap.size ∧ ¬ No k ∧ k ≠ w.heap.size ∧ k ≠ w.heap.size + 1) (hI : StF w.heap.size I O) (hIx : ∀ c, StF w.heap.size (Ix c) O) (hOx : ∀ c st X k, Ix c st X → O st k → k < X.heap.size ∧ k ≠ w.heap.size ∧ k ≠ w.heap.size + 1) (h0 : I ([], m0) w)
  (hGd : ∀ (C C' : Nat → Prop) pre x X, (∀ k, C' k → C k) → Gd C pre x X → Gd C' pre x X) (hxb : ∀ C pre x X k, Gd C pre x X → xb x k → w.heap.size + 2 ≤ k)
  (Ax : List α → M → α → Act → World → Prop) (hAx : ∀ pre mm x a' (W : World) (o o' : Obj), W.heap[w.heap.size + 1]? = some o → o.isCells = false → Ax pre mm x a' W → Ax pre mm x a' (W.putObj (w.heap.size + 1) o'))
  (hassign : ∀ (l : Nat) (pre : List α) (mm : M) (x : α) (W : World) (K : Act → World → Prop), I (pre, mm) W → w.heap.size + 2 ≤ W.heap.size → Gd (O (pre, mm)) pre x W → (∀ a' W', Below W.heap.size W W' → Ax pre mm x a' W' → K a' W') →
   assign.wpIn (Fence.wide.inRound l) n P (Exit.then K (fun _ _ _ => False)) { tmps := (ps.zip (encs x)).foldl (fun t (p, v) => t.setIfInBounds p v) a.tmps, defers := [] } W)
  (hbody : ∀ (l : Nat) (pre : List α) (mm : M) (x : α) (a' : Act) (W : World), l = w.heap.size + 1 → (∃ r, W.heap[l]? = some (.loop r)) → I (pre, mm) W → Ax pre mm x a' W → body.wpIn (Fence.wide.inRound l) n P (postF q I Ix O xb (O (pre, mm)) pre x W) a' W)
  (hdone : ∀ (D : Nat) (xs : List α) (mm : M) (W : World), D = w.heap.size → S xs → I (xs, mm) W → W.heap[D]? = some (.deferred (some [])) → Q .normal { a with defers := { target := .collected D, args := #[] } :: a.defers } W)
  (hstop : ∀ (D : Nat) (c : Code) (pre : List α) (mm : M) (W : World), D = w.heap.size → Sp pre → Ix c (pre, mm) W → W.heap[D]? = some (.deferred (some [])) → c.wpIn Fence.wide n P Q { a with defers := { target := .collected D, args := #[] } :: a.defers } W) :
  (Code.rangeFunc g ps assign body).wpIn Fence.wide n P Q a w := by
 refine wpIn_rangeFunc fun fn hfn => ?_
 let rc : LoopState → Option Code → Obj := fun st pe => .loop { state := st, pending := pe, fn, tmps := a.tmps, params := ps, assign, body, defers := w.heap.size }
 let Bk : Obj → World → Prop := fun r W => W.heap[w.heap.size + 1]? = some r ∧ W.heap[w.heap.size]? = some (.deferred (some []))
 have T0 : Below w.heap.size w ((w.alloc (.deferred (some []))).alloc (rc .ready none)) := ((Below.refl _ w).alloc (Nat.le_refl _) _).alloc (by simp) _
 have k0 : Bk (rc .ready none) ((w.alloc (.deferred (some []))).alloc (rc .ready none)) := by
  constructor
  ·have := World.alloc_heap_new (w.alloc (.deferred (some []))) (rc .ready none); rwa [World.size_alloc] at this
  ·exact (Below.heap_alloc _ _ _ (by simp)).trans (World.alloc_heap_new w _)
 have hsz : ((w.alloc (.deferred (some []))).alloc (rc .ready none)).heap.size = w.heap.size + 2 := by simp
 obtain ⟨W1, hW1⟩ : ∃ W1, W1 = ((w.alloc (.deferred (some []))).alloc (rc .ready none)) := ⟨_, rfl⟩
 rw [← hW1] at T0 k0 hsz
 refine ⟨w.heap.size + 1, [{ target := .collected w.heap.size, args := #[] }], W1, { target := .fn (.func gf) lb, args := #[.func (.yield (w.heap.size + 1)) #[] #[]] }, W1, gf, #[.func (.yield (w.heap.size + 1)) #[] #[]] ++ lb, W1, ?_, ?_, fun _ _ => trivial, ?_, fun h => (by cases h), ?_⟩
 ·rw [hW1]; exact run_enterLoop_outer _ _ _ _ _
 ·simp only [resolve, hg]
  simp [go_sem]
 ·simp [invoke, go_sem, eg]
 have lt1 : ∀ (r : Obj) (X : World), Bk r X → w.heap.size + 1 < X.heap.size := fun r X h => (Array.getElem?_eq_some_iff.1 h.1).1
 have keepC : ∀ (r : Obj) (X Y : World) (C : Nat → Prop), Bk r X → Fb X Y C → ¬ C w.heap.size → ¬ C (w.heap.size + 1) → Bk r Y := fun r X Y C h f c1 c2 => ⟨(f.block _ (lt1 r X h) c2).trans h.1, (f.block _ (by have := lt1 r X h; omega) c1).trans h.2⟩
 have putB : ∀ (r r' : Obj) (X : World), Bk r X → Bk r' (X.putObj (w.heap.size + 1) r') := fun r r' X h => ⟨World.putObj_heap_same (Array.getElem?_eq_some_iff.1 h.1).1, (World.putObj_heap_other (by omega)).trans h.2⟩
 have putI : ∀ (st : List α × M) (o : Obj) (X : World), I st X → I st (X.putObj (w.heap.size + 1) o) := fun st o X h => hI st X _ _ h (fb_put X _ o) (fun k _ ho e => (hO st X k h ho).2.2.2 e) (fun k (e : k = w.heap.size + 1) => by omega)
 have putX : ∀ (c : Code) (st : List α × M) (o : Obj) (X : World), Ix c st X → Ix c st (X.putObj (w.heap.size + 1) o) := fun c st o X h => hIx c st X _ _ h (fb_put X _ o) (fun k _ ho e => (hOx c st X k h ho).2.2 e) (fun k (e : k = w.heap.size + 1) => by omega)
 refine CallsIn.mono (hseq (w.heap.size + 1) (n - 1) (fun st W => I st W ∧ w.heap.size + 2 ≤ W.heap.size ∧ Bk (rc .ready none) W) (fun st W => ∃ c, Ix c st W ∧ Bk (rc .done (some c)) W) (fun st k => O st k ∨ k = w.heap.size ∨ k = w.heap.size + 1) _ m0 T0 (by rw [hsz]; omega) (fun st X h => by rw [hsz]; exact h.2.1)
  ?lt ?ltx
  (fun st X Y C ⟨h1, h2, h3⟩ f hc hB => ⟨hI st X Y C h1 f (fun k hk ho => hc k hk (.inl ho)) hB, Nat.le_trans h2 f.size, keepC _ X Y C h3 f (hc _ (by omega) (.inr (.inl rfl))) (hc _ (by omega) (.inr (.inr rfl)))⟩)
  (fun st X Y C ⟨c, h1, h2⟩ f hc hB => ⟨c, hIx c st X Y C h1 f (fun k hk ho => hc k hk (.inl ho)) hB, keepC _ X Y C h2 f (hc _ (by have := lt1 _ X h2; omega) (.inr (.inl rfl))) (hc _ (lt1 _ X h2) (.inr (.inr rfl)))⟩)
  ?_ ⟨hI ([], m0) w _ (fun _ => False) h0 (Fb.of_below T0) (fun _ _ _ h => h) (fun _ h => h.elim), by rw [hsz]; omega, k0⟩) ?_
 case lt =>
  rintro st X k ⟨h1, h2, h3⟩ (ho | ho | ho)
  ·exact ⟨(hO st X k h1 ho).1, (hO st X k h1 ho).2.1⟩
  ·exact ⟨by omega, fun h => by have := hNo k h; omega⟩
  ·exact ⟨by omega, fun h => by have := hNo k h; omega⟩
 case ltx =>
  rintro st X k ⟨c, h1, h2⟩ (ho | ho | ho)
  ·exact (hOx c st X k h1 ho).1
  ·have := lt1 _ X h2; omega
  ·have := lt1 _ X h2; omega
 ·rintro m pre mm x W ⟨hi, hsW, hb⟩ hgd
  have hgd' : Gd (O (pre, mm)) pre x W := hGd _ _ _ _ _ (fun k hk => .inl hk) hgd
  have hxl : ∀ k, xb x k → w.heap.size + 2 ≤ k := fun k hk => hxb _ _ _ _ k hgd hk
  refine ⟨fn, _, assign, body, run_yield hb.1 (hps x), ?_⟩
  refine roundIn_anyDepthB (roundIn_of_wpIn hfn (hassign _ pre mm x W _ hi hsW hgd' ?_))
  intro a' Wa ba hax
  have hba : Bk (rc .ready none) Wa := keepC _ W Wa (fun _ => False) hb (Fb.of_below ba) (fun h => h) (fun h => h)
  have hia : I (pre, mm) Wa := hI _ _ _ (fun _ => False) hi (Fb.of_below ba) (fun _ _ _ h => h) (fun _ h => h.elim)
  refine ⟨_, run_beginRound hba.1 rfl, ?_⟩
  have hb1 := putB _ (rc .busy none) Wa hba
  have hi1 := putI (pre, mm) (rc .busy none) Wa hia
  refine wpIn_mono (hbody _ pre mm x a' _ rfl ⟨_, hb1.1⟩ hi1 (hAx pre mm x a' Wa _ _ hba.1 rfl hax)) ?_
  have fin : ∀ (jump : Option Code) (W3 : World), Bk (rc .busy none) W3 → (Instr.endRound (w.heap.size + 1) jump).run P W3 = .ok (.bool jump.isNone) (W3.putObj (w.heap.size + 1) (rc (if jump.isNone then .ready else .done) jump)) := fun jump W3 h => run_endRound jump h.1
  have sub : ∀ (W3 : World) (o : Obj), Fb (Wa.putObj (w.heap.size + 1) (rc .busy none)) W3 (fun k => O (pre, mm) k ∨ xb x k) → Fb W (W3.putObj (w.heap.size + 1) o) (fun k => (O (pre, mm) k ∨ k = w.heap.size ∨ k = w.heap.size + 1) ∨ xb x k) := fun W3 o f =>
   (((Fb.of_below ba).trans ((fb_put Wa _ _).mono (fun k _ e => .inl (.inr (.inr e))))).trans (f.mono (fun k _ e => by rcases e with e | e; exact .inl (.inl e); exact .inr e))).trans ((fb_put W3 _ o).mono (fun k _ e => .inl (.inr (.inr e))))
  have szW : W.heap.size ≤ (Wa.putObj (w.heap.size + 1) (rc .busy none)).heap.size := by simpa using ba.size
  have out : ∀ (c : Code) (W3 : World), pre.length = q ∧ RdF (Ix c) O xb (O (pre, mm)) pre x (Wa.putObj (w.heap.size + 1) (rc .busy none)) W3 → ∃ v w', (Instr.endRound (w.heap.size + 1) (some c)).run P W3 = .ok v w' ∧ ((pre.length ≠ q ∧ Ending.returned v = .returned (.bool true) ∧ RdF (fun st W => I st W ∧ w.heap.size + 2 ≤ W.heap.size ∧ Bk (rc .ready none) W) (fun st k => O st k ∨ k = w.heap.size ∨ k = w.heap.size + 1) xb (fun k => O (pre, mm) k ∨ k = w.heap.size ∨ k = w.heap.size + 1) pre x W w') ∨ (pre.length = q ∧ Ending.returned v = .returned (.bool false) ∧ RdF (fun st W => ∃ c, Ix c st W ∧ Bk (rc .done (some c)) W) (fun st k => O st k ∨ k = w.heap.size ∨ k = w.heap.size + 1) xb (fun k => O (pre, mm) k ∨ k = w.heap.size ∨ k = w.heap.size + 1) pre x W w')) := fun c W3 h => by
   obtain ⟨hq, mm', hx, f, hn⟩ := h
   have hb3 := keepC _ _ _ _ hb1 f (fun h => by rcases h with h | h; exact (hO _ _ _ hi1 h).2.2.1 rfl; have := hxl _ h; omega) (fun h => by rcases h with h | h; exact (hO _ _ _ hi1 h).2.2.2 rfl; have := hxl _ h; omega)
   refine ⟨_, _, fin (some c) W3 hb3, .inr ⟨hq, rfl, mm', ⟨c, putX c _ _ _ hx, putB _ _ _ hb3⟩, sub W3 _ f, ?_⟩⟩
   rintro k (hk | hk)
   ·rcases hn k hk with h | h | h
    ·exact .inl (.inl h)
    ·exact .inr (.inl h)
    ·exact .inr (.inr (Nat.le_trans szW h))
   ·exact .inl (.inr hk)
  rintro e a3 W3 hp
  cases e with
  | normal =>
   obtain ⟨hq, mm', hi3, f, hn⟩ := hp
   have hb3 := keepC _ _ _ _ hb1 f (fun h => by rcases h with h | h; exact (hO _ _ _ hi1 h).2.2.1 rfl; have := hxl _ h; omega) (fun h => by rcases h with h | h; exact (hO _ _ _ hi1 h).2.2.2 rfl; have := hxl _ h; omega)
   refine ⟨_, _, fin none W3 hb3, .inl ⟨hq, rfl, mm', ⟨putI _ _ _ hi3, ?_, putB _ _ _ hb3⟩, sub W3 _ f, ?_⟩⟩
   ·exact lt1 _ _ (putB _ (rc .ready none) _ hb3)
   ·rintro k (hk | hk)
    ·rcases hn k hk with h | h | h
     ·exact .inl (.inl h)
     ·exact .inr (.inl h)
     ·exact .inr (.inr (Nat.le_trans szW h))
    ·exact .inl (.inr hk)
  | ret => exact out .ret W3 hp
  | exit id => exact out (.exit id) W3 hp
  | goto t => exact out (.goto t) W3 hp
  | panic ch => exact hp.elim
  | outgrown => exact hp.elim
 ·rintro e W2 ⟨⟨v, rfl⟩, (⟨xs, mm, hS, hi, hs2, hb⟩ | ⟨pre, mm, hSp, c, hi, hb⟩)⟩
  ·exact ⟨none, _, run_endLoop hb.1 (by simp), hdone _ xs mm _ rfl hS (putI _ _ _ hi) ((World.putObj_heap_other (by omega)).trans hb.2)⟩
  ·exact ⟨some c, _, run_endLoop hb.1 (by simp), hstop _ c pre mm _ rfl hSp (putX _ _ _ _ hi) ((World.putObj_heap_other (by omega)).trans hb.2)⟩
end Go.Proofs.YtchebhafabhabaaGreatDoor

namespace Go.Proofs.YtchebhafabhabaaGreatDoor
open Go.RowKit Go.Shelf
set_option linter.unusedVariables false
attribute [local go_sem] Oper.semAt_some

structure YI (gy B ly : Nat) (J : List EntD → World → Prop) (st : Nat × List EntD) (w : World) : Prop where
 len : st.2.length = st.1
 j : J st.2 w
 y : Cell1B w gy (.func (.yield ly) #[] #[]) 112
 lo : B ≤ gy
theorem YI.B {gy B ly : Nat} {J : List EntD → World → Prop} {st : Nat × List EntD} {w : World} (h : YI gy B ly J st w) : B ≤ w.heap.size := by
 have := (Array.getElem?_eq_some_iff.1 h.y).1
 have := h.lo
 omega
def YG (l : List (List Nat × List Nat)) (pre : List EntD) (x : EntD) (W : World) : Prop := (∃ kv, l[pre.length]? = some kv ∧ keyL x = kv.1 ∧ x.val = kv.2) ∧ EntD.Ok W x ∧ checkS x = 0
theorem Fb.belowB {w w' : World} {O : Nat → Prop} {B : Nat} (f : Fb w w' O) (h : ∀ k, O k → B ≤ k) (hB : B ≤ w.heap.size) : Below B w w' := ⟨f.os, f.tape, f.output, f.size, fun k hk => f.block k (by omega) (fun o => by have := h k o; omega)⟩
set_option maxRecDepth 100000 in
set_option maxHeartbeats 4000000 in
theorem all2_asks {gy B ly : Nat} {Or : Nat → Prop} {J : List EntD → World → Prop} {l : List (List Nat × List Nat)} (hJ : AbB B J) (hOr : ∀ k, Or k → k < B) (hkeys : ∀ kv ∈ l, okIt kv.1 kv.2)
  (hY : ∀ m pre x W1, J pre W1 → YG l pre x W1 → YieldAt Fence.wide m Tryz.prog ly #[.agg x.cells] W1 fun e W' => e = .returned (.bool true) ∧ J (pre ++ [x]) W' ∧ Fb W1 W' Or)
  (st : Nat × List EntD) (w : World) (it : It) (ak av : Option Addr) (kc vc kn vn : Nat) (hok : l[st.1]? = some (it.key, it.val)) (hI : YI gy B ly J st w) (hk : Rd w (.slice ak kn kc) it.key) (hv : Rd w (.slice av vn vc) it.val) (hkl : kn ≤ 131072) (hvl : vn ≤ 131072) :
  Calls Tryz.prog 75 (#[.agg #[.int .i64 (it.number : Int), .int .i64 (it.place : Int), .int .i64 (it.shared : Int), .slice ak kn kc, .slice av vn vc]] ++ #[.pointer (some ⟨gy, 0, none⟩)]) w fun e w' => e = .returned (.bool true) ∧ ∃ mm, YI gy B ly J (st.1 + 1, mm) w' ∧ Fb w w' Or := by
 obtain ⟨nu, pl, sh, K, V⟩ := it
 obtain ⟨s0, pre⟩ := st
 simp only at *
 have A1 := (Below.refl w.heap.size w).alloc (Nat.le_refl _) (.cells #[.int .i64 nu, .int .i64 pl, .int .i64 sh, .slice ak kn kc, .slice av vn vc] 116)
 have ib := IBox.new w nu pl sh (.slice ak kn kc) (.slice av vn vc)
 obtain ⟨X, hX⟩ : ∃ X, X = w.alloc (.cells #[.int .i64 nu, .int .i64 pl, .int .i64 sh, .slice ak kn kc, .slice av vn vc] 116) := ⟨_, rfl⟩
 rw [← hX] at A1 ib
 have HX := Lib.hid hX
 have HA1 := Lib.hid A1
 have HB := Lib.hid hI.B
 have hy1 := (hI.y.later A1).cell
 have HYc : Hid (∀ Z, Below X.heap.size X Z → Z.cell? ⟨gy, 0, none⟩ = some (.func (.yield ly) #[] #[])) := fun Z b => ((hI.y.later A1).later b).cell
 have D0 : Below X.heap.size X X.drew := (Below.refl _ _).drew
 have HEn := Lib.hid (fun (Z : World) (b : Below X.heap.size X Z) => entry_any (nu : Int) (pl : Int) (sh : Int) ((hk.later A1).later b) ((hv.later A1).later b) hkl hvl)
 have hmem : (K, V) ∈ l := List.mem_of_getElem? hok
 have HYY : Hid (∀ (Z Z' : World) (e : EntD), Below X.heap.size X Z → EntD.Ok Z e → (checkS e = 0 ↔ okIt K V) → (IsKey K → keyL e = K ∧ e.val = V) → YieldAt Fence.wide 1 Tryz.prog ly #[.agg #[e.vr, .int .i64 e.fam, e.vq, .int .i64 e.ts, .int .i64 e.seq, .int .i64 e.kind, e.vv]] Z fun z W' => z = .returned (.bool true) ∧ Hid (∃ mm, YI gy B ly J (s0 + 1, mm) W' ∧ Fb w W' Or)) := fun Z Z' e b he hc hke => by
  have hkv := hkeys _ hmem
  have hb : Below w.heap.size w Z := HA1.out.trans (b.mono HA1.out.size)
  refine YieldAt.mono (hY 1 pre e Z (hJ _ _ _ hI.B hI.j (hb.mono hI.B)) ⟨⟨(K, V), by rw [hI.len]; exact hok, (hke hkv.1).1, (hke hkv.1).2⟩, he, hc.2 hkv⟩) ?_
  rintro z W' ⟨rfl, j, f⟩
  refine ⟨rfl, pre ++ [e], ⟨by simp [hI.len], j, ?_, hI.lo⟩, ?_⟩
  ·exact (hI.y.later hb).fb f (fun o => by have := hOr _ o; have := hI.lo; omega)
  ·exact (Fb.of_below hb).trans f
 obtain ⟨c0, c1, c2, c3, c4⟩ := ib.cells
 have hdd : ∀ k : Nat, (Fence.wide.depth.isSome = true → 1 ≤ k) := fun k h => by cases h
 have hmx : Tryz.prog.follows .mixedOrders = true := by kernel_rfl
 clear hX A1 ib hI hk hv hok hmem hY hJ hkeys hOr
 refine (callsIn_wide (n := 1)).1 ?_
 refine callsIn_of_wp Tryz.func75 rfl trivial ?_ rfl
 simp only [Tryz.ntmps75, List.size_toArray, List.length_cons, List.length_nil, Nat.reduceAdd, Nat.reduceSub, Array.replicate_succ, Array.replicate_zero, List.push_toArray, List.append_toArray, List.nil_append, List.cons_append]
 gi_wp2
 rw [← HX.out]
 clear HX
 unfold EnP EntD.cells at HEn
 gi_region_with_o (first
  | ((first | refine ⟨trivial, hdd _, ?_⟩ | refine ⟨trivial, ?_⟩ | refine ⟨hdd _, ?_⟩); gi_at_call 76; refine (callsIn_wide.2 (HEn.out _ D0)).mono ?_; rintro z w1 ⟨e, rfl, hok, hchk, hkey, b1, -⟩; have yc1 := HYc.out _ (D0.trans (b1.mono D0.size)); obtain ⟨fn, tmps, assign, body, hy, hR⟩ := HYY.out _ w1 e (D0.trans (b1.mono D0.size)) hok hchk hkey)
  | ((first | refine ⟨hdd _, ?_⟩ | skip); refine (roundIn_anyDepthB hR).mono ?_; rintro z W3 ⟨rfl, hr⟩))
 all_goals
  gi_wp2
  go_ret
  exact ⟨rfl, hr.out⟩
theorem all2_asker {gy B ly N Lo : Nat} {Or : Nat → Prop} {J : List EntD → World → Prop} {l : List (List Nat × List Nat)} (hJ : AbB B J) (hJs : ∀ s X, J s X → B ≤ X.heap.size) (hOr : ∀ k, Or k → k < B) (hLo : gy < Lo) (hkeys : ∀ kv ∈ l, okIt kv.1 kv.2)
  (hY : ∀ m pre x W1, J pre W1 → YG l pre x W1 → YieldAt Fence.wide m Tryz.prog ly #[.agg x.cells] W1 fun e W' => e = .returned (.bool true) ∧ J (pre ++ [x]) W' ∧ Fb W1 W' Or) :
  AskerO Nat (List EntD) 75 #[.pointer (some ⟨gy, 0, none⟩)] N Lo (YI gy B ly J) (fun _ => Or) (fun k _ => (true, k + 1)) (fun k it => l[k]? = some (it.key, it.val)) where
 enters := enters_of Tryz.func75 (by kernel_rfl) rfl
 lt := fun st w k h ho => by have := h.B; have := hOr k ho; omega
 stays := fun st w w' O' h f hk hL => ⟨h.len, hJ _ _ _ h.B h.j (f.belowB (fun k o => by have := hL k o; have := h.lo; omega) h.B), h.y.fb f (fun o => by have := hL _ o; omega), h.lo⟩
 asks := fun st w it ak av kc vc kn vn hok hI hnu hkn hvn hk hv hkl hvl hst => (all2_asks hJ hOr hkeys hY st w it ak av kc vc kn vn hok hI hk hv hkl hvl).mono fun e w' ⟨he, mm, h1, h2⟩ => ⟨he, mm, h1, h2, fun k h => .inl h⟩
theorem ok_lay (l0 : List (List Nat × List Nat)) (r : Nat) : ∀ (l : List (List Nat × List Nat)) (s : Bs) (key : List Nat) (k : Nat) (E : List Nat), E = (foldB r s l).es → (s.n % r = 0 ∨ key = s.la) → s.la.length ≤ s.es.length → E.length < 18446744073709551616 → l0.drop k = l →
  walkOk E (fun (k : Nat) (_ : It) => (true, k + 1)) (fun k it => l0[k]? = some (it.key, it.val)) l.length s.n s.es.length key k
 | [], s, key, k, E, hE, hk, hla, hl, h0 => trivial
 | kv :: t, s, key, k, E, hE, hk, hla, hl, h0 => by
  obtain ⟨c1, c2, c3⟩ := com_la r s kv.1 kv.2 hla
  obtain ⟨m, hm⟩ := foldB_es r t (addB r s kv.1 kv.2)
  have hE2 : E = s.es ++ (recL (shOf r s kv.1) (kv.1.drop (shOf r s kv.1)) kv.2 ++ m) := by rw [hE]; simp only [foldB]; rw [hm]; simp [addB, esOf]
  obtain ⟨a, b, h1, h2, h3, h4, h5, h6⟩ := record_at s.es m (shOf r s kv.1) (kv.1.drop (shOf r s kv.1)) kv.2 (by simp; omega) (by rw [← hE2]; exact hl)
  rw [← hE2] at h1 h2 h3
  have hkl : ¬ key.length < shOf r s kv.1 := by
   rcases hk with hk | hk
   ·unfold shOf; rw [if_pos hk]; omega
   ·rw [hk]; omega
  have hkk : key.take (shOf r s kv.1) ++ kv.1.drop (shOf r s kv.1) = kv.1 := by
   rcases hk with hk | hk
   ·have : shOf r s kv.1 = 0 := by unfold shOf; rw [if_pos hk]
    rw [this]; simp
   ·rw [hk]
    have : s.la.take (shOf r s kv.1) = kv.1.take (shOf r s kv.1) := by
     unfold shOf
     split
     ·simp
     ·exact com_take _ _
    rw [this, List.take_append_drop]
  have hkv : l0[k]? = some kv := by
   have : (l0.drop k)[0]? = some kv := by rw [h0]; rfl
   rw [List.getElem?_drop] at this
   simpa using this
  have ht : l0.drop (k + 1) = t := by
   rw [← List.drop_drop, h0]; rfl
  simp only [List.length_cons, walkOk, h1, hkl, if_false, h2, h3, hkk]
  have e5 : b + kv.2.length = (addB r s kv.1 kv.2).es.length := by rw [h4]; simp [addB, esOf]
  rw [e5]
  exact ⟨hkv, fun _ => ok_lay l0 r t (addB r s kv.1 kv.2) kv.1 (k + 1) E hE (.inr rfl) c3 hl ht⟩
end Go.Proofs.YtchebhafabhabaaGreatDoor

namespace Go.Proofs.YtchebhafabhabaaGreatDoor
open Go.RowKit Go.Shelf
set_option linter.unusedVariables false

def AQ (q k : Nat) (_ : It) : Bool × Nat := (decide (k ≠ q), k + 1)
theorem ok_layQ (q : Nat) (l0 : List (List Nat × List Nat)) (r : Nat) : ∀ (l : List (List Nat × List Nat)) (s : Bs) (key : List Nat) (k : Nat) (E : List Nat), E = (foldB r s l).es → (s.n % r = 0 ∨ key = s.la) → s.la.length ≤ s.es.length → E.length < 18446744073709551616 → l0.drop k = l → k ≤ q →
  walkOk E (AQ q) (fun k it => k ≤ q ∧ l0[k]? = some (it.key, it.val)) l.length s.n s.es.length key k
 | [], s, key, k, E, hE, hk, hla, hl, h0, hkq => trivial
 | kv :: t, s, key, k, E, hE, hk, hla, hl, h0, hkq => by
  obtain ⟨c1, c2, c3⟩ := com_la r s kv.1 kv.2 hla
  obtain ⟨m, hm⟩ := foldB_es r t (addB r s kv.1 kv.2)
  have hE2 : E = s.es ++ (recL (shOf r s kv.1) (kv.1.drop (shOf r s kv.1)) kv.2 ++ m) := by rw [hE]; simp only [foldB]; rw [hm]; simp [addB, esOf]
  obtain ⟨a, b, h1, h2, h3, h4, h5, h6⟩ := record_at s.es m (shOf r s kv.1) (kv.1.drop (shOf r s kv.1)) kv.2 (by simp; omega) (by rw [← hE2]; exact hl)
  rw [← hE2] at h1 h2 h3
  have hkl : ¬ key.length < shOf r s kv.1 := by
   rcases hk with hk | hk
   ·unfold shOf; rw [if_pos hk]; omega
   ·rw [hk]; omega
  have hkk : key.take (shOf r s kv.1) ++ kv.1.drop (shOf r s kv.1) = kv.1 := by
   rcases hk with hk | hk
   ·have : shOf r s kv.1 = 0 := by unfold shOf; rw [if_pos hk]
    rw [this]; simp
   ·rw [hk]
    have : s.la.take (shOf r s kv.1) = kv.1.take (shOf r s kv.1) := by
     unfold shOf
     split
     ·simp
     ·exact com_take _ _
    rw [this, List.take_append_drop]
  have hkv : l0[k]? = some kv := by
   have : (l0.drop k)[0]? = some kv := by rw [h0]; rfl
   rw [List.getElem?_drop] at this
   simpa using this
  have ht : l0.drop (k + 1) = t := by
   rw [← List.drop_drop, h0]; rfl
  simp only [List.length_cons, walkOk, h1, hkl, if_false, h2, h3, hkk, AQ]
  have e5 : b + kv.2.length = (addB r s kv.1 kv.2).es.length := by rw [h4]; simp [addB, esOf]
  rw [e5]
  exact ⟨⟨hkq, hkv⟩, fun hd => ok_layQ q l0 r t (addB r s kv.1 kv.2) kv.1 (k + 1) E hE (.inr rfl) c3 hl ht (by have := of_decide_eq_true hd; omega)⟩
theorem ask_allQ (q p r : Nat) : ∀ (l : List (List Nat × List Nat)) (s : Bs) (k : Nat), k ≤ q → (askB (AQ q) p (itemsB r s l) k).2.2 = if q < k + l.length then q + 1 else k + l.length
 | [], s, k, hk => by
  simp only [itemsB, askB, List.length_nil, Nat.add_zero]
  rw [if_neg (by omega)]
 | kv :: t, s, k, hk => by
  have hu : askB (AQ q) p (itemsB r s (kv :: t)) k = if (AQ q k ⟨s.n, s.es.length, shOf r s kv.1, kv.1, kv.2⟩).1 = true then askB (AQ q) p (itemsB r (addB r s kv.1 kv.2) t) (k + 1) else (s.es.length, false, k + 1) := rfl
  have e : k + (kv :: t).length = k + 1 + t.length := by rw [List.length_cons]; omega
  rw [hu, e]
  by_cases h : k = q
  ·rw [if_neg (by simp [AQ, h]), if_pos (by omega), h]
  ·rw [if_pos (by simp [AQ, h])]
   exact ask_allQ q p r t (addB r s kv.1 kv.2) (k + 1) (by omega)
end Go.Proofs.YtchebhafabhabaaGreatDoor
