import Derived.Test.YtchebhafabhabaaGreatDoorK06
namespace Go.Proofs.YtchebhafabhabaaGreatDoor
open Go.RowKit
set_option linter.unusedVariables false

theorem bapp_run {w : World} {B n : Nat} {v src : Value} {xs bs : List Nat} (ty : TypeId) (hown : Own w B v n xs) (hrd : Rd w src bs) (hbytes : n + bs.length ≤ 140737488355328) (hB : B ≤ w.heap.size) :
  ∃ v' w', (Builtin.append_ #[36, 36] ty #[v, src]).run Tryz.prog w = .ok v' w' ∧ Own w' B v' (n + bs.length) (xs ++ bs) ∧ w.grownBy w' v.ownBlock ∧ (∀ k, v'.ownBlock = some k → v.ownBlock = some k ∨ k = w.heap.size) := by
 obtain ⟨i0, hi, hz0, hz1, hz2⟩ := info_parts info_byte
 obtain ⟨hby, a1, c1, rfl, hle, hm, hl48, hnone, hat⟩ := hrd
 cases a1 with
 | none =>
  have hb0 : bs = [] ∧ c1 = 0 := by
   rcases hnone with h | ⟨b, off, h⟩
   ·exact ⟨List.eq_nil_of_length_eq_zero (by omega), h⟩
   ·cases h
  obtain ⟨rfl, rfl⟩ := hb0
  exact ⟨v, w, run_append_owned_none (P := Tryz.prog) (w := w) B 36 ty 5 i0 1 und_bytes hi v n (bv xs) hown.2, by simpa using hown, World.grownBy.refl _ _, fun k hk => .inl hk⟩
 | some ad =>
  obtain ⟨v', w', hr, h2, h3, h4, h5⟩ := run_append_own_at (P := Tryz.prog) w B 36 ty 5 i0 (.int .u8 0) 1 1 und_bytes hi hz0 hz1 hz2 rfl (by decide) v n (bv xs) hown.2 ad bs.length c1 (bv bs) (by simp [bv]) hat.add (bv_oneCell bs) (by unfold maxLen; omega) (by omega) hB
  refine ⟨v', w', hr, ⟨by rw [hown.1]; simp, by simpa [bv] using h2⟩, h3, fun k hk => ?_⟩
  rcases h5 with h5 | h5
  ·rw [h5] at hk; exact .inl hk
  ·rw [h5] at hk; cases hk; exact .inr rfl
theorem bstep_append {w : World} {o : Oper} {a : Act} {K : Act → World → Prop} {Q : Exit → Act → World → Prop} (s x : Operand)
  (ho : o.op = .call { callee := .builtin .append, args := #[s, x], argTypes := #[36, 36] })
  {B n : Nat} {v src : Value} {xs bs : List Nat} (hs : a.eval s = v) (hown : Own w B v n xs) (hx : a.eval x = src) (hrd : Rd w src bs) (hbytes : n + bs.length ≤ 140737488355328) (hB : B ≤ w.heap.size)
  (h : ∀ a' c' w', Own w' B (.slice a' (n + bs.length) c') (n + bs.length) (xs ++ bs) → w.grownBy w' v.ownBlock → (∀ k, (Value.slice a' (n + bs.length) c').ownBlock = some k → v.ownBlock = some k ∨ k = w.heap.size) → K (a.put o.dst (.slice a' (n + bs.length) c')) w') :
  Oper.wp Tryz.prog o a w K Q := by
 obtain ⟨v', w', hrn, h1, h2, h3⟩ := bapp_run o.type hown hrd hbytes hB
 obtain ⟨a', c', rfl⟩ := own_form h1.2
 unfold Oper.wp execOp
 rw [ho]
 simp only [resolve, invoke, builtin, Sem.run_bind, Sem.run_pure, Result.andThen_ok, List.map_toArray, List.map_cons, List.map_nil, hs, hx, hrn]
 exact h a' c' w' h1 h2 h3
structure Wa {S M : Type} (W : World) (O0 : Nat → Prop) (g : Nat) (r n : Nat) (b off ne ce : Nat) (vp : Value) (E : List Nat) (I : S × M → World → Prop) (O : S × M → Nat → Prop) (wr : World) (p : Nat) (vk : Value) (key : List Nat) (st : S × M) : Prop where
 box : LBox wr g (r : Int) (n : Int) (.slice (some ⟨b, off, none⟩) ne ce) vp
 ents : Rd wr (.slice (some ⟨b, off, none⟩) ne ce) E
 own : Own wr W.heap.size vk key.length key
 by_ : Bys key
 inv : I st wr
 fr : Fb W wr O0
 loc : ∀ k, O st k → O0 k ∨ W.heap.size ≤ k
 apart : ∀ k, vk.ownBlock = some k → ¬ O st k
 pl : p ≤ E.length
 kl : key.length ≤ p
def WaP {S M : Type} (W : World) (O0 : Nat → Prop) (I : S × M → World → Prop) (O : S × M → Nat → Prop) (res : Nat × Bool × S) (e : Ending) (W' : World) : Prop :=
 e = .returned (.tuple #[.int .i64 (res.1 : Int), .bool res.2.1]) ∧ ∃ mm, I (res.2.2, mm) W' ∧ Fb W W' O0 ∧ ∀ k, O (res.2.2, mm) k → O0 k ∨ W.heap.size ≤ k
set_option maxRecDepth 100000 in
set_option maxHeartbeats 4000000 in
theorem walk_any {S M : Type} {fn : Nat} {cs : Array Value} {I : S × M → World → Prop} {O : S × M → Nat → Prop} {A : S → It → Bool × S} {W : World} {g r n b off ne ce : Nat} {Lo : Nat} (ha : Asker S M fn cs n Lo I O A) {vp : Value} {E : List Nat} {st : S × M} (m p : Nat)
  (hbx : LBox W g (r : Int) (n : Int) (.slice (some ⟨b, off, none⟩) ne ce) vp) (hE : Rd W (.slice (some ⟨b, off, none⟩) ne ce) E) (hLo : Lo ≤ W.heap.size) (hI : I st W) (hg : ¬ O st g) (hb : ¬ O st b) (hgl : g < W.heap.size) (hbl : b < W.heap.size) (hel : E.length ≤ 131072) (hn : n < 4294967296) (hm : m ≤ 4294967296) (hp : p ≤ E.length) :
  Calls Tryz.prog 74 #[.pointer (some ⟨g, 0, none⟩), .int .i64 (m : Int), .int .i64 (p : Int), .func (.func fn) #[] cs] W fun e W' => WaP W (O st) I O (walkS E A (n - m) m p [] st.1) e W' := by
 obtain ⟨O0, hO0⟩ : ∃ O0, O0 = O st := ⟨_, rfl⟩
 obtain ⟨res, hres⟩ : ∃ res, res = walkS E A (n - m) m p [] st.1 := ⟨_, rfl⟩
 rw [← hO0, ← hres]
 have HRes := Lib.hid hres
 have H0 : Hid (Wa W O0 g r n b off ne ce vp E I O W p (.slice none 0 0) [] st) := ⟨hbx, hE, ownNil _ _, (fun x hx => by cases hx), hI, Fb.refl _ _, (fun k hk => .inl (by rw [hO0]; exact hk)), (fun k hk => by cases hk), hp, Nat.zero_le _⟩
 have HA := Lib.hid ha
 have HLo := Lib.hid hLo
 have HO0 : Hid (¬ O0 g ∧ ¬ O0 b ∧ g < W.heap.size ∧ b < W.heap.size) := by unfold Hid; rw [hO0]; exact ⟨hg, hb, hgl, hbl⟩
 have hent := ha.enters
 have hnE : ne = E.length := (rd_lens hE).1
 have HnE := Lib.hid hnE
 have hne : ne ≤ 131072 := by omega
 clear hLo hO0 hres ha hbx hE hI hg hb hgl hbl hnE hp
 go_enter Tryz.func74, Tryz.ntmps74
 go_wp2
 go_loopw [1, 2, 10, 11, 12] (fun nu at_ ky _ _ wr => ∃ (i q kn : Nat) (ak : Option Addr) (kc : Nat), i ≤ 4294967296 ∧ (m ≤ i ∧ (i ≤ n ∨ i = m)) ∧ nu = .int .i64 (i : Int) ∧ at_ = .int .i64 (q : Int) ∧ ky = .slice ak kn kc ∧ q ≤ 131072 ∧ Hid (∃ key st', kn = key.length ∧ Wa W O0 g r n b off ne ce vp E I O wr q (.slice ak kn kc) key st' ∧ res = walkS E A (n - i) i q key st'.1)) (fun nu _ _ _ _ _ => n - (intOf nu).toNat)
 case atStart => exact ⟨m, p, 0, none, 0, hm, ⟨Nat.le_refl _, .inr rfl⟩, rfl, rfl, rfl, by have := H0.out.pl; omega, [], st, rfl, H0.out, HRes.out⟩
 case round =>
  clear H0 HRes
  obtain ⟨i, q, kn, ak, kc, hi4, hmi, rfl, rfl, rfl, hq, HW⟩ := hrel
  have i0 : (0 : Int) ≤ (i : Int) := by omega
  obtain ⟨key, st', hkn, hw, hres⟩ := HW.out
  obtain ⟨c0, c1, c2, c3⟩ := hw.box.cells
  by_cases hlt : i < n
  ·have hlt2 : (i : Int) < (n : Int) := by omega
   have hrec := readRecord_any hw.ents q (by rw [HnE.out]; exact hw.pl)
   have HRec := Lib.hid hrec
   have HWa := Lib.hid hw
   have HRes := Lib.hid hres
   have HKn := Lib.hid hkn
   clear hrec hw hres hkn HW
   go_wp2_with fail
   refine Calls.mono HRec.out ?_
   rintro z X1 ⟨b1, h | h⟩
   ·obtain ⟨hno, rfl⟩ := h
    have b11 : Below wr.heap.size wr (X1.alloc (.cells #[.int .i64 0, .slice none 0 0, .slice none 0 0, .int .i64 0] 109)) := b1.alloc b1.size _
    have HEnd : Hid (WaP W O0 I O res (.returned (.tuple #[.int .i64 (q : Int), .bool false])) (X1.alloc (.cells #[.int .i64 0, .slice none 0 0, .slice none 0 0, .int .i64 0] 109))) := by
     have hr1 : res = (q, false, st'.1) := by
      rw [HRes.out, show n - i = (n - i - 1) + 1 by omega]
      simp only [walkS, hno]
     rw [hr1]
     exact ⟨rfl, st'.2, HA.out.stays _ _ _ (fun _ => False) HWa.out.inv (Fb.of_below b11) (fun _ _ _ h => h) (fun _ h => h.elim), HWa.out.fr.trans (Fb.of_below b11), HWa.out.loc⟩
    clear hno b1 b11 HRec c0 c1 c2 c3
    go_wp2
    go_ret2
    exact HEnd.out
   ·obtain ⟨sh, rr, vv, hrc, o1, d1, o2, d2, rfl, rd1, rd2⟩ := h
    have ok := recordOf_ok hrc HWa.out.pl
    obtain ⟨rl, hrl⟩ : ∃ rl, rl = rr.2 := ⟨_, rfl⟩
    obtain ⟨vl, hvl⟩ : ∃ vl, vl = vv.2 := ⟨_, rfl⟩
    obtain ⟨en, hen⟩ : ∃ en, en = vv.1 + vv.2 := ⟨_, rfl⟩
    obtain ⟨R, hR⟩ : ∃ R, R = (E.drop rr.1).take rr.2 := ⟨_, rfl⟩
    obtain ⟨V, hV⟩ : ∃ V, V = (E.drop vv.1).take vv.2 := ⟨_, rfl⟩
    rw [← hR, ← hrl] at rd1
    rw [← hV, ← hvl] at rd2
    rw [← hen, ← hrl, ← hvl]
    have hRl : rl = R.length := (rd_lens rd1).1
    have hVl : vl = V.length := (rd_lens rd2).1
    have hE1 := hel
    have en1 : en ≤ E.length := by rw [hen]; exact ok.2.2.2
    have rl1 : q + rl ≤ en := by rw [hrl, hen]; omega
    have vl1 : vl ≤ en := by rw [hvl, hen]; omega
    have shE : sh ≤ E.length := ok.1
    have b2 : Below wr.heap.size wr (X1.alloc (.cells #[.int .i64 (sh : Int), .slice (some ⟨b, o1, none⟩) rl d1, .slice (some ⟨b, o2, none⟩) vl d2, .int .i64 (en : Int)] 109)) := b1.alloc b1.size _
    have rb : RecB (X1.alloc (.cells #[.int .i64 (sh : Int), .slice (some ⟨b, o1, none⟩) rl d1, .slice (some ⟨b, o2, none⟩) vl d2, .int .i64 (en : Int)] 109)) X1.heap.size (.int .i64 (sh : Int)) (.slice (some ⟨b, o1, none⟩) rl d1) (.slice (some ⟨b, o2, none⟩) vl d2) (.int .i64 (en : Int)) := heap_alloc_new X1 _
    have bx : Below X1.heap.size X1 (X1.alloc (.cells #[.int .i64 (sh : Int), .slice (some ⟨b, o1, none⟩) rl d1, .slice (some ⟨b, o2, none⟩) vl d2, .int .i64 (en : Int)] 109)) := (Below.refl _ _).alloc (Nat.le_refl _) _
    obtain ⟨X2, hX2⟩ : ∃ X2, X2 = X1.alloc (.cells #[.int .i64 (sh : Int), .slice (some ⟨b, o1, none⟩) rl d1, .slice (some ⟨b, o2, none⟩) vl d2, .int .i64 (en : Int)] 109) := ⟨_, rfl⟩
    rw [← hX2] at b2 rb bx
    obtain ⟨f0, f1, f2, f3⟩ := rb.cells
    have HX2 := Lib.hid hX2
    have HB2 := Lib.hid b2
    have HRb := Lib.hid rb
    have HR1 := Lib.hid (rd1.later bx)
    have HR2 := Lib.hid (rd2.later bx)
    have HRc := Lib.hid hrc
    have HDat := Lib.hid (And.intro hR (And.intro hV (And.intro hen (And.intro hRl hVl))))
    have HX1 : Hid (wr.heap.size ≤ X1.heap.size) := b1.size
    clear ok hrl hvl hen hR hV hRl hVl rd1 rd2 b1 b2 rb bx hX2 hrc HRec
    go_upto_region 5 with fail
    rw [← HX2.out]
    clear HX2 c0 c1 c2 c3
    by_cases hsh : kn < sh
    ·have hsh2 : (kn : Int) < (sh : Int) := by omega
     have HEnd : Hid (WaP W O0 I O res (.returned (.tuple #[.int .i64 (q : Int), .bool false])) X2) := by
      have hr1 : res = (q, false, st'.1) := by
       rw [HRes.out, show n - i = (n - i - 1) + 1 by omega]
       simp only [walkS, HRc.out]
       rw [if_pos (by rw [← HKn.out]; exact hsh)]
      rw [hr1]
      exact ⟨rfl, st'.2, HA.out.stays _ _ _ (fun _ => False) HWa.out.inv (Fb.of_below HB2.out) (fun _ _ _ h => h) (fun _ h => h.elim), HWa.out.fr.trans (Fb.of_below HB2.out), HWa.out.loc⟩
     go_wp2
     go_ret2
     exact HEnd.out
    have hsh2 : ¬ (kn : Int) < (sh : Int) := by omega
    have hsh3 : (sh : Int) ≤ (kn : Int) := by omega
    have hwo : Own wr W.heap.size (.slice ak kn kc) kn key := by have := HWa.out.own; rw [← HKn.out] at this; exact this
    have hkc : kn ≤ kc := (rd_lens (hwo.rd HWa.out.by_ (by rw [HKn.out]; have := HWa.out.kl; omega))).2.1
    have hkc2 : (sh : Int) ≤ (kc : Int) := by omega
    have hcut := (hwo.take (k := sh) (by omega)).later HB2.out
    have HCut := Lib.hid hcut
    clear hwo hcut
    go_upto_region 7 with fail
    have hkb : ∀ k, (Value.slice ak sh kc).ownBlock = some k → W.heap.size ≤ k ∧ k < wr.heap.size ∧ ¬ O st' k := fun k hk => by
     have h1 : (Value.slice ak kn kc).ownBlock = some k := by rw [← hk]; cases ak <;> rfl
     have h2 := HWa.out.own.2.lt k h1
     exact ⟨h2.1, h2.2, HWa.out.apart k h1⟩
    have HKb := Lib.hid hkb
    have hWX : W.heap.size ≤ X2.heap.size := Nat.le_trans HWa.out.fr.size HB2.out.size
    have HWX := Lib.hid hWX
    clear hkb hWX f0 f1 f2 f3
    have BD : Fb X2 X2.drew (fun k => (Value.slice ak sh kc).ownBlock = some k) := Fb.of_below ((Below.refl _ _).drew)
    refine wp_region_noPanic ?_
    refine wp_region_held_drew (S := fun wx => Fb X2 wx (fun k => (Value.slice ak sh kc).ownBlock = some k)) (by kernel_rfl) BD (fun hHeld => ?_)
    refine wpAnyH_take (i := 0) (oi := { dst := some 40, op := _, type := _, pos := _, after := _, guard := _ }) (v := .slice ak kn kc) rfl (by kernel_rfl) (by kernel_rfl) (by kernel_rfl) (fun _ _ _ h => h) (Or.inl ⟨by kernel_rfl, fun wy hy => by first | (go_simp; done)⟩) (by assumption) ?_
    try simp only [Act.put, List.setIfInBounds_toArray, List.set_cons_zero, List.set_cons_succ]
    refine wpAnyH_take (i := 1) (oi := { dst := some 41, op := _, type := _, pos := _, after := _, guard := _ }) (v := .pointer (some ⟨X1.heap.size, 0, none⟩)) rfl (by kernel_rfl) (by kernel_rfl) (by kernel_rfl) (fun _ _ _ h => h) (Or.inl ⟨by kernel_rfl, fun wy hy => by first | (go_simp; done)⟩) (by assumption) ?_
    try simp only [Act.put, List.setIfInBounds_toArray, List.set_cons_zero, List.set_cons_succ]
    refine wpAnyH_take (i := 2) (oi := { dst := some 42, op := _, type := _, pos := _, after := _, guard := _ }) (v := .int .i64 (sh : Int)) rfl (by kernel_rfl) (by kernel_rfl) (by kernel_rfl) (fun _ _ _ h => h) (Or.inl ⟨by kernel_rfl, fun wy hy => by (obtain ⟨f0, f1, f2, f3⟩ := (HRb.out.fb hy (fun hk => by have := (HKb.out _ hk).2.1; have := HX1.out; omega)).cells; go_simp; done)⟩) (by assumption) ?_
    try simp only [Act.put, List.setIfInBounds_toArray, List.set_cons_zero, List.set_cons_succ]
    refine wpAnyH_take (i := 3) (oi := { dst := some 43, op := _, type := _, pos := _, after := _, guard := _ }) (v := .slice ak sh kc) rfl (by kernel_rfl) (by kernel_rfl) (by kernel_rfl) (fun _ _ _ h => h) (Or.inl ⟨by kernel_rfl, fun wy hy => by first | (go_simp; done) | (cases ak <;> (go_simp; done))⟩) (by assumption) ?_
    try simp only [Act.put, List.setIfInBounds_toArray, List.set_cons_zero, List.set_cons_succ]
    refine wpAnyH_take (i := 4) (oi := { dst := some 44, op := _, type := _, pos := _, after := _, guard := _ }) (v := .pointer (some ⟨X1.heap.size, 1, none⟩)) rfl (by kernel_rfl) (by kernel_rfl) (by kernel_rfl) (fun _ _ _ h => h) (Or.inl ⟨by kernel_rfl, fun wy hy => by first | (go_simp; done)⟩) (by assumption) ?_
    try simp only [Act.put, List.setIfInBounds_toArray, List.set_cons_zero, List.set_cons_succ]
    refine wpAnyH_take (i := 5) (oi := { dst := some 45, op := _, type := _, pos := _, after := _, guard := _ }) (v := .slice (some ⟨b, o1, none⟩) rl d1) rfl (by kernel_rfl) (by kernel_rfl) (by kernel_rfl) (fun _ _ _ h => h) (Or.inl ⟨by kernel_rfl, fun wy hy => by (obtain ⟨f0, f1, f2, f3⟩ := (HRb.out.fb hy (fun hk => by have := (HKb.out _ hk).2.1; have := HX1.out; omega)).cells; go_simp; done)⟩) (by assumption) ?_
    try simp only [Act.put, List.setIfInBounds_toArray, List.set_cons_zero, List.set_cons_succ]
    refine wpAnyH_ready (rs := [6]) (by kernel_rfl) (by simp) ?_
    refine AllReadyH.cons (o := { dst := some 46, op := _, type := _, pos := _, after := _, guard := _ }) rfl (fun K hK => ?_) AllReadyH.nil
    refine bstep_append _ _ rfl (B := W.heap.size) (n := sh) (xs := key.take sh) (bs := R) rfl (HCut.out.later ((Below.refl _ _).drew)) rfl (HR1.out.later ((Below.refl _ _).drew)) (by have := HDat.out.2.2.2.1; omega) HWX.out (fun a3 c3 X3 own3 gr3 lo3 => ?_)
    have f23 : Fb X2 X3 (fun k => (Value.slice ak sh kc).ownBlock = some k) := BD.trans (Fb.of_grown gr3 (fun i h => h))
    have hRl : rl = R.length := HDat.out.2.2.2.1
    rw [← hRl] at own3 lo3 ⊢
    refine hK.out _ _ f23 (fun hHeld => ?_)
    clear hK K
    try simp only [Act.put, List.setIfInBounds_toArray, List.set_cons_zero, List.set_cons_succ]
    refine wpAnyH_take (i := 7) (oi := { dst := some 10, op := _, type := _, pos := _, after := _, guard := _ }) (v := .slice a3 (sh + rl) c3) rfl (by kernel_rfl) (by kernel_rfl) (by kernel_rfl) (fun _ _ _ h => h) (Or.inl ⟨by kernel_rfl, fun wy hy => by first | (go_simp; done)⟩) (by assumption) ?_
    try simp only [Act.put, List.setIfInBounds_toArray, List.set_cons_zero, List.set_cons_succ]
    refine wpAnyH_done (by kernel_rfl) (NoPanic.normal ?_) _
    obtain ⟨K', hK'⟩ : ∃ K', K' = key.take sh ++ R := ⟨_, rfl⟩
    rw [← hK'] at own3
    have hkl' : sh + rl = K'.length := own3.1
    have hbR : Bys R := HR1.out.1
    have hbK : Bys K' := by rw [hK']; exact Bys.app (fun x hx => HWa.out.by_ x (List.mem_of_mem_take hx)) hbR
    have hskn : kn ≤ q := by rw [HKn.out]; exact HWa.out.kl
    have b2 := HB2.out
    have hX23 : X2.heap.size ≤ X3.heap.size := f23.size
    have hk3 : ∀ k, (Value.slice a3 (sh + rl) c3).ownBlock = some k → W.heap.size ≤ k ∧ k < X3.heap.size ∧ ¬ O st' k := fun k hk => by
     refine ⟨(own3.2.lt k hk).1, (own3.2.lt k hk).2, ?_⟩
     rcases lo3 k hk with h | h
     ·exact (HKb.out k h).2.2
     ·intro ho
      have := HA.out.lt st' wr k HWa.out.inv ho
      have := b2.size
      have h' : k = X2.heap.size := h
      omega
    have hOst : ∀ k, O st' k → O0 k ∨ W.heap.size ≤ k := HWa.out.loc
    have hng : ¬ O st' g := fun h => by rcases hOst g h with h | h; exact HO0.out.1 h; have := HO0.out.2.2.1; omega
    have hnb : ¬ O st' b := fun h => by rcases hOst b h with h | h; exact HO0.out.2.1 h; have := HO0.out.2.2.2; omega
    have hkg : ∀ k, (Value.slice ak sh kc).ownBlock = some k → k ≠ g ∧ k ≠ b := fun k hk => by have := (HKb.out k hk).1; have := HO0.out.2.2; omega
    have fw3 : Fb wr X3 (fun k => (Value.slice ak sh kc).ownBlock = some k) := (Fb.of_below b2).trans f23
    have hI3 : I st' X3 := HA.out.stays _ _ _ _ HWa.out.inv fw3 (fun k _ ho hk => (HKb.out k hk).2.2 ho) (fun k hk => Nat.le_trans HLo.out (HKb.out k hk).1)
    have hbx3 : LBox X3 g (r : Int) (n : Int) (.slice (some ⟨b, off, none⟩) ne ce) vp := HWa.out.box.fb fw3 (fun h => (hkg g h).1 rfl)
    have hen3 : Rd X3 (.slice (some ⟨b, off, none⟩) ne ce) E := HWa.out.ents.fb fw3 (fun h => (hkg b h).2 rfl)
    have hv3 : Rd X3 (.slice (some ⟨b, o2, none⟩) vl d2) V := HR2.out.fb f23 (fun h => (hkg b h).2 rfl)
    have hrb3 := HRb.out.fb f23 (fun hk => by have := (HKb.out _ hk).2.1; have := HX1.out; omega)
    have hkr3 : Rd X3 (.slice a3 (sh + rl) c3) K' := own3.rd hbK (by omega)
    have hask : Calls Tryz.prog fn (#[.agg #[.int .i64 (i : Int), .int .i64 (q : Int), .int .i64 (sh : Int), .slice a3 (sh + rl) c3, .slice (some ⟨b, o2, none⟩) vl d2]] ++ cs) X3 fun e w' => e = .returned (.bool (A st'.1 ⟨i, q, sh, K', V⟩).1) ∧ ∃ mm, I ((A st'.1 ⟨i, q, sh, K', V⟩).2, mm) w' ∧ Fb X3 w' (O st') ∧ ∀ k, O ((A st'.1 ⟨i, q, sh, K', V⟩).2, mm) k → O st' k ∨ X3.heap.size ≤ k := HA.out.asks st' X3 ⟨i, q, sh, K', V⟩ a3 (some ⟨b, o2, none⟩) c3 d2 (sh + rl) vl hI3 (by simpa using hlt) hkl' HDat.out.2.2.2.2 hkr3 hv3 (by omega) (by omega) (fun w' f' => ⟨(own3.fb f' (fun k hk => (hk3 k hk).2.2)).rd hbK (by omega), hv3.fb f' hnb⟩)
    obtain ⟨it, hit⟩ : ∃ it : It, it = ⟨i, q, sh, K', V⟩ := ⟨_, rfl⟩
    rw [← hit] at hask
    have HAsk := Lib.hid hask
    have HRb3 := Lib.hid hrb3
    have HOwn3 := Lib.hid own3
    have HF03 : Hid (Fb W X3 O0) := ⟨fw3.os.trans HWa.out.fr.os, fw3.tape.trans HWa.out.fr.tape, fw3.output.trans HWa.out.fr.output, Nat.le_trans HWa.out.fr.size fw3.size, fun k hk ho => (fw3.block k (Nat.lt_of_lt_of_le hk HWa.out.fr.size) (fun h => by have := (HKb.out k h).1; omega)).trans (HWa.out.fr.block k hk ho)⟩
    have HStep : Hid (res = if (A st'.1 it).1 = true then walkS E A (n - (i + 1)) (i + 1) en K' (A st'.1 it).2 else (q, false, (A st'.1 it).2)) := by
     unfold Hid
     rw [HRes.out, show n - i = (n - (i + 1)) + 1 by omega]
     simp only [walkS, HRc.out]
     rw [if_neg (by rw [← HKn.out]; exact hsh), ← HDat.out.1, ← HDat.out.2.1, ← HDat.out.2.2.1, ← hK', ← hit]
    have HK3 := Lib.hid hk3
    have HN2 := Lib.hid (And.intro hng hnb)
    have HBx3 := Lib.hid hbx3
    have HEn3 := Lib.hid hen3
    have HBk := Lib.hid hbK
    have HKl := Lib.hid hkl'
    have HOst := Lib.hid hOst
    obtain ⟨f0, f1, f2, f3⟩ := hrb3.cells
    clear hHeld own3 gr3 lo3 f23 hK' hkl' hbR hbK b2 hX23 hk3 hOst hng hnb hkg fw3 hI3 hbx3 hen3 hv3 hrb3 hkr3 hask hit BD hRl
    go_simp
    go_step
    obtain ⟨B, hB⟩ : ∃ B, B = (A st'.1 it).1 := ⟨_, rfl⟩
    obtain ⟨st2, hst2⟩ : ∃ st2, st2 = (A st'.1 it).2 := ⟨_, rfl⟩
    rw [← hB, ← hst2] at HAsk HStep
    clear hB hst2
    go_wp2_with fail
    refine Calls.mono HAsk.out ?_
    rintro z X4 ⟨rfl, mm, hI4, hf4, hlo4⟩
    have hf04 : Fb W X4 O0 := ⟨hf4.os.trans HF03.out.os, hf4.tape.trans HF03.out.tape, hf4.output.trans HF03.out.output, Nat.le_trans HF03.out.size hf4.size, fun k hk ho => (hf4.block k (Nat.lt_of_lt_of_le hk HF03.out.size) (fun h => by rcases HOst.out k h with h | h; exact ho h; omega)).trans (HF03.out.block k hk ho)⟩
    have hlo : ∀ k, O (st2, mm) k → O0 k ∨ W.heap.size ≤ k := fun k hk => by
     rcases hlo4 k hk with h | h
     ·exact HOst.out k h
     ·exact .inr (Nat.le_trans HF03.out.size h)
    cases B with
    | false =>
     have HEnd : Hid (WaP W O0 I O res (.returned (.tuple #[.int .i64 (q : Int), .bool false])) X4) := by
      have hr1 : res = (q, false, st2) := by rw [HStep.out]; rfl
      rw [hr1]
      exact ⟨rfl, mm, hI4, hf04, hlo⟩
     clear hI4 hf4 hlo4 hf04 hlo HAsk f0 f1 f2 f3
     go_wp2
     go_ret2
     exact HEnd.out
    | true =>
     have hr1 : res = walkS E A (n - (i + 1)) (i + 1) en K' st2 := by rw [HStep.out]; rfl
     have hrb4 := HRb3.out.fb hf4 (fun h => by
      have h1 := HA.out.lt st' wr _ HWa.out.inv h
      have := HX1.out
      omega)
     have HW4 : Hid (∃ key st', sh + rl = key.length ∧ Wa W O0 g r n b off ne ce vp E I O X4 en (.slice a3 (sh + rl) c3) key st' ∧ res = walkS E A (n - (i + 1)) (i + 1) en key st'.1) := by
      refine ⟨K', (st2, mm), HKl.out, ⟨HBx3.out.fb hf4 HN2.out.1, HEn3.out.fb hf4 HN2.out.2, ?_, HBk.out, hI4, hf04, hlo, fun k hk h => ?_, en1, by rw [← HKl.out]; have := HWa.out.kl; have := HKn.out; omega⟩, hr1⟩
      ·rw [← HKl.out]
       exact HOwn3.out.fb hf4 (fun k hk => (HK3.out k hk).2.2)
      ·rcases hlo4 k h with h | h
       ·exact (HK3.out k hk).2.2 h
       ·have := (HK3.out k hk).2.1; omega
     obtain ⟨g0, g1, g2, g3⟩ := hrb4.cells
     clear hI4 hf4 hlo4 hf04 hlo HAsk f0 f1 f2 f3 hr1 hrb4
     go_wp2
     go_roundw
     case rel => exact ⟨i + 1, en, sh + rl, a3, c3, by omega, ⟨by omega, .inl (by omega)⟩, by go_num, rfl, rfl, by omega, HW4⟩
     case measure => simp only [intOf]; omega
  ·have hge : ¬ (i : Int) < (n : Int) := by omega
   have HEnd : Hid (WaP W O0 I O res (.returned (.tuple #[.int .i64 (q : Int), .bool true])) wr) := by
    have hr1 : res = (q, true, st'.1) := by
     rw [hres, show n - i = 0 by omega]
     rfl
    rw [hr1]
    exact ⟨rfl, st'.2, hw.inv, hw.fr, hw.loc⟩
   clear hw hres hkn HW
   go_wp2
   go_ret2
   exact HEnd.out
end Go.Proofs.YtchebhafabhabaaGreatDoor

namespace Go.Proofs.YtchebhafabhabaaGreatDoor
open Go.RowKit
set_option linter.unusedVariables false

theorem ruint_uintF : ∀ (f u i q : Nat) (rest : List Nat), i + f = 9 → u < 128 ^ (f + 1) → (0 < i → 0 < u) → q < 128 ^ i → q + u * 128 ^ i < 18446744073709551616 → ruint f (uintF f u ++ rest) i q = (q + u * 128 ^ i, i + (uintF f u).length, 0) := by
 intro f
 induction f with
 | zero =>
  intro u i q rest hi hu hp hq ht
  have hi9 : i = 9 := by omega
  subst hi9
  have hu1 : u ≤ 1 := by
   have e : (128 : Nat) ^ 9 = 9223372036854775808 := by decide
   rw [e] at ht
   omega
  show ruint 0 (u :: rest) 9 q = _
  unfold ruint
  rw [if_neg (by omega), if_neg (by omega), if_neg (by omega)]
  rw [Nat.mod_eq_of_lt (by omega)]
  rfl
 | succ f ih =>
  intro u i q rest hi hu hp hq ht
  by_cases h127 : 127 < u
  ·rw [uintF_go f u h127, List.cons_append]
   unfold ruint
   rw [if_neg (by omega), if_pos (by omega)]
   have e1 : (u % 128 + 128) % 128 = u % 128 := by omega
   rw [e1]
   have e2 : q + u % 128 * 128 ^ i + u / 128 * 128 ^ (i + 1) = q + u * 128 ^ i := by
    have : u * 128 ^ i = (128 * (u / 128) + u % 128) * 128 ^ i := by rw [Nat.div_add_mod]
    rw [this, Nat.add_mul, Nat.pow_succ]
    have : u / 128 * (128 ^ i * 128) = 128 * (u / 128) * 128 ^ i := by rw [Nat.mul_comm (128 ^ i) 128, ← Nat.mul_assoc, Nat.mul_comm (u / 128) 128]
    omega
   rw [ih (u / 128) (i + 1) _ rest (by omega) (by rw [Nat.pow_succ] at hu; exact Nat.div_lt_of_lt_mul (by rw [Nat.mul_comm]; exact hu)) (by omega) (next_lt q u i hq) (by rw [e2]; exact ht), e2]
   simp
   omega
  ·rw [uintF_stop (f + 1) u (by omega)]
   show ruint (f + 1) (u :: rest) i q = _
   unfold ruint
   rw [if_neg (by omega), if_neg (by omega), if_neg (by omega), Nat.mod_eq_of_lt (by omega)]
   rfl

theorem uint_trip (v : Nat) (hv : v < 18446744073709551616) (pre rest : List Nat) : uintR (pre ++ (uintL v ++ rest)) pre.length = (v, pre.length + (uintL v).length, 0) := by
 unfold uintR
 rw [List.drop_left]
 have := ruint_uintF 9 v 0 0 rest rfl (Nat.lt_of_lt_of_le hv (by decide)) (by omega) (by simp) (by simpa using hv)
 rw [uintL, this]
 simp
end Go.Proofs.YtchebhafabhabaaGreatDoor

namespace Go.Proofs.YtchebhafabhabaaGreatDoor
open Go.RowKit
set_option linter.unusedVariables false

theorem num8_be8 (n : Nat) (h : n < 18446744073709551616) : num8 (be8 n) = n := by
 simp only [num8, be8, List.foldl]
 omega
theorem rise_trip (n : Nat) (hn : n < 9223372036854775808) (pre rest : List Nat) : riseR (pre ++ (be8 n ++ rest)) pre.length = (n, pre.length + 8, 0) := by
 have e : ((pre ++ (be8 n ++ rest)).drop pre.length).take 8 = be8 n := by
  rw [List.drop_left, List.take_append_of_le_length (by simp [be8]), List.take_of_length_le (by simp [be8])]
 unfold riseR
 rw [e, num8_be8 n (by omega), if_neg (by simp [be8]), if_neg (by omega)]
theorem fall_trip (n : Nat) (hn : n < 9223372036854775808) (pre rest : List Nat) : fallR (pre ++ (be8 (9223372036854775807 - n) ++ rest)) pre.length = (n, pre.length + 8, 0) := by
 unfold fallR
 rw [rise_trip _ (by omega)]
 simp
 omega
theorem rord_trip : ∀ (l acc rest : List Nat) (i : Nat), rord (ordL l ++ rest) acc i = (acc ++ l, i + (ordL l).length, 0) := by
 intro l
 induction l with
 | nil =>
  intro acc rest i
  show rord (0 :: 1 :: rest) acc i = _
  unfold rord
  simp [ordL, escL]
 | cons c l ih =>
  intro acc rest i
  by_cases hc : c = 0
  ·have e : ordL (c :: l) = 0 :: 255 :: ordL l := by simp [ordL, escL, hc]
   rw [e]
   show rord (0 :: 255 :: (ordL l ++ rest)) acc i = _
   unfold rord
   rw [if_neg (by simp), if_neg (by simp), if_pos rfl, ih]
   simp [hc]
   omega
  ·have e : ordL (c :: l) = c :: ordL l := by simp [ordL, escL, hc]
   rw [e]
   show rord (c :: (ordL l ++ rest)) acc i = _
   have h1 := ih (acc ++ [c]) rest (i + 1)
   cases hx : ordL l ++ rest with
   | nil =>
    exfalso
    simp [ordL] at hx
   | cons d r =>
    rw [hx] at h1
    unfold rord
    rw [if_pos hc, h1]
    simp
    omega
theorem ord_trip (bs pre rest : List Nat) : ordR (pre ++ (ordL bs ++ rest)) pre.length = (bs, pre.length + (ordL bs).length, 0) := by
 unfold ordR
 rw [List.drop_left, rord_trip]
 simp

end Go.Proofs.YtchebhafabhabaaGreatDoor

namespace Go.Proofs.YtchebhafabhabaaGreatDoor
open Go.RowKit
set_option linter.unusedVariables false

theorem ruint_back : ∀ (f : Nat) (l : List Nat) (i v V c : Nat), ruint f l i v = (V, c, 0) → i + f = 9 → Bys l → ∃ u, V = v + u * 128 ^ i ∧ uintF f u = l.take (c - i) ∧ (0 < i → 0 < u) ∧ i < c := by
 intro f
 induction f with
 | zero =>
  intro l i v V c h hi hb
  cases l with
  | nil => simp [ruint] at h
  | cons x r =>
   unfold ruint at h
   split at h
   ·simp at h
   ·split at h
    ·simp at h
    ·split at h
     ·simp at h
     ·rename_i h1 h2 h3
      simp only [Prod.mk.injEq, and_true] at h
      obtain ⟨rfl, rfl⟩ := h
      refine ⟨x, by rw [Nat.mod_eq_of_lt (by omega)], ?_, fun hp => by omega, by omega⟩
      simp [uintF]
 | succ f ih =>
  intro l i v V c h hi hb
  cases l with
  | nil => simp [ruint] at h
  | cons x r =>
   have hx := hb x (by simp)
   unfold ruint at h
   split at h
   ·simp at h
   ·split at h
    ·rename_i h1 h2
     obtain ⟨u, hu1, hu2, hu3, hu4⟩ := ih r (i + 1) _ V c h (by omega) (fun y hy => hb y (by simp [hy]))
     have hu0 := hu3 (by omega)
     refine ⟨x % 128 + 128 * u, ?_, ?_, fun _ => by omega, by omega⟩
     ·rw [hu1, Nat.pow_succ, Nat.add_mul]
      have : u * (128 ^ i * 128) = 128 * u * 128 ^ i := by rw [Nat.mul_comm (128 ^ i) 128, ← Nat.mul_assoc, Nat.mul_comm u 128]
      omega
     ·rw [uintF_go f _ (by omega)]
      have e1 : (x % 128 + 128 * u) % 128 + 128 = x := by omega
      have e2 : (x % 128 + 128 * u) / 128 = u := by omega
      rw [e1, e2, hu2, show c - i = (c - (i + 1)) + 1 by omega]
      rfl
    ·split at h
     ·simp at h
     ·rename_i h1 h2 h3
      simp only [Prod.mk.injEq, and_true] at h
      obtain ⟨rfl, rfl⟩ := h
      refine ⟨x, by rw [Nat.mod_eq_of_lt (by omega)], ?_, fun hp => by omega, by omega⟩
      rw [uintF_stop (f + 1) x (by omega)]
      simp
theorem uint_back {bs : List Nat} {k V P : Nat} (hb : Bys bs) (h : uintR bs k = (V, P, 0)) : uintL V = (bs.take P).drop k := by
 unfold uintR at h
 simp only [Prod.mk.injEq] at h
 obtain ⟨h1, h2, h3⟩ := h
 rw [if_pos h3] at h2
 obtain ⟨u, hu1, hu2, _, _⟩ := ruint_back 9 (bs.drop k) 0 0 V (ruint 9 (bs.drop k) 0 0).2.1 (Prod.ext h1 (Prod.ext rfl h3)) rfl (fun x hx => hb x (List.mem_of_mem_drop hx))
 have : u = V := by simpa using hu1.symm
 subst this
 unfold uintL
 rw [hu2, ← h2, List.drop_take]
 simp
theorem bytes_back {bs L : List Nat} {k P most : Nat} (hb : Bys bs) (hk : k ≤ bs.length) (h : bytesR bs k most = (L, P, 0)) : bytesL L = (bs.take P).drop k ∧ k < P ∧ P ≤ bs.length ∧ L.length ≤ bs.length := by
 unfold bytesR at h
 obtain ⟨R, hR⟩ : ∃ R, R = uintR bs k := ⟨_, rfl⟩
 rw [← hR] at h
 obtain ⟨V, p, E⟩ := R
 simp only at h
 split at h
 ·rename_i he; simp only [Prod.mk.injEq] at h; omega
 ·rename_i he
  have hE : E = 0 := by omega
  subst hE
  split at h
  ·simp at h
  ·split at h
   ·simp at h
   ·rename_i h1 h2
    simp only [Prod.mk.injEq, and_true] at h
    obtain ⟨rfl, rfl⟩ := h
    obtain ⟨hkp, hpn, hV⟩ := uintR_ok hR.symm hk
    have hu := uint_back hb hR.symm
    have hl : ((bs.drop p).take V).length = V := by rw [List.length_take, List.length_drop]; omega
    refine ⟨?_, by omega, by omega, by rw [hl]; omega⟩
    unfold bytesL
    rw [hl, hu]
    have e : bs.take (p + V) = bs.take p ++ (bs.drop p).take V := by rw [List.take_add]
    rw [e, List.drop_append_of_le_length (by rw [List.length_take]; omega)]
theorem rord_back : ∀ (m : Nat) (l acc : List Nat) (i : Nat) (L : List Nat) (c : Nat), l.length ≤ m → rord l acc i = (L, c, 0) → ∃ t, L = acc ++ t ∧ ordL t = l.take (c - i) ∧ i < c ∧ c ≤ i + l.length := by
 intro m
 induction m with
 | zero =>
  intro l acc i L c hl h
  have : l = [] := List.eq_nil_of_length_eq_zero (by omega)
  subst this
  simp [rord] at h
 | succ m ih =>
  intro l acc i L c hl h
  match l, hl, h with
  | [], _, h => simp [rord] at h
  | [x], _, h => simp [rord] at h
  | x :: d :: r, hl, h =>
   unfold rord at h
   split at h
   ·rename_i hx
    obtain ⟨t, h1, h2, h3, h4⟩ := ih (d :: r) _ _ L c (by simp at hl ⊢; omega) h
    refine ⟨x :: t, by rw [h1]; simp, ?_, by omega, by simp at h4 ⊢; omega⟩
    have e : ordL (x :: t) = x :: ordL t := by simp [ordL, escL, hx]
    rw [e, h2, show c - i = (c - (i + 1)) + 1 by omega]
    rfl
   ·rename_i hx
    have hx0 : x = 0 := by omega
    subst hx0
    split at h
    ·rename_i hd
     subst hd
     simp only [Prod.mk.injEq, and_true] at h
     obtain ⟨rfl, rfl⟩ := h
     refine ⟨[], by simp, ?_, by omega, by simp⟩
     rw [show i + 2 - i = 2 by omega]
     simp [ordL, escL]
    ·split at h
     ·rename_i hd
      subst hd
      obtain ⟨t, h1, h2, h3, h4⟩ := ih r _ _ L c (by simp at hl ⊢; omega) h
      refine ⟨0 :: t, by rw [h1]; simp, ?_, by omega, by simp; omega⟩
      have e : ordL (0 :: t) = 0 :: 255 :: ordL t := by simp [ordL, escL]
      rw [e, h2, show c - i = (c - (i + 2)) + 1 + 1 by omega]
      rfl
     ·simp at h
theorem ord_back {bs L : List Nat} {k P : Nat} (hk : k ≤ bs.length) (h : ordR bs k = (L, P, 0)) : ordL L = (bs.take P).drop k ∧ k < P ∧ P ≤ bs.length := by
 unfold ordR at h
 simp only [Prod.mk.injEq] at h
 obtain ⟨h1, h2, h3⟩ := h
 rw [if_pos h3] at h2
 obtain ⟨t, e1, e2, e3, e4⟩ := rord_back _ (bs.drop k) [] 0 L (rord (bs.drop k) [] 0).2.1 (Nat.le_refl _) (Prod.ext h1 (Prod.ext rfl h3))
 rw [List.nil_append] at e1
 subst e1
 rw [List.length_drop] at e4
 refine ⟨?_, by omega, by omega⟩
 rw [e2, ← h2, List.drop_take]
 simp
theorem be8_num8 (a b c d e f g h : Nat) (ha : a < 256) (hb : b < 256) (hc : c < 256) (hd : d < 256) (he : e < 256) (hf : f < 256) (hg : g < 256) (hh : h < 256) : be8 (num8 [a, b, c, d, e, f, g, h]) = [a, b, c, d, e, f, g, h] := by
 simp [be8, num8]
 omega
theorem rise_back {bs : List Nat} {k V P : Nat} (hb : Bys bs) (h : riseR bs k = (V, P, 0)) : be8 V = (bs.take P).drop k ∧ k < P ∧ P ≤ bs.length ∧ V < 9223372036854775808 := by
 unfold riseR at h
 split at h
 ·simp at h
 ·split at h
  ·simp at h
  ·rename_i h1 h2
   simp only [Prod.mk.injEq, and_true] at h
   obtain ⟨rfl, rfl⟩ := h
   have hl : ((bs.drop k).take 8).length = 8 := by rw [List.length_take, List.length_drop]; omega
   have hby : Bys ((bs.drop k).take 8) := fun x hx => hb x (List.mem_of_mem_drop (List.mem_of_mem_take hx))
   have e : (bs.take (k + 8)).drop k = (bs.drop k).take 8 := by rw [List.drop_take]; congr 1; omega
   refine ⟨?_, by omega, by omega, by omega⟩
   rw [e]
   generalize (bs.drop k).take 8 = L at *
   match L, hl with
   | [a, b, c, d, e, f, g, h], _ => exact be8_num8 a b c d e f g h (hby _ (by simp)) (hby _ (by simp)) (hby _ (by simp)) (hby _ (by simp)) (hby _ (by simp)) (hby _ (by simp)) (hby _ (by simp)) (hby _ (by simp))
theorem be4_rdle (a b c d : Nat) (ha : a < 256) (hb : b < 256) (hc : c < 256) (hd : d < 256) : be4 (rdle d c b a) = [a, b, c, d] := by
 simp [be4, rdle]; omega
theorem le4_rdle (a b c d : Nat) (ha : a < 256) (hb : b < 256) (hc : c < 256) (hd : d < 256) : le4 (rdle a b c d) = [a, b, c, d] := by
 simp [le4, rdle]; omega
theorem four {l : List Nat} (h : 4 ≤ l.length) : l.take 4 = [l.getD 0 0, l.getD 1 0, l.getD 2 0, l.getD 3 0] := by
 match l, h with
 | a :: b :: c :: d :: r, _ => simp
end Go.Proofs.YtchebhafabhabaaGreatDoor

namespace Go.Proofs.YtchebhafabhabaaGreatDoor
open Go.RowKit
set_option linter.unusedVariables false

theorem one_trip (x : Nat) (pre rest : List Nat) : oneR (pre ++ ([x] ++ rest)) pre.length = (x, pre.length + 1, false) := by
 rw [oneR_in _ _ (by simp)]
 simp [List.getD]
theorem ord_at {bs pre rest l : List Nat} {k : Nat} (h : bs = pre ++ (ordL l ++ rest)) (hk : k = pre.length) : ordR bs k = (l, k + (ordL l).length, 0) := by
 subst h hk; exact ord_trip _ _ _
theorem fall_at' {bs pre rest : List Nat} {k n : Nat} (hn : n < 9223372036854775808) (h : bs = pre ++ (be8 (9223372036854775807 - n) ++ rest)) (hk : k = pre.length) : fallR bs k = (n, k + 8, 0) := by
 subst h hk; exact fall_trip n hn _ _
theorem one_at' {bs pre rest : List Nat} {k x : Nat} (h : bs = pre ++ ([x] ++ rest)) (hk : k = pre.length) : oneR bs k = (x, k + 1, false) := by
 subst h hk; exact one_trip _ _ _

theorem reads_plain {D : EntD} (hc : checkS D = 0) (hk : D.kind ≠ 5) : ∃ p1 p2 p3 p4 p5 p6 p7, ordR (keyL D) 0 = (D.row, p1, 0) ∧ oneR (keyL D) p1 = (D.fam.toNat, p2, false) ∧ oneR (keyL D) p2 = (1, p3, false) ∧ ordR (keyL D) p3 = (D.qual, p4, 0) ∧ oneR (keyL D) p4 = (mark D.kind 4, p5, false) ∧ fallR (keyL D) p5 = (D.ts.toNat, p6, 0) ∧ fallR (keyL D) p6 = (D.seq.toNat, p7, 0) ∧ oneR (keyL D) p7 = (D.kind.toNat, (keyL D).length, false) := by
 obtain ⟨_, f, _, _, t, s, k, _⟩ := check_facts hc
 have e := keyL_parts D
 rw [if_neg hk] at e
 have m5 : mark D.kind 5 = 1 := by simp [mark, hk]
 rw [m5] at e
 generalize keyL D = bs at e
 have q1 := ord_at (bs := bs) (l := D.row) (k := 0) (pre := []) (rest := ([D.fam.toNat] ++ ([1] ++ (ordL D.qual ++ ([mark D.kind 4] ++ (be8 (9223372036854775807 - D.ts.toNat) ++ (be8 (9223372036854775807 - D.seq.toNat) ++ ([D.kind.toNat] ++ [])))))))) (by rw [e]; simp) (by first | (simp; done) | (simp; omega) | (simp [be8]; done) | (simp [be8]; omega))
 have q2 := one_at' (bs := bs) (x := D.fam.toNat) (k := 0 + (ordL D.row).length) (pre := ordL D.row) (rest := ([1] ++ (ordL D.qual ++ ([mark D.kind 4] ++ (be8 (9223372036854775807 - D.ts.toNat) ++ (be8 (9223372036854775807 - D.seq.toNat) ++ ([D.kind.toNat] ++ []))))))) (by rw [e]; simp) (by first | (simp; done) | (simp; omega) | (simp [be8]; done) | (simp [be8]; omega))
 have q3 := one_at' (bs := bs) (x := 1) (k := 0 + (ordL D.row).length + 1) (pre := ordL D.row ++ [D.fam.toNat]) (rest := (ordL D.qual ++ ([mark D.kind 4] ++ (be8 (9223372036854775807 - D.ts.toNat) ++ (be8 (9223372036854775807 - D.seq.toNat) ++ ([D.kind.toNat] ++ [])))))) (by rw [e]; simp) (by first | (simp; done) | (simp; omega) | (simp [be8]; done) | (simp [be8]; omega))
 have q4 := ord_at (bs := bs) (l := D.qual) (k := 0 + (ordL D.row).length + 1 + 1) (pre := ordL D.row ++ [D.fam.toNat] ++ [1]) (rest := ([mark D.kind 4] ++ (be8 (9223372036854775807 - D.ts.toNat) ++ (be8 (9223372036854775807 - D.seq.toNat) ++ ([D.kind.toNat] ++ []))))) (by rw [e]; simp) (by first | (simp; done) | (simp; omega) | (simp [be8]; done) | (simp [be8]; omega))
 have q5 := one_at' (bs := bs) (x := mark D.kind 4) (k := 0 + (ordL D.row).length + 1 + 1 + (ordL D.qual).length) (pre := ordL D.row ++ [D.fam.toNat] ++ [1] ++ ordL D.qual) (rest := (be8 (9223372036854775807 - D.ts.toNat) ++ (be8 (9223372036854775807 - D.seq.toNat) ++ ([D.kind.toNat] ++ [])))) (by rw [e]; simp) (by first | (simp; done) | (simp; omega) | (simp [be8]; done) | (simp [be8]; omega))
 have q6 := fall_at' (bs := bs) (n := D.ts.toNat) (k := 0 + (ordL D.row).length + 1 + 1 + (ordL D.qual).length + 1) (pre := ordL D.row ++ [D.fam.toNat] ++ [1] ++ ordL D.qual ++ [mark D.kind 4]) (rest := (be8 (9223372036854775807 - D.seq.toNat) ++ ([D.kind.toNat] ++ []))) (by omega) (by rw [e]; simp) (by first | (simp; done) | (simp; omega) | (simp [be8]; done) | (simp [be8]; omega))
 have q7 := fall_at' (bs := bs) (n := D.seq.toNat) (k := 0 + (ordL D.row).length + 1 + 1 + (ordL D.qual).length + 1 + 8) (pre := ordL D.row ++ [D.fam.toNat] ++ [1] ++ ordL D.qual ++ [mark D.kind 4] ++ be8 (9223372036854775807 - D.ts.toNat)) (rest := ([D.kind.toNat] ++ [])) (by omega) (by rw [e]; simp) (by first | (simp; done) | (simp; omega) | (simp [be8]; done) | (simp [be8]; omega))
 have q8 := one_at' (bs := bs) (x := D.kind.toNat) (k := 0 + (ordL D.row).length + 1 + 1 + (ordL D.qual).length + 1 + 8 + 8) (pre := ordL D.row ++ [D.fam.toNat] ++ [1] ++ ordL D.qual ++ [mark D.kind 4] ++ be8 (9223372036854775807 - D.ts.toNat) ++ be8 (9223372036854775807 - D.seq.toNat)) (rest := []) (by rw [e]; simp) (by first | (simp; done) | (simp; omega) | (simp [be8]; done) | (simp [be8]; omega))
 have l8 : 0 + (ordL D.row).length + 1 + 1 + (ordL D.qual).length + 1 + 8 + 8 + 1 = bs.length := by rw [e]; first | (simp [be8]; done) | (simp [be8]; omega)
 rw [l8] at q8
 exact ⟨_, _, _, _, _, _, _, q1, q2, q3, q4, q5, q6, q7, q8⟩
theorem reads_fam {D : EntD} (hc : checkS D = 0) (hk : D.kind = 5) : ∃ p1 p2 p3 p6 p7, ordR (keyL D) 0 = (D.row, p1, 0) ∧ oneR (keyL D) p1 = (D.fam.toNat, p2, false) ∧ oneR (keyL D) p2 = (0, p3, false) ∧ fallR (keyL D) p3 = (D.ts.toNat, p6, 0) ∧ fallR (keyL D) p6 = (D.seq.toNat, p7, 0) ∧ oneR (keyL D) p7 = (D.kind.toNat, (keyL D).length, false) := by
 obtain ⟨_, f, _, _, t, s, k, _⟩ := check_facts hc
 have e := keyL_parts D
 rw [if_pos hk] at e
 have m5 : mark D.kind 5 = 0 := by simp [mark, hk]
 rw [m5] at e
 generalize keyL D = bs at e
 have q1 := ord_at (bs := bs) (l := D.row) (k := 0) (pre := []) (rest := ([D.fam.toNat] ++ ([0] ++ (be8 (9223372036854775807 - D.ts.toNat) ++ (be8 (9223372036854775807 - D.seq.toNat) ++ ([D.kind.toNat] ++ [])))))) (by rw [e]; simp) (by first | (simp; done) | (simp; omega) | (simp [be8]; done) | (simp [be8]; omega))
 have q2 := one_at' (bs := bs) (x := D.fam.toNat) (k := 0 + (ordL D.row).length) (pre := ordL D.row) (rest := ([0] ++ (be8 (9223372036854775807 - D.ts.toNat) ++ (be8 (9223372036854775807 - D.seq.toNat) ++ ([D.kind.toNat] ++ []))))) (by rw [e]; simp) (by first | (simp; done) | (simp; omega) | (simp [be8]; done) | (simp [be8]; omega))
 have q3 := one_at' (bs := bs) (x := 0) (k := 0 + (ordL D.row).length + 1) (pre := ordL D.row ++ [D.fam.toNat]) (rest := (be8 (9223372036854775807 - D.ts.toNat) ++ (be8 (9223372036854775807 - D.seq.toNat) ++ ([D.kind.toNat] ++ [])))) (by rw [e]; simp) (by first | (simp; done) | (simp; omega) | (simp [be8]; done) | (simp [be8]; omega))
 have q6 := fall_at' (bs := bs) (n := D.ts.toNat) (k := 0 + (ordL D.row).length + 1 + 1) (pre := ordL D.row ++ [D.fam.toNat] ++ [0]) (rest := (be8 (9223372036854775807 - D.seq.toNat) ++ ([D.kind.toNat] ++ []))) (by omega) (by rw [e]; simp) (by first | (simp; done) | (simp; omega) | (simp [be8]; done) | (simp [be8]; omega))
 have q7 := fall_at' (bs := bs) (n := D.seq.toNat) (k := 0 + (ordL D.row).length + 1 + 1 + 8) (pre := ordL D.row ++ [D.fam.toNat] ++ [0] ++ be8 (9223372036854775807 - D.ts.toNat)) (rest := ([D.kind.toNat] ++ [])) (by omega) (by rw [e]; simp) (by first | (simp; done) | (simp; omega) | (simp [be8]; done) | (simp [be8]; omega))
 have q8 := one_at' (bs := bs) (x := D.kind.toNat) (k := 0 + (ordL D.row).length + 1 + 1 + 8 + 8) (pre := ordL D.row ++ [D.fam.toNat] ++ [0] ++ be8 (9223372036854775807 - D.ts.toNat) ++ be8 (9223372036854775807 - D.seq.toNat)) (rest := []) (by rw [e]; simp) (by first | (simp; done) | (simp; omega) | (simp [be8]; done) | (simp [be8]; omega))
 have l8 : 0 + (ordL D.row).length + 1 + 1 + 8 + 8 + 1 = bs.length := by rw [e]; first | (simp [be8]; done) | (simp [be8]; omega)
 rw [l8] at q8
 exact ⟨_, _, _, _, _, q1, q2, q3, q6, q7, q8⟩

theorem seg_join {bs : List Nat} {i j k : Nat} (h1 : i ≤ j) (h2 : j ≤ k) (h3 : k ≤ bs.length) : (bs.take j).drop i ++ (bs.take k).drop j = (bs.take k).drop i := by
 apply List.ext_getElem?
 intro n
 by_cases hn : n < j - i
 ·rw [List.getElem?_append_left (by simp; omega)]
  rw [List.getElem?_drop, List.getElem?_drop, List.getElem?_take_of_lt (by omega), List.getElem?_take_of_lt (by omega)]
 ·rw [List.getElem?_append_right (by simp; omega), List.getElem?_drop, List.getElem?_drop]
  congr 1
  simp
  omega
theorem one_back {bs : List Nat} {k x P : Nat} (hk : k ≤ bs.length) (h : oneR bs k = (x, P, false)) : [x] = (bs.take P).drop k ∧ k ≤ P ∧ P ≤ bs.length := by
 unfold oneR at h
 split at h
 ·simp at h
 ·simp only [Prod.mk.injEq] at h
  obtain ⟨rfl, rfl, _⟩ := h
  have hlt : k < bs.length := by omega
  refine ⟨?_, by omega, by omega⟩
  rw [List.drop_take, show k + 1 - k = 1 by omega, drop_cons bs k hlt]
  rfl
theorem fall_back {bs : List Nat} {k V P : Nat} (hb : Bys bs) (h : fallR bs k = (V, P, 0)) : be8 (9223372036854775807 - V) = (bs.take P).drop k ∧ k ≤ P ∧ P ≤ bs.length := by
 unfold fallR at h
 split at h
 ·rename_i h1
  simp only [Prod.mk.injEq] at h
  exact absurd h.2.2 h1
 ·rename_i h1
  simp only [Prod.mk.injEq] at h
  obtain ⟨h2, h3, _⟩ := h
  have e : riseR bs k = ((riseR bs k).1, P, 0) := by
   rw [← h3]
   ext
   ·rfl
   ·rfl
   ·simpa using h1
  obtain ⟨r1, r2, r3, r4⟩ := rise_back hb e
  refine ⟨?_, by omega, r3⟩
  rw [← r1]
  congr 1
  omega

theorem back_plain {bs row qual : List Nat} {p1 p2 p3 p4 p5 p6 p7 p8 fam fm cm ts sq kd : Nat} (hb : Bys bs)
  (q1 : ordR bs 0 = (row, p1, 0)) (q2 : oneR bs p1 = (fam, p2, false)) (q3 : oneR bs p2 = (fm, p3, false)) (hfm : fm ≠ 0) (q4 : ordR bs p3 = (qual, p4, 0)) (q5 : oneR bs p4 = (cm, p5, false))
  (q6 : fallR bs p5 = (ts, p6, 0)) (q7 : fallR bs p6 = (sq, p7, 0)) (q8 : oneR bs p7 = (kd, p8, false)) (m5 : fm = mark kd 5) (m4 : cm = mark kd 4) (hp : p8 = bs.length) (vr vq vv : Value) (val : List Nat) :
  keyL ⟨vr, (fam : Int), vq, (ts : Int), (sq : Int), (kd : Int), vv, row, qual, val⟩ = bs := by
 obtain ⟨r1, s1, t1⟩ := ord_back (Nat.zero_le _) q1
 obtain ⟨r2, s2, t2⟩ := one_back t1 q2
 obtain ⟨r3, s3, t3⟩ := one_back t2 q3
 obtain ⟨r4, s4, t4⟩ := ord_back t3 q4
 obtain ⟨r5, s5, t5⟩ := one_back t4 q5
 obtain ⟨r6, s6, t6⟩ := fall_back hb q6
 obtain ⟨r7, s7, t7⟩ := fall_back hb q7
 obtain ⟨r8, s8, t8⟩ := one_back t7 q8
 have hk : ¬ ((kd : Int) = 5) := by
  intro h
  apply hfm
  rw [m5]
  simp [mark, h]
 rw [keyL_parts]
 simp only [Int.toNat_natCast]
 rw [if_neg hk, ← m5, ← m4, r1, r2, r3, r4, r5, r6, r7, r8, List.append_nil, List.append_assoc]
 rw [seg_join s7 s8 t8, seg_join s6 (by omega) t8, seg_join s5 (by omega) t8, seg_join (by omega) (by omega) t8, seg_join s3 (by omega) t8, seg_join s2 (by omega) t8, seg_join (by omega) (by omega) t8]
 rw [hp]
 simp
theorem back_fam {bs row : List Nat} {p1 p2 p3 p6 p7 p8 fam ts sq kd : Nat} (hb : Bys bs)
  (q1 : ordR bs 0 = (row, p1, 0)) (q2 : oneR bs p1 = (fam, p2, false)) (q3 : oneR bs p2 = (0, p3, false))
  (q6 : fallR bs p3 = (ts, p6, 0)) (q7 : fallR bs p6 = (sq, p7, 0)) (q8 : oneR bs p7 = (kd, p8, false)) (m5 : 0 = mark kd 5) (hp : p8 = bs.length) (vr vq vv : Value) (val : List Nat) :
  keyL ⟨vr, (fam : Int), vq, (ts : Int), (sq : Int), (kd : Int), vv, row, [], val⟩ = bs := by
 obtain ⟨r1, s1, t1⟩ := ord_back (Nat.zero_le _) q1
 obtain ⟨r2, s2, t2⟩ := one_back t1 q2
 obtain ⟨r3, s3, t3⟩ := one_back t2 q3
 obtain ⟨r6, s6, t6⟩ := fall_back hb q6
 obtain ⟨r7, s7, t7⟩ := fall_back hb q7
 obtain ⟨r8, s8, t8⟩ := one_back t7 q8
 have hk : (kd : Int) = 5 := by
  by_cases h : (kd : Int) = 5
  ·exact h
  ·simp [mark, h] at m5
 rw [keyL_parts]
 simp only [Int.toNat_natCast]
 rw [if_pos hk, ← m5, r1, r2, r3, r6, r7, r8, List.append_nil, List.nil_append]
 rw [seg_join s7 s8 t8, seg_join s6 (by omega) t8, seg_join s3 (by omega) t8, seg_join s2 (by omega) t8, seg_join (by omega) (by omega) t8]
 rw [hp]
 simp

end Go.Proofs.YtchebhafabhabaaGreatDoor

namespace Go.Proofs.YtchebhafabhabaaGreatDoor
open Go.RowKit
set_option linter.unusedVariables false

theorem rord_ok : ∀ (m : Nat) (l acc : List Nat) (i : Nat), l.length ≤ m → Bys l → Bys acc → Bys (rord l acc i).1 ∧ (rord l acc i).1.length ≤ acc.length + l.length := by
 intro m
 induction m with
 | zero =>
  intro l acc i hl hb ha
  obtain rfl : l = [] := List.eq_nil_of_length_eq_zero (by omega)
  rw [rord_nil]
  exact ⟨fun x hx => by simp at hx, by simp⟩
 | succ m ih =>
  intro l acc i hl hb ha
  cases l with
  | nil => rw [rord_nil]; exact ⟨fun x hx => by simp at hx, by simp⟩
  | cons c r =>
   by_cases hc : c = 0
   ·subst hc
    cases r with
    | nil => exact ⟨fun x hx => by simp [rord] at hx, by simp [rord]⟩
    | cons d r =>
     rw [rord_zero]
     split
     ·exact ⟨ha, by simp⟩
     ·split
      ·obtain ⟨h1, h2⟩ := ih r (acc ++ [0]) (i + 2) (by simp at hl; omega) (fun x hx => hb x (by simp [hx])) (ha.app (fun x hx => by simp at hx; omega))
       exact ⟨h1, by simp at h2 ⊢; omega⟩
      ·exact ⟨fun x hx => by simp at hx, by simp⟩
   ·rw [rord_step _ _ _ _ hc]
    obtain ⟨h1, h2⟩ := ih r (acc ++ [c]) (i + 1) (by simp at hl; omega) (fun x hx => hb x (by simp [hx])) (ha.app (fun x hx => by simp at hx; subst hx; exact hb _ (by simp)))
    exact ⟨h1, by simp at h2 ⊢; omega⟩
theorem ordR_ok (bs : List Nat) (k : Nat) (hb : Bys bs) : Bys (ordR bs k).1 ∧ (ordR bs k).1.length ≤ bs.length := by
 obtain ⟨h1, h2⟩ := rord_ok _ (bs.drop k) [] 0 (Nat.le_refl _) (fun x hx => hb x (List.mem_of_mem_drop hx)) (fun x hx => by simp at hx)
 exact ⟨h1, by have : (ordR bs k).1 = (rord (bs.drop k) [] 0).1 := rfl; rw [this]; simp at h2; omega⟩

end Go.Proofs.YtchebhafabhabaaGreatDoor

namespace Go.Proofs.YtchebhafabhabaaGreatDoor
open Go.RowKit
set_option linter.unusedVariables false

def IsKey (bs : List Nat) : Prop := ∃ D : EntD, checkS D = 0 ∧ D.val = [] ∧ keyL D = bs
theorem checkS_eq {D : EntD} (hc : checkS D = 0) (hv : D.val = []) (a b c : Value) : checkS ⟨a, ((D.fam.toNat : Nat) : Int), b, ((D.ts.toNat : Nat) : Int), ((D.seq.toNat : Nat) : Int), ((D.kind.toNat : Nat) : Int), c, D.row, D.qual, []⟩ = 0 := by
 obtain ⟨_, f, _, _, t, s, k, _⟩ := check_facts hc
 have e : checkS ⟨a, ((D.fam.toNat : Nat) : Int), b, ((D.ts.toNat : Nat) : Int), ((D.seq.toNat : Nat) : Int), ((D.kind.toNat : Nat) : Int), c, D.row, D.qual, []⟩ = checkS D := by
  unfold checkS
  simp only [Int.toNat_of_nonneg f.1, Int.toNat_of_nonneg (show 0 ≤ D.ts by omega), Int.toNat_of_nonneg s.1, Int.toNat_of_nonneg (show 0 ≤ D.kind by omega), hv]
 rw [e, hc]

theorem mark_toNat {k : Int} (h : 0 ≤ k) (a : Int) : mark ((k.toNat : Nat) : Int) a = mark k a := by rw [Int.toNat_of_nonneg h]
def ParsedAs (w w' : World) (r : Ending) (bs : List Nat) : Prop :=
 Below w.heap.size w w' ∧
 ((∃ D : EntD, checkS D = 0 ∧ D.val = [] ∧ keyL D = bs ∧ Bys D.row ∧ Bys D.qual ∧ D.vv = .slice none 0 0 ∧ r = .returned (.tuple #[.agg D.cells, .int .i64 0]) ∧ Own w' w.heap.size D.vr D.row.length D.row ∧ ∃ B, w.heap.size ≤ B ∧ Own w' B D.vq D.qual.length D.qual ∧ ∀ k, D.vr.ownBlock = some k → k < B) ∨
  (¬ IsKey bs ∧ r = .returned (.tuple #[.agg #[.slice none 0 0, .int .i64 0, .slice none 0 0, .int .i64 0, .int .i64 0, .int .i64 0, .slice none 0 0], .int .i64 27])))

theorem parse_any {w : World} {m c : Nat} {a : Option Addr} {bs : List Nat} (hr : Rd w (.slice a m c) bs) (h47 : bs.length ≤ 140737488355328) :
  Calls Tryz.prog 104 #[.slice a m c] w fun e w' => ParsedAs w w' e bs := by
 have hm : m = bs.length := (rd_lens hr).1
 obtain ⟨⟨row, p1, E1⟩, q1⟩ : ∃ x, ordR bs 0 = x := ⟨_, rfl⟩
 obtain ⟨⟨fam, p2, b2⟩, q2⟩ : ∃ x, oneR bs p1 = x := ⟨_, rfl⟩
 obtain ⟨⟨fm, p3, b3⟩, q3⟩ : ∃ x, oneR bs p2 = x := ⟨_, rfl⟩
 have hbr : Bys row ∧ row.length ≤ 281474976710656 := by
  have := ordR_ok bs 0 hr.1
  rw [q1] at this
  exact ⟨this.1, by have := this.2; simp only at this; omega⟩
 by_cases hfm : fm = 0
 ·subst hfm
  obtain ⟨⟨ts, p6, E6⟩, q6⟩ : ∃ x, fallR bs p3 = x := ⟨_, rfl⟩
  obtain ⟨⟨sq, p7, E7⟩, q7⟩ : ∃ x, fallR bs p6 = x := ⟨_, rfl⟩
  obtain ⟨⟨kd, p8, b8⟩, q8⟩ : ∃ x, oneR bs p7 = x := ⟨_, rfl⟩
  refine (parse_read (row := row) (qual := []) (fam := fam) (ts := ts) (sq := sq) (kd := kd) (p := p8) hr hbr ⟨by intro x hx; simp at hx, by simp⟩ (fun W g rb rd => entry_fam rb rd h47 q1 q2 q3 q6 q7 q8)).mono ?_
  rintro e w' ⟨hbad, hgood, hb⟩
  refine ⟨hb, ?_⟩
  by_cases G : (E1 = 0 ∧ b2 = false ∧ b3 = false ∧ E6 = 0 ∧ E7 = 0 ∧ b8 = false ∧ 0 = mark kd 5 ∧ 1 = mark kd 4) ∧ p8 = m ∧ checkS ⟨.slice none 0 0, fam, .slice none 0 0, ts, sq, kd, .slice none 0 0, row, [], []⟩ = 0
  ·obtain ⟨vr, vq, he, o1, B, hB, o2, hlt⟩ := hgood G
   obtain ⟨⟨rfl, rfl, rfl, rfl, rfl, rfl, g7, _⟩, g9, g10⟩ := G
   refine .inl ⟨⟨vr, fam, vq, ts, sq, kd, .slice none 0 0, row, [], []⟩, g10, rfl, ?_, hbr.1, by intro x hx; simp at hx, rfl, he, o1, B, hB, o2, hlt⟩
   exact back_fam hr.1 q1 q2 q3 q6 q7 q8 g7 (by omega) _ _ _ _
  ·refine .inr ⟨?_, hbad G⟩
   rintro ⟨D, hc, hv, hk⟩
   apply G
   by_cases k5 : D.kind = 5
   ·obtain ⟨u1, u2, u3, u6, u7, r1, r2, r3, r6, r7, r8⟩ := reads_fam hc k5
    rw [hk] at r1 r2 r3 r6 r7 r8
    rw [q1] at r1
    simp only [Prod.mk.injEq] at r1
    obtain ⟨rfl, rfl, rfl⟩ := r1
    rw [q2] at r2
    simp only [Prod.mk.injEq] at r2
    obtain ⟨rfl, rfl, rfl⟩ := r2
    rw [q3] at r3
    simp only [Prod.mk.injEq] at r3
    obtain ⟨_, rfl, rfl⟩ := r3
    rw [q6] at r6
    simp only [Prod.mk.injEq] at r6
    obtain ⟨rfl, rfl, rfl⟩ := r6
    rw [q7] at r7
    simp only [Prod.mk.injEq] at r7
    obtain ⟨rfl, rfl, rfl⟩ := r7
    rw [q8] at r8
    simp only [Prod.mk.injEq] at r8
    obtain ⟨rfl, rfl, rfl⟩ := r8
    have hq := (check_facts hc).2.2.2.1 k5
    have hcs := checkS_eq hc hv (.slice none 0 0) (.slice none 0 0) (.slice none 0 0)
    rw [hq] at hcs
    exact ⟨⟨rfl, rfl, rfl, rfl, rfl, rfl, by simp [mark, k5], by simp [mark, k5]⟩, hm.symm, hcs⟩
   ·obtain ⟨u1, u2, u3, u4, u5, u6, u7, r1, r2, r3, _⟩ := reads_plain hc k5
    rw [hk] at r1 r2 r3
    rw [q1] at r1
    simp only [Prod.mk.injEq] at r1
    obtain ⟨rfl, rfl, rfl⟩ := r1
    rw [q2] at r2
    simp only [Prod.mk.injEq] at r2
    obtain ⟨rfl, rfl, rfl⟩ := r2
    rw [q3] at r3
    simp at r3
 ·obtain ⟨⟨qual, p4, E4⟩, q4⟩ : ∃ x, ordR bs p3 = x := ⟨_, rfl⟩
  obtain ⟨⟨cm, p5, b5⟩, q5⟩ : ∃ x, oneR bs p4 = x := ⟨_, rfl⟩
  obtain ⟨⟨ts, p6, E6⟩, q6⟩ : ∃ x, fallR bs p5 = x := ⟨_, rfl⟩
  obtain ⟨⟨sq, p7, E7⟩, q7⟩ : ∃ x, fallR bs p6 = x := ⟨_, rfl⟩
  obtain ⟨⟨kd, p8, b8⟩, q8⟩ : ∃ x, oneR bs p7 = x := ⟨_, rfl⟩
  have hbq : Bys qual ∧ qual.length ≤ 281474976710656 := by
   have := ordR_ok bs p3 hr.1
   rw [q4] at this
   exact ⟨this.1, by have := this.2; simp only at this; omega⟩
  refine (parse_read (row := row) (qual := qual) (fam := fam) (ts := ts) (sq := sq) (kd := kd) (p := p8) hr hbr hbq (fun W g rb rd => entry_plain rb rd h47 q1 q2 q3 hfm q4 q5 q6 q7 q8)).mono ?_
  rintro e w' ⟨hbad, hgood, hb⟩
  refine ⟨hb, ?_⟩
  by_cases G : (E1 = 0 ∧ b2 = false ∧ b3 = false ∧ E4 = 0 ∧ b5 = false ∧ E6 = 0 ∧ E7 = 0 ∧ b8 = false ∧ fm = mark kd 5 ∧ cm = mark kd 4) ∧ p8 = m ∧ checkS ⟨.slice none 0 0, fam, .slice none 0 0, ts, sq, kd, .slice none 0 0, row, qual, []⟩ = 0
  ·obtain ⟨vr, vq, he, o1, B, hB, o2, hlt⟩ := hgood G
   obtain ⟨⟨rfl, rfl, rfl, rfl, rfl, rfl, rfl, rfl, g7, g8⟩, g9, g10⟩ := G
   refine .inl ⟨⟨vr, fam, vq, ts, sq, kd, .slice none 0 0, row, qual, []⟩, g10, rfl, ?_, hbr.1, hbq.1, rfl, he, o1, B, hB, o2, hlt⟩
   exact back_plain hr.1 q1 q2 q3 hfm q4 q5 q6 q7 q8 g7 g8 (by omega) _ _ _ _
  ·refine .inr ⟨?_, hbad G⟩
   rintro ⟨D, hc, hv, hk⟩
   apply G
   by_cases k5 : D.kind = 5
   ·obtain ⟨u1, u2, u3, u6, u7, r1, r2, r3, _⟩ := reads_fam hc k5
    rw [hk] at r1 r2 r3
    rw [q1] at r1
    simp only [Prod.mk.injEq] at r1
    obtain ⟨rfl, rfl, rfl⟩ := r1
    rw [q2] at r2
    simp only [Prod.mk.injEq] at r2
    obtain ⟨rfl, rfl, rfl⟩ := r2
    rw [q3] at r3
    simp only [Prod.mk.injEq] at r3
    exact absurd r3.1 hfm
   ·obtain ⟨u1, u2, u3, u4, u5, u6, u7, r1, r2, r3, r4, r5, r6, r7, r8⟩ := reads_plain hc k5
    rw [hk] at r1 r2 r3 r4 r5 r6 r7 r8
    rw [q1] at r1
    simp only [Prod.mk.injEq] at r1
    obtain ⟨rfl, rfl, rfl⟩ := r1
    rw [q2] at r2
    simp only [Prod.mk.injEq] at r2
    obtain ⟨rfl, rfl, rfl⟩ := r2
    rw [q3] at r3
    simp only [Prod.mk.injEq] at r3
    obtain ⟨rfl, rfl, rfl⟩ := r3
    rw [q4] at r4
    simp only [Prod.mk.injEq] at r4
    obtain ⟨rfl, rfl, rfl⟩ := r4
    rw [q5] at r5
    simp only [Prod.mk.injEq] at r5
    obtain ⟨rfl, rfl, rfl⟩ := r5
    rw [q6] at r6
    simp only [Prod.mk.injEq] at r6
    obtain ⟨rfl, rfl, rfl⟩ := r6
    rw [q7] at r7
    simp only [Prod.mk.injEq] at r7
    obtain ⟨rfl, rfl, rfl⟩ := r7
    rw [q8] at r8
    simp only [Prod.mk.injEq] at r8
    obtain ⟨rfl, rfl, rfl⟩ := r8
    have hk0 : 0 ≤ D.kind := Int.le_trans (by decide) (check_facts hc).2.2.2.2.2.2.1.1
    exact ⟨⟨rfl, rfl, rfl, rfl, rfl, rfl, rfl, rfl, by rw [mark_toNat hk0]; simp [mark, k5], (mark_toNat hk0 4).symm⟩, hm.symm, checkS_eq hc hv _ _ _⟩

end Go.Proofs.YtchebhafabhabaaGreatDoor
