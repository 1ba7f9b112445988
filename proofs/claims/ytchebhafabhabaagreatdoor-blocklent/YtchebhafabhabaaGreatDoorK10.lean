import Derived.Test.YtchebhafabhabaaGreatDoorK09
namespace Go.Proofs.YtchebhafabhabaaGreatDoor
open Go.RowKit
set_option linter.unusedVariables false

theorem bapp_run {w : World} {B n : Nat} {v src : Value} {xs bs : List Nat} (ty : TypeId) (hown : Own w B v n xs) (hrd : Rd w src bs) (hbytes : n + bs.length ≤ 140737488355328) (hB : B ≤ w.heap.size) :
  ∃ v' w', (Builtin.append_ #[36, 36] ty #[v, src]).run Tryz.prog w = .ok v' w' ∧ Own w' B v' (n + bs.length) (xs ++ bs) ∧ w.grownBy w' v.ownBlock ∧ (∀ k, v'.ownBlock = some k → v.ownBlock = some k ∨ k = w.heap.size) := by
 obtain ⟨i0, hi, hz0, hz1, hz2⟩ := info_parts info_byte
 obtain ⟨hby, a1, c1, rfl, hle, hm, hl48, hnone, hat⟩ := hrd
 cases a1 with
 | none =>
  have hb0 : bs = [] ∧ c1 = 0 := by
   rcases hnone with h | ⟨b, off, h⟩
   ·exact ⟨List.eq_nil_of_length_eq_zero (by omega), h⟩
   ·cases h
  obtain ⟨rfl, rfl⟩ := hb0
  exact ⟨v, w, run_append_owned_none (P := Tryz.prog) (w := w) B 36 ty 5 i0 1 und_bytes hi v n (bv xs) hown.2, by simpa using hown, World.grownBy.refl _ _, fun k hk => .inl hk⟩
 | some ad =>
  obtain ⟨v', w', hr, h2, h3, h4, h5⟩ := run_append_own_at (P := Tryz.prog) w B 36 ty 5 i0 (.int .u8 0) 1 1 und_bytes hi hz0 hz1 hz2 rfl (by decide) v n (bv xs) hown.2 ad bs.length c1 (bv bs) (by simp [bv]) hat.add (bv_oneCell bs) (by unfold maxLen; omega) (by omega) hB
  refine ⟨v', w', hr, ⟨by rw [hown.1]; simp, by simpa [bv] using h2⟩, h3, fun k hk => ?_⟩
  rcases h5 with h5 | h5
  ·rw [h5] at hk; exact .inl hk
  ·rw [h5] at hk; cases hk; exact .inr rfl
theorem bstep_append {w : World} {o : Oper} {a : Act} {K : Act → World → Prop} {Q : Exit → Act → World → Prop} (s x : Operand)
  (ho : o.op = .call { callee := .builtin .append, args := #[s, x], argTypes := #[36, 36] })
  {B n : Nat} {v src : Value} {xs bs : List Nat} (hs : a.eval s = v) (hown : Own w B v n xs) (hx : a.eval x = src) (hrd : Rd w src bs) (hbytes : n + bs.length ≤ 140737488355328) (hB : B ≤ w.heap.size)
  (h : ∀ a' c' w', Own w' B (.slice a' (n + bs.length) c') (n + bs.length) (xs ++ bs) → w.grownBy w' v.ownBlock → (∀ k, (Value.slice a' (n + bs.length) c').ownBlock = some k → v.ownBlock = some k ∨ k = w.heap.size) → K (a.put o.dst (.slice a' (n + bs.length) c')) w') :
  Oper.wp Tryz.prog o a w K Q := by
 obtain ⟨v', w', hrn, h1, h2, h3⟩ := bapp_run o.type hown hrd hbytes hB
 obtain ⟨a', c', rfl⟩ := own_form h1.2
 unfold Oper.wp execOp
 rw [ho]
 simp only [resolve, invoke, builtin, Sem.run_bind, Sem.run_pure, Result.andThen_ok, List.map_toArray, List.map_cons, List.map_nil, hs, hx, hrn]
 exact h a' c' w' h1 h2 h3
structure Wa {S M : Type} (W : World) (O0 : Nat → Prop) (g : Nat) (r n : Nat) (b off ne ce : Nat) (vp : Value) (E : List Nat) (I : S × M → World → Prop) (O : S × M → Nat → Prop) (wr : World) (p : Nat) (vk : Value) (key : List Nat) (st : S × M) : Prop where
 box : LBox wr g (r : Int) (n : Int) (.slice (some ⟨b, off, none⟩) ne ce) vp
 ents : Rd wr (.slice (some ⟨b, off, none⟩) ne ce) E
 own : Own wr W.heap.size vk key.length key
 by_ : Bys key
 inv : I st wr
 fr : Fb W wr O0
 loc : ∀ k, O st k → O0 k ∨ W.heap.size ≤ k
 apart : ∀ k, vk.ownBlock = some k → ¬ O st k
 pl : p ≤ E.length
 kl : key.length ≤ p
def WaP {S M : Type} (W : World) (O0 : Nat → Prop) (I : S × M → World → Prop) (O : S × M → Nat → Prop) (res : Nat × Bool × S) (e : Ending) (W' : World) : Prop :=
 e = .returned (.tuple #[.int .i64 (res.1 : Int), .bool res.2.1]) ∧ ∃ mm, I (res.2.2, mm) W' ∧ Fb W W' O0 ∧ ∀ k, O (res.2.2, mm) k → O0 k ∨ W.heap.size ≤ k
set_option maxRecDepth 100000 in
set_option maxHeartbeats 4000000 in
theorem walk_any {S M : Type} {fn : Nat} {cs : Array Value} {I : S × M → World → Prop} {O : S × M → Nat → Prop} {A : S → It → Bool × S} {W : World} {g r n b off ne ce : Nat} {Lo : Nat} (ha : Asker S M fn cs n Lo I O A) {vp : Value} {E : List Nat} {st : S × M} (m p : Nat)
  (hbx : LBox W g (r : Int) (n : Int) (.slice (some ⟨b, off, none⟩) ne ce) vp) (hE : Rd W (.slice (some ⟨b, off, none⟩) ne ce) E) (hLo : Lo ≤ W.heap.size) (hI : I st W) (hg : ¬ O st g) (hb : ¬ O st b) (hgl : g < W.heap.size) (hbl : b < W.heap.size) (hel : E.length ≤ 131072) (hn : n < 4294967296) (hm : m ≤ 4294967296) (hp : p ≤ E.length) :
  Calls Tryz.prog 74 #[.pointer (some ⟨g, 0, none⟩), .int .i64 (m : Int), .int .i64 (p : Int), .func (.func fn) #[] cs] W fun e W' => WaP W (O st) I O (walkS E A (n - m) m p [] st.1) e W' := by
 obtain ⟨O0, hO0⟩ : ∃ O0, O0 = O st := ⟨_, rfl⟩
 obtain ⟨res, hres⟩ : ∃ res, res = walkS E A (n - m) m p [] st.1 := ⟨_, rfl⟩
 rw [← hO0, ← hres]
 have HRes := Lib.hid hres
 have H0 : Hid (Wa W O0 g r n b off ne ce vp E I O W p (.slice none 0 0) [] st) := ⟨hbx, hE, ownNil _ _, (fun x hx => by cases hx), hI, Fb.refl _ _, (fun k hk => .inl (by rw [hO0]; exact hk)), (fun k hk => by cases hk), hp, Nat.zero_le _⟩
 have HA := Lib.hid ha
 have HLo := Lib.hid hLo
 have HO0 : Hid (¬ O0 g ∧ ¬ O0 b ∧ g < W.heap.size ∧ b < W.heap.size) := by unfold Hid; rw [hO0]; exact ⟨hg, hb, hgl, hbl⟩
 have hent := ha.enters
 have hnE : ne = E.length := (rd_lens hE).1
 have HnE := Lib.hid hnE
 have hne : ne ≤ 131072 := by omega
 clear hLo hO0 hres ha hbx hE hI hg hb hgl hbl hnE hp
 go_enter Tryz.func74, Tryz.ntmps74
 go_wp2
 go_loopw [1, 2, 10, 11, 12] (fun nu at_ ky _ _ wr => ∃ (i q kn : Nat) (ak : Option Addr) (kc : Nat), i ≤ 4294967296 ∧ (m ≤ i ∧ (i ≤ n ∨ i = m)) ∧ nu = .int .i64 (i : Int) ∧ at_ = .int .i64 (q : Int) ∧ ky = .slice ak kn kc ∧ q ≤ 131072 ∧ Hid (∃ key st', kn = key.length ∧ Wa W O0 g r n b off ne ce vp E I O wr q (.slice ak kn kc) key st' ∧ res = walkS E A (n - i) i q key st'.1)) (fun nu _ _ _ _ _ => n - (intOf nu).toNat)
 case atStart => exact ⟨m, p, 0, none, 0, hm, ⟨Nat.le_refl _, .inr rfl⟩, rfl, rfl, rfl, by have := H0.out.pl; omega, [], st, rfl, H0.out, HRes.out⟩
 case round =>
  clear H0 HRes
  obtain ⟨i, q, kn, ak, kc, hi4, hmi, rfl, rfl, rfl, hq, HW⟩ := hrel
  have i0 : (0 : Int) ≤ (i : Int) := by omega
  obtain ⟨key, st', hkn, hw, hres⟩ := HW.out
  obtain ⟨c0, c1, c2, c3⟩ := hw.box.cells
  by_cases hlt : i < n
  ·have hlt2 : (i : Int) < (n : Int) := by omega
   have hrec := readRecord_any hw.ents q (by rw [HnE.out]; exact hw.pl)
   have HRec := Lib.hid hrec
   have HWa := Lib.hid hw
   have HRes := Lib.hid hres
   have HKn := Lib.hid hkn
   clear hrec hw hres hkn HW
   go_wp2_with fail
   refine Calls.mono HRec.out ?_
   rintro z X1 ⟨b1, h | h⟩
   ·obtain ⟨hno, rfl⟩ := h
    have b11 : Below wr.heap.size wr (X1.alloc (.cells #[.int .i64 0, .slice none 0 0, .slice none 0 0, .int .i64 0] 109)) := b1.alloc b1.size _
    have HEnd : Hid (WaP W O0 I O res (.returned (.tuple #[.int .i64 (q : Int), .bool false])) (X1.alloc (.cells #[.int .i64 0, .slice none 0 0, .slice none 0 0, .int .i64 0] 109))) := by
     have hr1 : res = (q, false, st'.1) := by
      rw [HRes.out, show n - i = (n - i - 1) + 1 by omega]
      simp only [walkS, hno]
     rw [hr1]
     exact ⟨rfl, st'.2, HA.out.stays _ _ _ (fun _ => False) HWa.out.inv (Fb.of_below b11) (fun _ _ _ h => h) (fun _ h => h.elim), HWa.out.fr.trans (Fb.of_below b11), HWa.out.loc⟩
    clear hno b1 b11 HRec c0 c1 c2 c3
    go_wp2
    go_ret2
    exact HEnd.out
   ·obtain ⟨sh, rr, vv, hrc, o1, d1, o2, d2, rfl, rd1, rd2⟩ := h
    have ok := recordOf_ok hrc HWa.out.pl
    obtain ⟨rl, hrl⟩ : ∃ rl, rl = rr.2 := ⟨_, rfl⟩
    obtain ⟨vl, hvl⟩ : ∃ vl, vl = vv.2 := ⟨_, rfl⟩
    obtain ⟨en, hen⟩ : ∃ en, en = vv.1 + vv.2 := ⟨_, rfl⟩
    obtain ⟨R, hR⟩ : ∃ R, R = (E.drop rr.1).take rr.2 := ⟨_, rfl⟩
    obtain ⟨V, hV⟩ : ∃ V, V = (E.drop vv.1).take vv.2 := ⟨_, rfl⟩
    rw [← hR, ← hrl] at rd1
    rw [← hV, ← hvl] at rd2
    rw [← hen, ← hrl, ← hvl]
    have hRl : rl = R.length := (rd_lens rd1).1
    have hVl : vl = V.length := (rd_lens rd2).1
    have hE1 := hel
    have en1 : en ≤ E.length := by rw [hen]; exact ok.2.2.2
    have rl1 : q + rl ≤ en := by rw [hrl, hen]; omega
    have vl1 : vl ≤ en := by rw [hvl, hen]; omega
    have shE : sh ≤ E.length := ok.1
    have b2 : Below wr.heap.size wr (X1.alloc (.cells #[.int .i64 (sh : Int), .slice (some ⟨b, o1, none⟩) rl d1, .slice (some ⟨b, o2, none⟩) vl d2, .int .i64 (en : Int)] 109)) := b1.alloc b1.size _
    have rb : RecB (X1.alloc (.cells #[.int .i64 (sh : Int), .slice (some ⟨b, o1, none⟩) rl d1, .slice (some ⟨b, o2, none⟩) vl d2, .int .i64 (en : Int)] 109)) X1.heap.size (.int .i64 (sh : Int)) (.slice (some ⟨b, o1, none⟩) rl d1) (.slice (some ⟨b, o2, none⟩) vl d2) (.int .i64 (en : Int)) := heap_alloc_new X1 _
    have bx : Below X1.heap.size X1 (X1.alloc (.cells #[.int .i64 (sh : Int), .slice (some ⟨b, o1, none⟩) rl d1, .slice (some ⟨b, o2, none⟩) vl d2, .int .i64 (en : Int)] 109)) := (Below.refl _ _).alloc (Nat.le_refl _) _
    obtain ⟨X2, hX2⟩ : ∃ X2, X2 = X1.alloc (.cells #[.int .i64 (sh : Int), .slice (some ⟨b, o1, none⟩) rl d1, .slice (some ⟨b, o2, none⟩) vl d2, .int .i64 (en : Int)] 109) := ⟨_, rfl⟩
    rw [← hX2] at b2 rb bx
    obtain ⟨f0, f1, f2, f3⟩ := rb.cells
    have HX2 := Lib.hid hX2
    have HB2 := Lib.hid b2
    have HRb := Lib.hid rb
    have HR1 := Lib.hid (rd1.later bx)
    have HR2 := Lib.hid (rd2.later bx)
    have HRc := Lib.hid hrc
    have HDat := Lib.hid (And.intro hR (And.intro hV (And.intro hen (And.intro hRl hVl))))
    have HX1 : Hid (wr.heap.size ≤ X1.heap.size) := b1.size
    clear ok hrl hvl hen hR hV hRl hVl rd1 rd2 b1 b2 rb bx hX2 hrc HRec
    go_upto_region 5 with fail
    rw [← HX2.out]
    clear HX2 c0 c1 c2 c3
    by_cases hsh : kn < sh
    ·have hsh2 : (kn : Int) < (sh : Int) := by omega
     have HEnd : Hid (WaP W O0 I O res (.returned (.tuple #[.int .i64 (q : Int), .bool false])) X2) := by
      have hr1 : res = (q, false, st'.1) := by
       rw [HRes.out, show n - i = (n - i - 1) + 1 by omega]
       simp only [walkS, HRc.out]
       rw [if_pos (by rw [← HKn.out]; exact hsh)]
      rw [hr1]
      exact ⟨rfl, st'.2, HA.out.stays _ _ _ (fun _ => False) HWa.out.inv (Fb.of_below HB2.out) (fun _ _ _ h => h) (fun _ h => h.elim), HWa.out.fr.trans (Fb.of_below HB2.out), HWa.out.loc⟩
     go_wp2
     go_ret2
     exact HEnd.out
    have hsh2 : ¬ (kn : Int) < (sh : Int) := by omega
    have hsh3 : (sh : Int) ≤ (kn : Int) := by omega
    have hwo : Own wr W.heap.size (.slice ak kn kc) kn key := by have := HWa.out.own; rw [← HKn.out] at this; exact this
    have hkc : kn ≤ kc := (rd_lens (hwo.rd HWa.out.by_ (by rw [HKn.out]; have := HWa.out.kl; omega))).2.1
    have hkc2 : (sh : Int) ≤ (kc : Int) := by omega
    have hcut := (hwo.take (k := sh) (by omega)).later HB2.out
    have HCut := Lib.hid hcut
    clear hwo hcut
    go_upto_region 7 with fail
    have hkb : ∀ k, (Value.slice ak sh kc).ownBlock = some k → W.heap.size ≤ k ∧ k < wr.heap.size ∧ ¬ O st' k := fun k hk => by
     have h1 : (Value.slice ak kn kc).ownBlock = some k := by rw [← hk]; cases ak <;> rfl
     have h2 := HWa.out.own.2.lt k h1
     exact ⟨h2.1, h2.2, HWa.out.apart k h1⟩
    have HKb := Lib.hid hkb
    have hWX : W.heap.size ≤ X2.heap.size := Nat.le_trans HWa.out.fr.size HB2.out.size
    have HWX := Lib.hid hWX
    clear hkb hWX f0 f1 f2 f3
    have BD : Fb X2 X2.drew (fun k => (Value.slice ak sh kc).ownBlock = some k) := Fb.of_below ((Below.refl _ _).drew)
    refine wp_region_noPanic ?_
    refine wp_region_held_drew (S := fun wx => Fb X2 wx (fun k => (Value.slice ak sh kc).ownBlock = some k)) (by kernel_rfl) BD (fun hHeld => ?_)
    refine wpAnyH_take (i := 0) (oi := { dst := some 40, op := _, type := _, pos := _, after := _, guard := _ }) (v := .slice ak kn kc) rfl (by kernel_rfl) (by kernel_rfl) (by kernel_rfl) (fun _ _ _ h => h) (Or.inl ⟨by kernel_rfl, fun wy hy => by first | (go_simp; done)⟩) (by assumption) ?_
    try simp only [Act.put, List.setIfInBounds_toArray, List.set_cons_zero, List.set_cons_succ]
    refine wpAnyH_take (i := 1) (oi := { dst := some 41, op := _, type := _, pos := _, after := _, guard := _ }) (v := .pointer (some ⟨X1.heap.size, 0, none⟩)) rfl (by kernel_rfl) (by kernel_rfl) (by kernel_rfl) (fun _ _ _ h => h) (Or.inl ⟨by kernel_rfl, fun wy hy => by first | (go_simp; done)⟩) (by assumption) ?_
    try simp only [Act.put, List.setIfInBounds_toArray, List.set_cons_zero, List.set_cons_succ]
    refine wpAnyH_take (i := 2) (oi := { dst := some 42, op := _, type := _, pos := _, after := _, guard := _ }) (v := .int .i64 (sh : Int)) rfl (by kernel_rfl) (by kernel_rfl) (by kernel_rfl) (fun _ _ _ h => h) (Or.inl ⟨by kernel_rfl, fun wy hy => by (obtain ⟨f0, f1, f2, f3⟩ := (HRb.out.fb hy (fun hk => by have := (HKb.out _ hk).2.1; have := HX1.out; omega)).cells; go_simp; done)⟩) (by assumption) ?_
    try simp only [Act.put, List.setIfInBounds_toArray, List.set_cons_zero, List.set_cons_succ]
    refine wpAnyH_take (i := 3) (oi := { dst := some 43, op := _, type := _, pos := _, after := _, guard := _ }) (v := .slice ak sh kc) rfl (by kernel_rfl) (by kernel_rfl) (by kernel_rfl) (fun _ _ _ h => h) (Or.inl ⟨by kernel_rfl, fun wy hy => by first | (go_simp; done) | (cases ak <;> (go_simp; done))⟩) (by assumption) ?_
    try simp only [Act.put, List.setIfInBounds_toArray, List.set_cons_zero, List.set_cons_succ]
    refine wpAnyH_take (i := 4) (oi := { dst := some 44, op := _, type := _, pos := _, after := _, guard := _ }) (v := .pointer (some ⟨X1.heap.size, 1, none⟩)) rfl (by kernel_rfl) (by kernel_rfl) (by kernel_rfl) (fun _ _ _ h => h) (Or.inl ⟨by kernel_rfl, fun wy hy => by first | (go_simp; done)⟩) (by assumption) ?_
    try simp only [Act.put, List.setIfInBounds_toArray, List.set_cons_zero, List.set_cons_succ]
    refine wpAnyH_take (i := 5) (oi := { dst := some 45, op := _, type := _, pos := _, after := _, guard := _ }) (v := .slice (some ⟨b, o1, none⟩) rl d1) rfl (by kernel_rfl) (by kernel_rfl) (by kernel_rfl) (fun _ _ _ h => h) (Or.inl ⟨by kernel_rfl, fun wy hy => by (obtain ⟨f0, f1, f2, f3⟩ := (HRb.out.fb hy (fun hk => by have := (HKb.out _ hk).2.1; have := HX1.out; omega)).cells; go_simp; done)⟩) (by assumption) ?_
    try simp only [Act.put, List.setIfInBounds_toArray, List.set_cons_zero, List.set_cons_succ]
    refine wpAnyH_ready (rs := [6]) (by kernel_rfl) (by simp) ?_
    refine AllReadyH.cons (o := { dst := some 46, op := _, type := _, pos := _, after := _, guard := _ }) rfl (fun K hK => ?_) AllReadyH.nil
    refine bstep_append _ _ rfl (B := W.heap.size) (n := sh) (xs := key.take sh) (bs := R) rfl (HCut.out.later ((Below.refl _ _).drew)) rfl (HR1.out.later ((Below.refl _ _).drew)) (by have := HDat.out.2.2.2.1; omega) HWX.out (fun a3 c3 X3 own3 gr3 lo3 => ?_)
    have f23 : Fb X2 X3 (fun k => (Value.slice ak sh kc).ownBlock = some k) := BD.trans (Fb.of_grown gr3 (fun i h => h))
    have hRl : rl = R.length := HDat.out.2.2.2.1
    rw [← hRl] at own3 lo3 ⊢
    refine hK.out _ _ f23 (fun hHeld => ?_)
    clear hK K
    try simp only [Act.put, List.setIfInBounds_toArray, List.set_cons_zero, List.set_cons_succ]
    refine wpAnyH_take (i := 7) (oi := { dst := some 10, op := _, type := _, pos := _, after := _, guard := _ }) (v := .slice a3 (sh + rl) c3) rfl (by kernel_rfl) (by kernel_rfl) (by kernel_rfl) (fun _ _ _ h => h) (Or.inl ⟨by kernel_rfl, fun wy hy => by first | (go_simp; done)⟩) (by assumption) ?_
    try simp only [Act.put, List.setIfInBounds_toArray, List.set_cons_zero, List.set_cons_succ]
    refine wpAnyH_done (by kernel_rfl) (NoPanic.normal ?_) _
    obtain ⟨K', hK'⟩ : ∃ K', K' = key.take sh ++ R := ⟨_, rfl⟩
    rw [← hK'] at own3
    have hkl' : sh + rl = K'.length := own3.1
    have hbR : Bys R := HR1.out.1
    have hbK : Bys K' := by rw [hK']; exact Bys.app (fun x hx => HWa.out.by_ x (List.mem_of_mem_take hx)) hbR
    have hskn : kn ≤ q := by rw [HKn.out]; exact HWa.out.kl
    have b2 := HB2.out
    have hX23 : X2.heap.size ≤ X3.heap.size := f23.size
    have hk3 : ∀ k, (Value.slice a3 (sh + rl) c3).ownBlock = some k → W.heap.size ≤ k ∧ k < X3.heap.size ∧ ¬ O st' k := fun k hk => by
     refine ⟨(own3.2.lt k hk).1, (own3.2.lt k hk).2, ?_⟩
     rcases lo3 k hk with h | h
     ·exact (HKb.out k h).2.2
     ·intro ho
      have := HA.out.lt st' wr k HWa.out.inv ho
      have := b2.size
      have h' : k = X2.heap.size := h
      omega
    have hOst : ∀ k, O st' k → O0 k ∨ W.heap.size ≤ k := HWa.out.loc
    have hng : ¬ O st' g := fun h => by rcases hOst g h with h | h; exact HO0.out.1 h; have := HO0.out.2.2.1; omega
    have hnb : ¬ O st' b := fun h => by rcases hOst b h with h | h; exact HO0.out.2.1 h; have := HO0.out.2.2.2; omega
    have hkg : ∀ k, (Value.slice ak sh kc).ownBlock = some k → k ≠ g ∧ k ≠ b := fun k hk => by have := (HKb.out k hk).1; have := HO0.out.2.2; omega
    have fw3 : Fb wr X3 (fun k => (Value.slice ak sh kc).ownBlock = some k) := (Fb.of_below b2).trans f23
    have hI3 : I st' X3 := HA.out.stays _ _ _ _ HWa.out.inv fw3 (fun k _ ho hk => (HKb.out k hk).2.2 ho) (fun k hk => Nat.le_trans HLo.out (HKb.out k hk).1)
    have hbx3 : LBox X3 g (r : Int) (n : Int) (.slice (some ⟨b, off, none⟩) ne ce) vp := HWa.out.box.fb fw3 (fun h => (hkg g h).1 rfl)
    have hen3 : Rd X3 (.slice (some ⟨b, off, none⟩) ne ce) E := HWa.out.ents.fb fw3 (fun h => (hkg b h).2 rfl)
    have hv3 : Rd X3 (.slice (some ⟨b, o2, none⟩) vl d2) V := HR2.out.fb f23 (fun h => (hkg b h).2 rfl)
    have hrb3 := HRb.out.fb f23 (fun hk => by have := (HKb.out _ hk).2.1; have := HX1.out; omega)
    have hkr3 : Rd X3 (.slice a3 (sh + rl) c3) K' := own3.rd hbK (by omega)
    have hask : Calls Tryz.prog fn (#[.agg #[.int .i64 (i : Int), .int .i64 (q : Int), .int .i64 (sh : Int), .slice a3 (sh + rl) c3, .slice (some ⟨b, o2, none⟩) vl d2]] ++ cs) X3 fun e w' => e = .returned (.bool (A st'.1 ⟨i, q, sh, K', V⟩).1) ∧ ∃ mm, I ((A st'.1 ⟨i, q, sh, K', V⟩).2, mm) w' ∧ Fb X3 w' (O st') ∧ ∀ k, O ((A st'.1 ⟨i, q, sh, K', V⟩).2, mm) k → O st' k ∨ X3.heap.size ≤ k := HA.out.asks st' X3 ⟨i, q, sh, K', V⟩ a3 (some ⟨b, o2, none⟩) c3 d2 (sh + rl) vl hI3 (by simpa using hlt) hkl' HDat.out.2.2.2.2 hkr3 hv3 (by omega) (by omega) (fun w' f' => ⟨(own3.fb f' (fun k hk => (hk3 k hk).2.2)).rd hbK (by omega), hv3.fb f' hnb⟩)
    obtain ⟨it, hit⟩ : ∃ it : It, it = ⟨i, q, sh, K', V⟩ := ⟨_, rfl⟩
    rw [← hit] at hask
    have HAsk := Lib.hid hask
    have HRb3 := Lib.hid hrb3
    have HOwn3 := Lib.hid own3
    have HF03 : Hid (Fb W X3 O0) := ⟨fw3.os.trans HWa.out.fr.os, fw3.tape.trans HWa.out.fr.tape, fw3.output.trans HWa.out.fr.output, Nat.le_trans HWa.out.fr.size fw3.size, fun k hk ho => (fw3.block k (Nat.lt_of_lt_of_le hk HWa.out.fr.size) (fun h => by have := (HKb.out k h).1; omega)).trans (HWa.out.fr.block k hk ho)⟩
    have HStep : Hid (res = if (A st'.1 it).1 = true then walkS E A (n - (i + 1)) (i + 1) en K' (A st'.1 it).2 else (q, false, (A st'.1 it).2)) := by
     unfold Hid
     rw [HRes.out, show n - i = (n - (i + 1)) + 1 by omega]
     simp only [walkS, HRc.out]
     rw [if_neg (by rw [← HKn.out]; exact hsh), ← HDat.out.1, ← HDat.out.2.1, ← HDat.out.2.2.1, ← hK', ← hit]
    have HK3 := Lib.hid hk3
    have HN2 := Lib.hid (And.intro hng hnb)
    have HBx3 := Lib.hid hbx3
    have HEn3 := Lib.hid hen3
    have HBk := Lib.hid hbK
    have HKl := Lib.hid hkl'
    have HOst := Lib.hid hOst
    obtain ⟨f0, f1, f2, f3⟩ := hrb3.cells
    clear hHeld own3 gr3 lo3 f23 hK' hkl' hbR hbK b2 hX23 hk3 hOst hng hnb hkg fw3 hI3 hbx3 hen3 hv3 hrb3 hkr3 hask hit BD hRl
    go_simp
    go_step
    obtain ⟨B, hB⟩ : ∃ B, B = (A st'.1 it).1 := ⟨_, rfl⟩
    obtain ⟨st2, hst2⟩ : ∃ st2, st2 = (A st'.1 it).2 := ⟨_, rfl⟩
    rw [← hB, ← hst2] at HAsk HStep
    clear hB hst2
    go_wp2_with fail
    refine Calls.mono HAsk.out ?_
    rintro z X4 ⟨rfl, mm, hI4, hf4, hlo4⟩
    have hf04 : Fb W X4 O0 := ⟨hf4.os.trans HF03.out.os, hf4.tape.trans HF03.out.tape, hf4.output.trans HF03.out.output, Nat.le_trans HF03.out.size hf4.size, fun k hk ho => (hf4.block k (Nat.lt_of_lt_of_le hk HF03.out.size) (fun h => by rcases HOst.out k h with h | h; exact ho h; omega)).trans (HF03.out.block k hk ho)⟩
    have hlo : ∀ k, O (st2, mm) k → O0 k ∨ W.heap.size ≤ k := fun k hk => by
     rcases hlo4 k hk with h | h
     ·exact HOst.out k h
     ·exact .inr (Nat.le_trans HF03.out.size h)
    cases B with
    | false =>
     have HEnd : Hid (WaP W O0 I O res (.returned (.tuple #[.int .i64 (q : Int), .bool false])) X4) := by
      have hr1 : res = (q, false, st2) := by rw [HStep.out]; rfl
      rw [hr1]
      exact ⟨rfl, mm, hI4, hf04, hlo⟩
     clear hI4 hf4 hlo4 hf04 hlo HAsk f0 f1 f2 f3
     go_wp2
     go_ret2
     exact HEnd.out
    | true =>
     have hr1 : res = walkS E A (n - (i + 1)) (i + 1) en K' st2 := by rw [HStep.out]; rfl
     have hrb4 := HRb3.out.fb hf4 (fun h => by
      have h1 := HA.out.lt st' wr _ HWa.out.inv h
      have := HX1.out
      omega)
     have HW4 : Hid (∃ key st', sh + rl = key.length ∧ Wa W O0 g r n b off ne ce vp E I O X4 en (.slice a3 (sh + rl) c3) key st' ∧ res = walkS E A (n - (i + 1)) (i + 1) en key st'.1) := by
      refine ⟨K', (st2, mm), HKl.out, ⟨HBx3.out.fb hf4 HN2.out.1, HEn3.out.fb hf4 HN2.out.2, ?_, HBk.out, hI4, hf04, hlo, fun k hk h => ?_, en1, by rw [← HKl.out]; have := HWa.out.kl; have := HKn.out; omega⟩, hr1⟩
      ·rw [← HKl.out]
       exact HOwn3.out.fb hf4 (fun k hk => (HK3.out k hk).2.2)
      ·rcases hlo4 k h with h | h
       ·exact (HK3.out k hk).2.2 h
       ·have := (HK3.out k hk).2.1; omega
     obtain ⟨g0, g1, g2, g3⟩ := hrb4.cells
     clear hI4 hf4 hlo4 hf04 hlo HAsk f0 f1 f2 f3 hr1 hrb4
     go_wp2
     go_roundw
     case rel => exact ⟨i + 1, en, sh + rl, a3, c3, by omega, ⟨by omega, .inl (by omega)⟩, by go_num, rfl, rfl, by omega, HW4⟩
     case measure => simp only [intOf]; omega
  ·have hge : ¬ (i : Int) < (n : Int) := by omega
   have HEnd : Hid (WaP W O0 I O res (.returned (.tuple #[.int .i64 (q : Int), .bool true])) wr) := by
    have hr1 : res = (q, true, st'.1) := by
     rw [hres, show n - i = 0 by omega]
     rfl
    rw [hr1]
    exact ⟨rfl, st'.2, hw.inv, hw.fr, hw.loc⟩
   clear hw hres hkn HW
   go_wp2
   go_ret2
   exact HEnd.out
end Go.Proofs.YtchebhafabhabaaGreatDoor

namespace Go.Proofs.YtchebhafabhabaaGreatDoor
open Go.RowKit
set_option linter.unusedVariables false

def okIt (key val : List Nat) : Prop := IsKey key ∧ val.length ≤ 4096 ∧ (val.length = 0 ∨ key.getLast? = some 1)
theorem keyL_last (e : EntD) : (keyL e).getLast? = some e.kind.toNat := by unfold keyL; rw [List.getLast?_append]; rfl
theorem check_val {D : EntD} (h : checkS D = 0) (hv : D.val = []) (V : List Nat) (a b c : Value) : checkS ⟨a, D.fam, b, D.ts, D.seq, D.kind, c, D.row, D.qual, V⟩ = 0 ↔ V.length ≤ 4096 ∧ (V.length = 0 ∨ D.kind = 1) := by
 unfold checkS at *
 simp only at *
 split at h
 ·cases h
 ·split at h
  ·cases h
  ·split at h
   ·cases h
   ·split at h
    ·cases h
    ·split at h
     ·cases h
     ·split at h
      ·cases h
      ·rename_i h1 h2 h3 h4 h5 h6
       rw [if_neg h1, if_neg h2, if_neg h3, if_neg h4, if_neg h5, if_neg h6]
       split
       ·rename_i h7
        constructor
        ·intro k; cases k
        ·intro k
         omega
       ·rename_i h7
        constructor
        ·intro _
         omega
        ·intro _; rfl
theorem ok_iff {D : EntD} (h : checkS D = 0) (hv : D.val = []) (V : List Nat) (a b c : Value) : checkS ⟨a, D.fam, b, D.ts, D.seq, D.kind, c, D.row, D.qual, V⟩ = 0 ↔ okIt (keyL D) V := by
 rw [check_val h hv]
 unfold okIt
 rw [keyL_last]
 obtain ⟨_, f, _, _, t, s, k, _⟩ := check_facts h
 constructor
 ·rintro ⟨h1, h2⟩
  refine ⟨⟨D, h, hv, rfl⟩, h1, h2.imp id (fun z => by rw [z]; rfl)⟩
 ·rintro ⟨_, h1, h2⟩
  refine ⟨h1, h2.imp id (fun z => ?_)⟩
  have : D.kind.toNat = 1 := Option.some.inj z
  omega
def EnP (w : World) (key val : List Nat) (x : Ending) (w' : World) : Prop := ∃ e : EntD, x = .returned (.agg e.cells) ∧ EntD.Ok w' e ∧ (checkS e = 0 ↔ okIt key val) ∧ (IsKey key → keyL e = key ∧ e.val = val) ∧ Below w.heap.size w w' ∧ (Own w' w.heap.size e.vr e.row.length e.row ∧ Own w' w.heap.size e.vq e.qual.length e.qual ∧ Own w' w.heap.size e.vv e.val.length e.val)
def IBox (w : World) (g : Nat) (n p s : Int) (vk vv : Value) : Prop := w.heap[g]? = some (.cells #[.int .i64 n, .int .i64 p, .int .i64 s, vk, vv] 116 (0, 0))
theorem IBox.cells {w : World} {g : Nat} {n p s : Int} {vk vv : Value} (h : IBox w g n p s vk vv) : w.cell? ⟨g, 0, none⟩ = some (.int .i64 n) ∧ w.cell? ⟨g, 1, none⟩ = some (.int .i64 p) ∧ w.cell? ⟨g, 2, none⟩ = some (.int .i64 s) ∧ w.cell? ⟨g, 3, none⟩ = some vk ∧ w.cell? ⟨g, 4, none⟩ = some vv := by
 unfold IBox at h
 simp [World.cell?, h]
theorem IBox.later {w w' : World} {g : Nat} {n p s : Int} {vk vv : Value} (h : IBox w g n p s vk vv) (hb : Below w.heap.size w w') : IBox w' g n p s vk vv := by
 unfold IBox at *
 rw [hb.block g (Array.getElem?_eq_some_iff.1 h).1]
 exact h
theorem EBox.fz7b {w : World} {g : Nat} {e : EntD} (h : EBox w g e) : w.frozen? ⟨g, 0, none⟩ = false ∧ w.frozen? ⟨g, 1, none⟩ = false ∧ w.frozen? ⟨g, 2, none⟩ = false ∧ w.frozen? ⟨g, 3, none⟩ = false ∧ w.frozen? ⟨g, 4, none⟩ = false ∧ w.frozen? ⟨g, 5, none⟩ = false ∧ w.frozen? ⟨g, 6, none⟩ = false := ⟨h.fz 0, h.fz 1, h.fz 2, h.fz 3, h.fz 4, h.fz 5, h.fz 6⟩
set_option maxRecDepth 100000 in
set_option maxHeartbeats 4000000 in
theorem entry_any {w : World} {ak av : Option Addr} {kn kc vn vc : Nat} {K V : List Nat} (n p s : Int) (hk : Rd w (.slice ak kn kc) K) (hv : Rd w (.slice av vn vc) V) (hkl : kn ≤ 131072) (hvl : vn ≤ 131072) :
  Calls Tryz.prog 76 #[.agg #[.int .i64 n, .int .i64 p, .int .i64 s, .slice ak kn kc, .slice av vn vc]] w fun x w' => EnP w K V x w' := by
 have A1 := (Below.refl w.heap.size w).alloc (Nat.le_refl _) (.cells #[.int .i64 n, .int .i64 p, .int .i64 s, .slice ak kn kc, .slice av vn vc] 116)
 have A2 := A1.alloc A1.size (.cells #[.slice none 0 0, .int .i64 0, .slice none 0 0, .int .i64 0, .int .i64 0, .int .i64 0, .slice none 0 0] 40)
 have ib : IBox (w.alloc (.cells #[.int .i64 n, .int .i64 p, .int .i64 s, .slice ak kn kc, .slice av vn vc] 116)) w.heap.size n p s (.slice ak kn kc) (.slice av vn vc) := heap_alloc_new w _
 have ib2 := ib.later ((Below.refl _ _).alloc (Nat.le_refl _) (.cells #[.slice none 0 0, .int .i64 0, .slice none 0 0, .int .i64 0, .int .i64 0, .int .i64 0, .slice none 0 0] 40))
 obtain ⟨X, hX⟩ : ∃ X, X = (w.alloc (.cells #[.int .i64 n, .int .i64 p, .int .i64 s, .slice ak kn kc, .slice av vn vc] 116)).alloc (.cells #[.slice none 0 0, .int .i64 0, .slice none 0 0, .int .i64 0, .int .i64 0, .int .i64 0, .slice none 0 0] 40) := ⟨_, rfl⟩
 have hXs : X.heap.size = w.heap.size + 2 := by rw [hX]; simp
 have zb : EBox X (w.heap.size + 1) ⟨.slice none 0 0, 0, .slice none 0 0, 0, 0, 0, .slice none 0 0, [], [], []⟩ := by
  unfold EBox EntD.cells
  rw [hX]
  have := heap_alloc_new (w.alloc (.cells #[.int .i64 n, .int .i64 p, .int .i64 s, .slice ak kn kc, .slice av vn vc] 116)) (.cells #[.slice none 0 0, .int .i64 0, .slice none 0 0, .int .i64 0, .int .i64 0, .int .i64 0, .slice none 0 0] 40)
  simpa using this
 rw [← hX] at A2 ib2
 have HPk := Lib.hid (parse_any (hk.later A2) (by have := (rd_lens hk).1; omega))
 have HX := Lib.hid hX
 have HA2 := Lib.hid A2
 have HIb := Lib.hid ib2
 have HZb := Lib.hid zb
 have HXs := Lib.hid hXs
 have HV := Lib.hid (hv.later A2)
 obtain ⟨c0, c1, c2, c3, c4⟩ := ib2.cells
 have HkL := Lib.hid (rd_lens hk).1
 have HvL := Lib.hid (rd_lens hv).1
 clear A1 A2 ib ib2 hX zb hXs hk hv
 go_enter Tryz.func76, Tryz.ntmps76
 go_upto_region 1 with fail
 rw [← HX.out]
 clear HX
 go_wp2_with fail
 refine Calls.mono HPk.out ?_
 rintro z X1 ⟨b1, hz⟩
 obtain ⟨ar, mr, cr, aq, mq, cq, fam, ts, sq, kd, row, qual, en, rfl, ⟨own1, own2, hsm⟩, fin⟩ : ∃ (ar : Option Addr) (mr cr : Nat) (aq : Option Addr) (mq cq : Nat) (fam ts sq kd : Int) (row qual : List Nat) (en : Int), z = .returned (.tuple #[.agg #[.slice ar mr cr, .int .i64 fam, .slice aq mq cq, .int .i64 ts, .int .i64 sq, .int .i64 kd, .slice none 0 0], .int .i64 en]) ∧ (Own X1 w.heap.size (.slice ar mr cr) row.length row ∧ Own X1 w.heap.size (.slice aq mq cq) qual.length qual ∧ Bys row ∧ Bys qual ∧ row.length ≤ 256 ∧ qual.length ≤ 256) ∧ Hid (∀ vv, (checkS ⟨.slice ar mr cr, fam, .slice aq mq cq, ts, sq, kd, vv, row, qual, V⟩ = 0 ↔ okIt K V) ∧ (IsKey K → keyL ⟨.slice ar mr cr, fam, .slice aq mq cq, ts, sq, kd, vv, row, qual, V⟩ = K)) := by
  rcases hz with h | h
  ·obtain ⟨D, hD0, hDv, hDk, hDr, hDq, hDvv, rfl, own1, BB, hBB, own2, hlo⟩ := h
   obtain ⟨q1, _, q2, _⟩ := check_facts hD0
   have rd1 := own1.rd hDr (by omega)
   have rd2 := own2.rd hDq (by omega)
   obtain ⟨ar, mr, cr, h1⟩ := rd_slice rd1
   obtain ⟨aq, mq, cq, h2⟩ := rd_slice rd2
   rw [h1] at own1
   rw [h2] at own2
   refine ⟨ar, mr, cr, aq, mq, cq, D.fam, D.ts, D.seq, D.kind, D.row, D.qual, 0, ?_, ⟨own1.mono (by have := HXs.out; omega), own2.mono (by have := HXs.out; omega), hDr, hDq, q1.2, q2⟩, fun vv => ⟨?_, fun _ => ?_⟩⟩
   ·unfold EntD.cells
    rw [h1, h2, hDvv]
   ·rw [ok_iff hD0 hDv, hDk]
   ·rw [← hDk]; rfl
  ·obtain ⟨hno, rfl⟩ := h
   refine ⟨none, 0, 0, none, 0, 0, 0, 0, 0, 0, [], [], 27, rfl, ⟨⟨rfl, World.ownsRow_nil _ _ _ _⟩, ⟨rfl, World.ownsRow_nil _ _ _ _⟩, (by intro x hx; cases hx), (by intro x hx; cases hx), Nat.zero_le _, Nat.zero_le _⟩, fun vv => ⟨⟨fun h => ?_, fun h => absurd h.1 hno⟩, fun h => absurd h hno⟩⟩
   unfold checkS at h
   simp at h
 have X2b := EBox.new X1 ⟨.slice ar mr cr, fam, .slice aq mq cq, ts, sq, kd, .slice none 0 0, row, qual, []⟩
 have B2 : Below X1.heap.size X1 _ := (Below.refl X1.heap.size X1).alloc (Nat.le_refl _) (.cells #[.slice ar mr cr, .int .i64 fam, .slice aq mq cq, .int .i64 ts, .int .i64 sq, .int .i64 kd, .slice none 0 0] 40)
 have S2 : (X1.alloc (.cells #[.slice ar mr cr, .int .i64 fam, .slice aq mq cq, .int .i64 ts, .int .i64 sq, .int .i64 kd, .slice none 0 0] 40)).heap.size = X1.heap.size + 1 := by simp
 unfold EntD.cells at X2b
 simp only at X2b
 obtain ⟨X2, hX2⟩ : ∃ X2, X2 = X1.alloc (.cells #[.slice ar mr cr, .int .i64 fam, .slice aq mq cq, .int .i64 ts, .int .i64 sq, .int .i64 kd, .slice none 0 0] 40) := ⟨_, rfl⟩
 rw [← hX2] at X2b B2 S2
 have b2 : Below X.heap.size X X2 := b1.trans (B2.mono b1.size)
 have HX2 := Lib.hid hX2
 have HE2 := Lib.hid X2b
 have HR := Lib.hid (And.intro (own1.later B2) (And.intro (own2.later B2) hsm))
 have HI2 := Lib.hid (HIb.out.later b2)
 have HZ2 := Lib.hid (HZb.out.later b2)
 have HA3 := Lib.hid (HA2.out.trans (b2.mono HA2.out.size))
 have HS2 := Lib.hid (show X1.heap.size < X2.heap.size ∧ w.heap.size + 2 ≤ X1.heap.size from ⟨by omega, by have := b1.size; have := HXs.out; omega⟩)
 have HV2 := Lib.hid (HV.out.later b2)
 have HC := Lib.hid (handed (clone_any HV2.out (by have := HvL.out; omega)))
 obtain ⟨e0, e1, e2, e3, e4⟩ := HI2.out.cells
 clear c0 c1 c2 c3 c4 own1 own2 hsm B2 S2 X2b hX2 b1 b2 HPk HIb HZb HV hz
 go_upto_region 2 with fail
 rw [← HX2.out]
 clear HX2
 go_wp2_with fail
 refine Calls.mono HC.out ?_
 rintro z X3 ⟨a3, m3, c3, rfl, own3, b3⟩
 have HV3 : Hid (Bys V ∧ m3 = V.length) := ⟨HV2.out.1, own3.1⟩
 have n1 : ¬ (X1.heap.size = w.heap.size + 1) := by have := HS2.out; omega
 have n2 : ¬ (w.heap.size + 1 = X1.heap.size) := by have := HS2.out; omega
 have be := HE2.out.later b3
 have bg := HZ2.out.later b3
 have A4 := HA3.out.trans (b3.mono HA3.out.size)
 have ap1 := apart_set X3 X1.heap.size 6 (.slice a3 m3 c3)
 have be2 := be.set6 (.slice a3 m3 c3) V
 have bg2 := bg.apart ap1 n2
 have fa := filled_apart (X3.setCell ⟨X1.heap.size, 6, none⟩ (.slice a3 m3 c3)) (w.heap.size + 1) ⟨.slice ar mr cr, fam, .slice aq mq cq, ts, sq, kd, .slice a3 m3 c3, row, qual, V⟩
 have fb := filled_box bg2 ⟨.slice ar mr cr, fam, .slice aq mq cq, ts, sq, kd, .slice a3 m3 c3, row, qual, V⟩
 have A5 := A4.trans (ap1.below (by have := HS2.out; omega) A4.size)
 have bw := A5.trans (fa.below (by omega) A5.size)
 have y1 := ((HR.out.1.later b3).apartE be ap1).apartE bg2 fa
 have y2 := ((HR.out.2.1.later b3).apartE be ap1).apartE bg2 fa
 have y3 := (own3.apartE be ap1).apartE bg2 fa
 have HDN : Hid (_ ∧ _ ∧ _ ∧ _ ∧ _) := ⟨fb, bw, y1, y2, y3⟩
 clear fa fb bw y1 y2 y3 ap1 be2 bg2 A4 A5 own3 b3
 simp only [filled] at HDN
 obtain ⟨g0, g1, g2, g3, g4, g5, g6⟩ := bg.cells7
 obtain ⟨gf0, gf1, gf2, gf3, gf4, gf5, gf6⟩ := EBox.fz7b bg
 simp only at g0 g1 g2 g3 g4 g5 g6
 obtain ⟨h0, h1, h2, h3, h4, h5, h6⟩ := be.cells7
 obtain ⟨ef0, ef1, ef2, ef3, ef4, ef5, ef6⟩ := EBox.fz7b be
 simp only at h0 h1 h2 h3 h4 h5 h6
 clear e0 e1 e2 e3 e4 be bg
 have HSM := Lib.hid HR.out.2.2
 clear HR HE2 HI2 HZ2 HA3 HV2 HC
 go_wp2
 have HH := HDN.out
 clear HDN
 generalize ((((((((X3.setCell ⟨X1.heap.size, 6, none⟩ (.slice a3 m3 c3)).setCell ⟨w.heap.size + 1, 0, none⟩ (.slice ar mr cr)).setCell ⟨w.heap.size + 1, 1, none⟩ (.int .i64 fam)).setCell ⟨w.heap.size + 1, 2, none⟩ (.slice aq mq cq)).setCell ⟨w.heap.size + 1, 3, none⟩ (.int .i64 ts)).setCell ⟨w.heap.size + 1, 4, none⟩ (.int .i64 sq)).setCell ⟨w.heap.size + 1, 5, none⟩ (.int .i64 kd)).setCell ⟨w.heap.size + 1, 6, none⟩ (.slice a3 m3 c3)) = WZ at *
 obtain ⟨fb, bw, y1, y2, y3⟩ := HH
 obtain ⟨t0, t1, t2, t3, t4, t5, t6⟩ := fb.cells7
 simp only at t0 t1 t2 t3 t4 t5 t6
 (try simp only [Exit.inBlock, Exit.then])
 refine bodyPost_ret (v := .agg #[.slice ar mr cr, .int .i64 fam, .slice aq mq cq, .int .i64 ts, .int .i64 sq, .int .i64 kd, .slice a3 m3 c3]) ?hres rfl ?_
 case hres => simp [results, Tryz.results76, go_sem, t0, t1, t2, t3, t4, t5, t6]
 obtain ⟨k1, k2, k3, k4⟩ := HSM.out
 have hm3 := HV3.out.2
 have hvv := HvL.out
 exact ⟨⟨.slice ar mr cr, fam, .slice aq mq cq, ts, sq, kd, .slice a3 m3 c3, row, qual, V⟩, rfl, ⟨y1.rd k1 (by omega), y2.rd k2 (by omega), y3.rd HV3.out.1 (by omega)⟩, (fin.out _).1, fun h => ⟨(fin.out _).2 h, rfl⟩, bw, y1, y2, by have := y3.mono (B' := w.heap.size) (by have := HS2.out; omega); rw [HV3.out.2] at this; rw [HV3.out.2]; exact this⟩
end Go.Proofs.YtchebhafabhabaaGreatDoor

namespace Go.Proofs.YtchebhafabhabaaGreatDoor
open Go.RowKit
set_option linter.unusedVariables false

def wordAt (P : List Nat) (i : Nat) : Nat := rdle (P.getD (i * 4 + 3) 0) (P.getD (i * 4 + 2) 0) (P.getD (i * 4 + 1) 0) (P.getD (i * 4) 0)
theorem wordAt_drop (P : List Nat) (i : Nat) : rdle ((P.drop (i * 4)).getD 3 0) ((P.drop (i * 4)).getD 2 0) ((P.drop (i * 4)).getD 1 0) ((P.drop (i * 4)).getD 0 0) = wordAt P i := by
 unfold wordAt
 simp [List.getD_eq_getElem?_getD, List.getElem?_drop]
set_option maxRecDepth 100000 in
set_option maxHeartbeats 1000000 in
theorem place_any {W : World} {g : Nat} {r n : Int} {ve : Value} {b off np cp : Nat} {P : List Nat} (hbx : LBox W g r n ve (.slice (some ⟨b, off, none⟩) np cp)) (hP : Rd W (.slice (some ⟨b, off, none⟩) np cp) P) (i : Nat) (hi : i * 4 + 4 ≤ P.length) (hl : P.length ≤ 131072) :
  Calls Tryz.prog 70 #[.pointer (some ⟨g, 0, none⟩), .int .i64 (i : Int)] W fun e w' => e = .returned (.int .i64 ((wordAt P i : Nat) : Int)) ∧ Below W.heap.size W w' := by
 obtain ⟨hn, hle, hm, hl48⟩ := rd_lens hP
 obtain ⟨c0, c1, c2, c3⟩ := hbx.cells
 have hk : i * 4 + 4 ≤ np := by omega
 have hnp : np ≤ 131072 := by omega
 have HP : Hid (Rd W (.slice (some ⟨b, off + i * 4, none⟩) (np - i * 4) (cp - i * 4)) (P.drop (i * 4))) := by
  have := hP.sub (i * 4) np (by omega) (Nat.le_refl _) rfl rfl rfl
  rwa [hn, List.take_length, ← hn] at this
 have HN := Lib.hid (And.intro hn hi)
 clear hn hi hl hbx hP
 have HC := Lib.hid (readWord_any HP.out (by rw [List.length_drop]; have := HN.out; omega))
 rw [wordAt_drop] at HC
 generalize wordAt P i = wd at *
 go_enter Tryz.func70, Tryz.ntmps70
 go_wp2_with fail
 refine Calls.mono HC.out ?_
 rintro z X ⟨rfl, hb⟩
 go_wp2
 go_ret
 exact ⟨rfl, hb⟩
def fitP (r : Nat) (P last : List Nat) (it : It) : Prop := ordC last it.key < 0 ∧ okIt it.key it.val ∧ (it.number % r = 0 → it.shared = 0 ∧ it.place = wordAt P (it.number / r)) ∧ (it.number % r ≠ 0 → it.shared = comL last it.key)
open Classical in
noncomputable def fitB (r : Nat) (P last : List Nat) (it : It) : Bool := decide (fitP r P last it)
theorem wrap_small {q : Nat} (hq : q < 9223372036854775808) : IntKind.i64.wrap ((q : Nat) : Int) = (q : Int) := by
 simp only [IntKind.wrap, IntKind.bits, IntKind.signed]
 simp
 omega
theorem IBox.new (w : World) (n p s : Int) (vk vv : Value) : IBox (w.alloc (.cells #[.int .i64 n, .int .i64 p, .int .i64 s, vk, vv] 116)) w.heap.size n p s vk vv := heap_alloc_new w _
theorem LBox.later {w w' : World} {g : Nat} {r n : Int} {ve vp : Value} (h : LBox w g r n ve vp) (hb : Below w.heap.size w w') : LBox w' g r n ve vp := by
 unfold LBox at *
 rw [hb.block g (Array.getElem?_eq_some_iff.1 h).1]
 exact h
set_option maxRecDepth 100000 in
set_option maxHeartbeats 4000000 in
theorem fits_any {w : World} {g r : Nat} {n : Int} {ve : Value} {b off np cp : Nat} {P K V L : List Nat} (nu pl sh : Nat) {ak av al : Option Addr} {kn kc vn vc nl cl : Nat}
  (hbx : LBox w g (r : Int) n ve (.slice (some ⟨b, off, none⟩) np cp)) (hP : Rd w (.slice (some ⟨b, off, none⟩) np cp) P) (hk : Rd w (.slice ak kn kc) K) (hv : Rd w (.slice av vn vc) V) (hl : Rd w (.slice al nl cl) L)
  (hkl : kn ≤ 131072) (hvl : vn ≤ 131072) (hr : 1 ≤ r ∧ r ≤ 16) (hnu : nu < 4294967296) (hpl : nu / r * 4 + 4 ≤ P.length) (hP17 : P.length ≤ 131072) :
  Calls Tryz.prog 96 #[.pointer (some ⟨g, 0, none⟩), .agg #[.int .i64 (nu : Int), .int .i64 (pl : Int), .int .i64 (sh : Int), .slice ak kn kc, .slice av vn vc], .slice al nl cl] w fun e w' => e = .returned (.bool (fitB r P L ⟨nu, pl, sh, K, V⟩)) ∧ Below w.heap.size w w' := by
 obtain ⟨FB, hFB⟩ : ∃ FB, FB = fitB r P L ⟨nu, pl, sh, K, V⟩ := ⟨_, rfl⟩
 rw [← hFB]
 have A1 := (Below.refl w.heap.size w).alloc (Nat.le_refl _) (.cells #[.int .i64 nu, .int .i64 pl, .int .i64 sh, .slice ak kn kc, .slice av vn vc] 116)
 have ib := IBox.new w nu pl sh (.slice ak kn kc) (.slice av vn vc)
 obtain ⟨X, hX⟩ : ∃ X, X = w.alloc (.cells #[.int .i64 nu, .int .i64 pl, .int .i64 sh, .slice ak kn kc, .slice av vn vc] 116) := ⟨_, rfl⟩
 rw [← hX] at A1 ib
 have HX := Lib.hid hX
 obtain ⟨o, ho⟩ : ∃ o, o = ordC L K := ⟨_, rfl⟩
 have HO := Lib.hid ho
 have HCmp := Lib.hid (bytesCompare_any (hl.later A1) (hk.later A1))
 rw [← ho] at HCmp
 have HEn := Lib.hid (entry_any (nu : Int) (pl : Int) (sh : Int) (hk.later A1) (hv.later A1) hkl hvl)
 have HLb := Lib.hid (hbx.later A1)
 have HP := Lib.hid (hP.later A1)
 have HK := Lib.hid (hk.later A1)
 have HL := Lib.hid (hl.later A1)
 have HA1 := Lib.hid A1
 have HIb := Lib.hid ib
 have HFB := Lib.hid hFB
 have HPl := Lib.hid (And.intro hpl hP17)
 obtain ⟨c0, c1, c2, c3, c4⟩ := ib.cells
 clear A1 hX ho hFB hbx hP hk hv hl hpl hP17 ib
 go_enter Tryz.func96, Tryz.ntmps96
 go_upto_region 1 with fail
 rw [← HX.out]
 clear HX
 go_wp2_with fail
 refine Calls.mono HCmp.out ?_
 rintro z X0 ⟨rfl, rfl⟩
 by_cases ho0 : 0 ≤ o
 ·go_wp2
  go_ret
  refine ⟨?_, HA1.out⟩
  rw [HFB.out]
  have : ¬ fitP r P L ⟨nu, pl, sh, K, V⟩ := fun h => by have := h.1; simp only at this; rw [← HO.out] at this; omega
  simp [fitB, this]
 go_wp2_with fail
 refine Calls.mono HEn.out ?_
 rintro z X1 ⟨e, rfl, hok, hchk, -, b1, -⟩
 have HCk := Lib.hid (check_any hok)
 obtain ⟨cs, hcs⟩ : ∃ cs, cs = checkS e := ⟨_, rfl⟩
 rw [← hcs] at HCk hchk
 have HChk := Lib.hid hchk
 have HB1 := Lib.hid b1
 clear hok hchk b1 hcs
 go_wp2_with fail
 refine Calls.mono HCk.out ?_
 rintro z X2 ⟨rfl, b2⟩
 have HB2 := Lib.hid (HB1.out.trans (b2.mono HB1.out.size))
 clear b2 HB1 HCk
 by_cases hc0 : cs = 0
 rotate_left
 ·have hc1 : ¬ ((cs : Int) = 0) := by omega
  have hc2 : ((cs : Int) != 0) = true := bne_iff_ne.2 hc1
  have hci : (decide (0 ≤ o) || ((cs : Int) != 0)) = true := by rw [hc2, Bool.or_true]
  go_wp2
  go_ret
  refine ⟨?_, HA1.out.trans (HB2.out.mono HA1.out.size)⟩
  rw [HFB.out]
  have : ¬ fitP r P L ⟨nu, pl, sh, K, V⟩ := fun h => hc0 (HChk.out.2 h.2.1)
  simp [fitB, this]
 subst hc0
 have HOk : Hid (okIt K V) := HChk.out.1 rfl
 have HIb2 := Lib.hid (HIb.out.later HB2.out)
 have HLb2 := Lib.hid (HLb.out.later HB2.out)
 have HP2 := Lib.hid (HP.out.later HB2.out)
 have HK2 := Lib.hid (HK.out.later HB2.out)
 have HL2 := Lib.hid (HL.out.later HB2.out)
 have HA2 := Lib.hid (HA1.out.trans (HB2.out.mono HA1.out.size))
 clear HIb HLb HP HK HL HA1 HB2 HChk HEn HCmp c0 c1 c2 c3 c4
 obtain ⟨Z, hZ⟩ : ∃ Z : Bool, Z = decide (nu % r = 0) := ⟨_, rfl⟩
 have HZ := Lib.hid hZ
 clear hZ
 have r1 : (1 : Int) ≤ (r : Int) := by omega
 have nu0 : (0 : Int) ≤ (nu : Int) := by omega
 go_upto_region 3 with fail
 go_cut [25] (fun b wx => b = .bool Z ∧ Hid (Below X2.heap.size X2 wx))
 case first =>
  obtain ⟨c0, c1, c2, c3, c4⟩ := HIb2.out.cells
  obtain ⟨d0, d1, d2, d3⟩ := HLb2.out.cells
  by_cases hz : nu % r = 0
  ·have hz2 : (((nu : Int) % (r : Int)) == 0) = true := by rw [beq_iff_eq]; omega
   have hZt : Z = true := by rw [HZ.out]; simp [hz]
   go_quiet (fail)
   go_wp2_with fail
   go_meet
   exact ⟨by rw [hZt], below_drewN (Below.refl _ _) _⟩
  ·have hz2 : (((nu : Int) % (r : Int)) == 0) = false := by rw [beq_eq_false_iff_ne]; omega
   have hZt : Z = false := by rw [HZ.out]; simp [hz]
   go_quiet (fail)
   go_wp2_with fail
   go_meet
   exact ⟨by rw [hZt], below_drewN (Below.refl _ _) _⟩
 case rest =>
 obtain ⟨rfl, HX3⟩ := hcut
 rename World => X3
 have HIb3 := Lib.hid (HIb2.out.later HX3.out)
 have HLb3 := Lib.hid (HLb2.out.later HX3.out)
 have HP3 := Lib.hid (HP2.out.later HX3.out)
 have HK3 := Lib.hid (HK2.out.later HX3.out)
 have HL3 := Lib.hid (HL2.out.later HX3.out)
 have HA3 := Lib.hid (HA2.out.trans (HX3.out.mono HA2.out.size))
 clear HIb2 HLb2 HP2 HK2 HL2 HA2 HX3
 have BD : Below X3.heap.size X3 X3.drew := (Below.refl _ _).drew
 cases Z with
 | true =>
  have hz : nu % r = 0 := by have := HZ.out; simpa using this.symm
  by_cases hs : sh = 0
  rotate_left
  ·have hsi : ((sh : Int) == 0) = false := by rw [beq_eq_false_iff_ne]; omega
   obtain ⟨c0, c1, c2, c3, c4⟩ := HIb3.out.cells
   obtain ⟨d0, d1, d2, d3⟩ := HLb3.out.cells
   go_wp2_with fail
   go_quiet (fail)
   go_wp2
   go_ret
   refine ⟨?_, below_drewN HA3.out _⟩
   rw [HFB.out]
   have : ¬ fitP r P L ⟨nu, pl, sh, K, V⟩ := fun h => hs (h.2.2.1 hz).1
   simp [fitB, this]
  subst hs
  have HPc := Lib.hid (fun wx (h : Below X3.heap.size X3 wx) => place_any (HLb3.out.later h) (HP3.out.later h) (nu / r) HPl.out.1 HPl.out.2)
  obtain ⟨wd, hwd⟩ : ∃ wd, wd = wordAt P (nu / r) := ⟨_, rfl⟩
  rw [← hwd] at HPc
  obtain ⟨Y, hY⟩ : ∃ Y : Bool, Y = ((pl : Int) == (wd : Int)) := ⟨_, rfl⟩
  have HQ : Hid (IntKind.i64.wrap ((nu : Int) / (r : Int)) = (nu : Int) / (r : Int)) := by
   have h1 : (nu : Int) / (r : Int) = ((nu / r : Nat) : Int) := by simp
   have h2 : nu / r ≤ nu := Nat.div_le_self _ _
   unfold Hid
   rw [h1]
   exact wrap_small (by omega)
  have HY := Lib.hid hY
  have HWd := Lib.hid hwd
  clear hwd hY
  go_upto_region 4 with fail
  refine wp_region_noPanic ?_
  refine wp_region_held_drew (S := fun wx => Below X3.heap.size X3 wx) (by kernel_rfl) BD (fun hHeld => ?_)
  refine wpAnyH_take (i := 0) (oi := { dst := some 26, op := _, type := _, pos := _, after := _, guard := _ }) (v := .pointer (some ⟨w.heap.size, 2, none⟩)) rfl (by kernel_rfl) (by kernel_rfl) (by kernel_rfl) (fun _ _ _ h => h) (Or.inl ⟨by kernel_rfl, fun wy hy => by (go_simp; done)⟩) (by assumption) ?_
  try simp only [Act.put, List.setIfInBounds_toArray, List.set_cons_zero, List.set_cons_succ]
  refine wpAnyH_take (i := 1) (oi := { dst := some 27, op := _, type := _, pos := _, after := _, guard := _ }) (v := .int .i64 0) rfl (by kernel_rfl) (by kernel_rfl) (by kernel_rfl) (fun _ _ _ h => h) (Or.inl ⟨by kernel_rfl, fun wy hy => by (obtain ⟨q0, q1, q2, q3, q4⟩ := (HIb3.out.later hy).cells; go_simp; done)⟩) (by assumption) ?_
  try simp only [Act.put, List.setIfInBounds_toArray, List.set_cons_zero, List.set_cons_succ]
  refine wpAnyH_take (i := 2) (oi := { dst := some 28, op := _, type := _, pos := _, after := _, guard := _ }) (v := .bool true) rfl (by kernel_rfl) (by kernel_rfl) (by kernel_rfl) (fun _ _ _ h => h) (Or.inl ⟨by kernel_rfl, fun wy hy => by (go_simp; done)⟩) (by assumption) ?_
  try simp only [Act.put, List.setIfInBounds_toArray, List.set_cons_zero, List.set_cons_succ]
  refine wpAnyH_take (i := 3) (oi := { dst := some 29, op := _, type := _, pos := _, after := _, guard := _ }) (v := .bool true) rfl (by kernel_rfl) (by kernel_rfl) (by kernel_rfl) (fun _ _ _ h => h) (Or.inl ⟨by kernel_rfl, fun wy hy => by (go_simp; done)⟩) (by assumption) ?_
  try simp only [Act.put, List.setIfInBounds_toArray, List.set_cons_zero, List.set_cons_succ]
  refine wpAnyH_take (i := 4) (oi := { dst := some 30, op := _, type := _, pos := _, after := _, guard := _ }) (v := .pointer (some ⟨w.heap.size, 1, none⟩)) rfl (by kernel_rfl) (by kernel_rfl) (by kernel_rfl) (fun _ _ _ h => h) (Or.inl ⟨by kernel_rfl, fun wy hy => by (go_simp; done)⟩) (by assumption) ?_
  try simp only [Act.put, List.setIfInBounds_toArray, List.set_cons_zero, List.set_cons_succ]
  refine wpAnyH_take (i := 5) (oi := { dst := some 31, op := _, type := _, pos := _, after := _, guard := _ }) (v := .int .i64 (pl : Int)) rfl (by kernel_rfl) (by kernel_rfl) (by kernel_rfl) (fun _ _ _ h => h) (Or.inl ⟨by kernel_rfl, fun wy hy => by (obtain ⟨q0, q1, q2, q3, q4⟩ := (HIb3.out.later hy).cells; go_simp; done)⟩) (by assumption) ?_
  try simp only [Act.put, List.setIfInBounds_toArray, List.set_cons_zero, List.set_cons_succ]
  refine wpAnyH_take (i := 6) (oi := { dst := some 32, op := _, type := _, pos := _, after := _, guard := _ }) (v := .pointer (some ⟨g, 0, none⟩)) rfl (by kernel_rfl) (by kernel_rfl) (by kernel_rfl) (fun _ _ _ h => h) (Or.inl ⟨by kernel_rfl, fun wy hy => by (go_simp; done)⟩) (by assumption) ?_
  try simp only [Act.put, List.setIfInBounds_toArray, List.set_cons_zero, List.set_cons_succ]
  refine wpAnyH_take (i := 7) (oi := { dst := some 33, op := _, type := _, pos := _, after := _, guard := _ }) (v := .pointer (some ⟨w.heap.size, 0, none⟩)) rfl (by kernel_rfl) (by kernel_rfl) (by kernel_rfl) (fun _ _ _ h => h) (Or.inl ⟨by kernel_rfl, fun wy hy => by (go_simp; done)⟩) (by assumption) ?_
  try simp only [Act.put, List.setIfInBounds_toArray, List.set_cons_zero, List.set_cons_succ]
  refine wpAnyH_take (i := 8) (oi := { dst := some 34, op := _, type := _, pos := _, after := _, guard := _ }) (v := .int .i64 (nu : Int)) rfl (by kernel_rfl) (by kernel_rfl) (by kernel_rfl) (fun _ _ _ h => h) (Or.inl ⟨by kernel_rfl, fun wy hy => by (obtain ⟨q0, q1, q2, q3, q4⟩ := (HIb3.out.later hy).cells; go_simp; done)⟩) (by assumption) ?_
  try simp only [Act.put, List.setIfInBounds_toArray, List.set_cons_zero, List.set_cons_succ]
  refine wpAnyH_take (i := 9) (oi := { dst := some 35, op := _, type := _, pos := _, after := _, guard := _ }) (v := .pointer (some ⟨g, 0, none⟩)) rfl (by kernel_rfl) (by kernel_rfl) (by kernel_rfl) (fun _ _ _ h => h) (Or.inl ⟨by kernel_rfl, fun wy hy => by (go_simp; done)⟩) (by assumption) ?_
  try simp only [Act.put, List.setIfInBounds_toArray, List.set_cons_zero, List.set_cons_succ]
  refine wpAnyH_take (i := 10) (oi := { dst := some 36, op := _, type := _, pos := _, after := _, guard := _ }) (v := .pointer (some ⟨g, 0, none⟩)) rfl (by kernel_rfl) (by kernel_rfl) (by kernel_rfl) (fun _ _ _ h => h) (Or.inl ⟨by kernel_rfl, fun wy hy => by (go_simp; done)⟩) (by assumption) ?_
  try simp only [Act.put, List.setIfInBounds_toArray, List.set_cons_zero, List.set_cons_succ]
  refine wpAnyH_take (i := 11) (oi := { dst := some 37, op := _, type := _, pos := _, after := _, guard := _ }) (v := .pointer (some ⟨g, 0, none⟩)) rfl (by kernel_rfl) (by kernel_rfl) (by kernel_rfl) (fun _ _ _ h => h) (Or.inl ⟨by kernel_rfl, fun wy hy => by (go_simp; done)⟩) (by assumption) ?_
  try simp only [Act.put, List.setIfInBounds_toArray, List.set_cons_zero, List.set_cons_succ]
  refine wpAnyH_take (i := 12) (oi := { dst := some 38, op := _, type := _, pos := _, after := _, guard := _ }) (v := .int .i64 (r : Int)) rfl (by kernel_rfl) (by kernel_rfl) (by kernel_rfl) (fun _ _ _ h => h) (Or.inl ⟨by kernel_rfl, fun wy hy => by (obtain ⟨q0, q1, q2, q3⟩ := (HLb3.out.later hy).cells; go_simp; done)⟩) (by assumption) ?_
  try simp only [Act.put, List.setIfInBounds_toArray, List.set_cons_zero, List.set_cons_succ]
  refine wpAnyH_take (i := 13) (oi := { dst := some 39, op := _, type := _, pos := _, after := _, guard := _ }) (v := .int .i64 ((nu / r : Nat) : Int)) rfl (by kernel_rfl) (by kernel_rfl) (by kernel_rfl) (fun _ _ _ h => h) (Or.inl ⟨by kernel_rfl, fun wy hy => by (go_simp; rw [if_neg (by omega), HQ.out])⟩) (by assumption) ?_
  try simp only [Act.put, List.setIfInBounds_toArray, List.set_cons_zero, List.set_cons_succ]
  refine wpAnyH_ready (rs := [14]) (by kernel_rfl) (by simp) ?_
  refine AllReadyH.cons (o := { dst := some 40, op := _, type := _, pos := _, after := _, guard := _ }) rfl (fun KK hK => ?_) AllReadyH.nil
  go_simp
  go_at_call 70
  refine (HPc.out _ BD).mono ?_
  rintro e1 X4 ⟨rfl, hb2⟩
  have hb22 : Below X3.heap.size X3 X4 := BD.trans hb2
  clear hb2 BD HPc
  go_wp2_with fail
  refine hK.out _ _ hb22 (fun hHeld => ?_)
  clear hK
  try simp only [Act.put, List.setIfInBounds_toArray, List.set_cons_zero, List.set_cons_succ]
  refine wpAnyH_take (i := 15) (oi := { dst := some 41, op := _, type := _, pos := _, after := _, guard := _ }) (v := .bool Y) rfl (by kernel_rfl) (by kernel_rfl) (by kernel_rfl) (fun _ _ _ h => h) (Or.inl ⟨by kernel_rfl, fun wy hy => by (go_simp; exact HY.out.symm)⟩) (by assumption) ?_
  try simp only [Act.put, List.setIfInBounds_toArray, List.set_cons_zero, List.set_cons_succ]
  refine wpAnyH_take (i := 16) (oi := { dst := some 42, op := _, type := _, pos := _, after := _, guard := _ }) (v := .bool Y) rfl (by kernel_rfl) (by kernel_rfl) (by kernel_rfl) (fun _ _ _ h => h) (Or.inl ⟨by kernel_rfl, fun wy hy => by (go_simp; done)⟩) (by assumption) ?_
  try simp only [Act.put, List.setIfInBounds_toArray, List.set_cons_zero, List.set_cons_succ]
  refine wpAnyH_take (i := 17) (oi := { dst := some 6, op := _, type := _, pos := _, after := _, guard := _ }) (v := .bool Y) rfl (by kernel_rfl) (by kernel_rfl) (by kernel_rfl) (fun _ _ _ h => h) (Or.inl ⟨by kernel_rfl, fun wy hy => by (go_simp; done)⟩) (by assumption) ?_
  try simp only [Act.put, List.setIfInBounds_toArray, List.set_cons_zero, List.set_cons_succ]
  refine wpAnyH_done (by kernel_rfl) (NoPanic.normal ?_) _
  have HB4 := Lib.hid hb22
  clear hb22 hHeld
  go_simp
  go_step
  have hf : FB = Y := by
   rw [HFB.out, HY.out]
   unfold fitB fitP
   have e1 : ordC L K < 0 := by rw [← HO.out]; omega
   have e2 := HOk.out
   simp only [e1, e2, hz, true_and, ne_eq, not_true_eq_false, false_implies, and_true, true_implies, ← HWd.out]
   rw [Bool.eq_iff_iff]
   simp
   omega
  go_wp2
  go_ret
  exact ⟨by rw [hf]; rfl, HA3.out.trans (HB4.out.mono HA3.out.size)⟩
 | false =>
  have hz : ¬ nu % r = 0 := by have := HZ.out; simpa using this.symm
  have HPc := Lib.hid (fun wx (h : Below X3.heap.size X3 wx) => common_any (HL3.out.later h) (HK3.out.later h))
  obtain ⟨cm, hcm⟩ : ∃ cm, cm = comL L K := ⟨_, rfl⟩
  rw [← hcm] at HPc
  obtain ⟨Y, hY⟩ : ∃ Y : Bool, Y = ((sh : Int) == (cm : Int)) := ⟨_, rfl⟩
  have HY := Lib.hid hY
  have HCm := Lib.hid hcm
  clear hcm hY
  go_upto_region 5 with fail
  refine wp_region_noPanic ?_
  refine wp_region_held_drew (S := fun wx => Below X3.heap.size X3 wx) (by kernel_rfl) BD (fun hHeld => ?_)
  refine wpAnyH_take (i := 0) (oi := { dst := some 43, op := _, type := _, pos := _, after := _, guard := _ }) (v := .pointer (some ⟨w.heap.size, 2, none⟩)) rfl (by kernel_rfl) (by kernel_rfl) (by kernel_rfl) (fun _ _ _ h => h) (Or.inl ⟨by kernel_rfl, fun wy hy => by (go_simp; done)⟩) (by assumption) ?_
  try simp only [Act.put, List.setIfInBounds_toArray, List.set_cons_zero, List.set_cons_succ]
  refine wpAnyH_take (i := 1) (oi := { dst := some 44, op := _, type := _, pos := _, after := _, guard := _ }) (v := .int .i64 (sh : Int)) rfl (by kernel_rfl) (by kernel_rfl) (by kernel_rfl) (fun _ _ _ h => h) (Or.inl ⟨by kernel_rfl, fun wy hy => by (obtain ⟨q0, q1, q2, q3, q4⟩ := (HIb3.out.later hy).cells; go_simp; done)⟩) (by assumption) ?_
  try simp only [Act.put, List.setIfInBounds_toArray, List.set_cons_zero, List.set_cons_succ]
  refine wpAnyH_take (i := 2) (oi := { dst := some 45, op := _, type := _, pos := _, after := _, guard := _ }) (v := .slice al nl cl) rfl (by kernel_rfl) (by kernel_rfl) (by kernel_rfl) (fun _ _ _ h => h) (Or.inl ⟨by kernel_rfl, fun wy hy => by (go_simp; done)⟩) (by assumption) ?_
  try simp only [Act.put, List.setIfInBounds_toArray, List.set_cons_zero, List.set_cons_succ]
  refine wpAnyH_take (i := 3) (oi := { dst := some 46, op := _, type := _, pos := _, after := _, guard := _ }) (v := .pointer (some ⟨w.heap.size, 3, none⟩)) rfl (by kernel_rfl) (by kernel_rfl) (by kernel_rfl) (fun _ _ _ h => h) (Or.inl ⟨by kernel_rfl, fun wy hy => by (go_simp; done)⟩) (by assumption) ?_
  try simp only [Act.put, List.setIfInBounds_toArray, List.set_cons_zero, List.set_cons_succ]
  refine wpAnyH_take (i := 4) (oi := { dst := some 47, op := _, type := _, pos := _, after := _, guard := _ }) (v := .slice ak kn kc) rfl (by kernel_rfl) (by kernel_rfl) (by kernel_rfl) (fun _ _ _ h => h) (Or.inl ⟨by kernel_rfl, fun wy hy => by (obtain ⟨q0, q1, q2, q3, q4⟩ := (HIb3.out.later hy).cells; go_simp; done)⟩) (by assumption) ?_
  try simp only [Act.put, List.setIfInBounds_toArray, List.set_cons_zero, List.set_cons_succ]
  refine wpAnyH_ready (rs := [5]) (by kernel_rfl) (by simp) ?_
  refine AllReadyH.cons (o := { dst := some 48, op := _, type := _, pos := _, after := _, guard := _ }) rfl (fun KK hK => ?_) AllReadyH.nil
  go_simp
  go_at_call 52
  refine (HPc.out _ BD).mono ?_
  rintro e1 X4 ⟨rfl, hb2⟩
  have hb22 : Below X3.heap.size X3 X4 := BD.trans hb2
  clear hb2 BD HPc
  go_wp2_with fail
  refine hK.out _ _ hb22 (fun hHeld => ?_)
  clear hK
  try simp only [Act.put, List.setIfInBounds_toArray, List.set_cons_zero, List.set_cons_succ]
  refine wpAnyH_take (i := 6) (oi := { dst := some 49, op := _, type := _, pos := _, after := _, guard := _ }) (v := .bool Y) rfl (by kernel_rfl) (by kernel_rfl) (by kernel_rfl) (fun _ _ _ h => h) (Or.inl ⟨by kernel_rfl, fun wy hy => by (go_simp; exact HY.out.symm)⟩) (by assumption) ?_
  try simp only [Act.put, List.setIfInBounds_toArray, List.set_cons_zero, List.set_cons_succ]
  refine wpAnyH_take (i := 7) (oi := { dst := some 6, op := _, type := _, pos := _, after := _, guard := _ }) (v := .bool Y) rfl (by kernel_rfl) (by kernel_rfl) (by kernel_rfl) (fun _ _ _ h => h) (Or.inl ⟨by kernel_rfl, fun wy hy => by (go_simp; done)⟩) (by assumption) ?_
  try simp only [Act.put, List.setIfInBounds_toArray, List.set_cons_zero, List.set_cons_succ]
  refine wpAnyH_done (by kernel_rfl) (NoPanic.normal ?_) _
  have HB4 := Lib.hid hb22
  clear hb22 hHeld
  go_simp
  go_step
  have hf : FB = Y := by
   rw [HFB.out, HY.out]
   unfold fitB fitP
   have e1 : ordC L K < 0 := by rw [← HO.out]; omega
   have e2 := HOk.out
   simp only [e1, e2, hz, true_and, ne_eq, not_false_eq_true, false_implies, true_implies, ← HCm.out]
   rw [Bool.eq_iff_iff]
   simp
   omega
  go_wp2
  go_ret
  exact ⟨by rw [hf]; rfl, HA3.out.trans (HB4.out.mono HA3.out.size)⟩
end Go.Proofs.YtchebhafabhabaaGreatDoor
