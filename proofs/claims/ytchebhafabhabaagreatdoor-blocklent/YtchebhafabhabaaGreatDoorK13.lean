import Derived.Test.YtchebhafabhabaaGreatDoorK12
import Derived.WalkMore
namespace Go.Proofs.YtchebhafabhabaaGreatDoor
open Go.RowKit Go.Shelf
set_option linter.unusedVariables false

structure Found (n : Nat) (p : Nat → Bool) (i : Nat) : Prop where
 le : i ≤ n
 lo : ∀ k, k < i → p k = false
 hi : ∀ k, i ≤ k → k < n → p k = true
def SeP (W : World) (n : Nat) (p : Nat → Bool) (e : Ending) (w' : World) : Prop := (∃ i : Nat, e = .returned (.int .i64 (i : Int)) ∧ Found n p i) ∧ Below W.heap.size W w'
set_option maxRecDepth 100000 in
set_option maxHeartbeats 2000000 in
theorem search_any {W : World} {fn n : Nat} {cs : Array Value} {p : Nat → Bool} (hent : ∀ args w, (callFunc fn args).run Tryz.prog w = .ok (.enter fn args) w) (hn : n < 4294967296)
  (hask : ∀ (w : World) (k : Nat), k < n → Below W.heap.size W w → Calls Tryz.prog fn (#[.int .i64 (k : Int)] ++ cs) w fun e w' => e = .returned (.bool (p k)) ∧ Below w.heap.size w w')
  (hmono : ∀ a b, a ≤ b → b < n → p a = true → p b = true) :
  Calls Tryz.prog 100 #[.int .i64 (n : Int), .func (.func fn) #[] cs] W fun e w' => SeP W n p e w' := by
 have HA := Lib.hid hask
 have HM := Lib.hid hmono
 clear hask hmono
 go_enter Tryz.func100, Tryz.ntmps100
 go_wp2
 go_loopw [5, 6, 7] (fun a b _ wr => ∃ i j : Nat, a = .int .i64 (i : Int) ∧ b = .int .i64 (j : Int) ∧ i ≤ j ∧ j ≤ n ∧ Hid ((∀ k, k < i → p k = false) ∧ (∀ k, j ≤ k → k < n → p k = true) ∧ Below W.heap.size W wr)) (fun a b _ _ => (intOf b).toNat - (intOf a).toNat)
 case atStart => exact ⟨0, n, rfl, rfl, Nat.zero_le _, Nat.le_refl _, fun k hk => by omega, fun k h1 h2 => by omega, Below.refl _ _⟩
 case round =>
  obtain ⟨i, j, rfl, rfl, hij, hjn, HI⟩ := hrel
  by_cases hlt : i < j
  ·have hlt2 : (i : Int) < (j : Int) := by omega
   obtain ⟨h, hh⟩ : ∃ h, (i + j) / 2 = h := ⟨_, rfl⟩
   have hhi : ((i : Int) + (j : Int)) / 2 = (h : Int) := by omega
   have hh1 : i ≤ h := by omega
   have hh2 : h < j := by omega
   have hA := HA.out wr h (by omega) HI.out.2.2
   have HAk := Lib.hid hA
   clear hA hh
   go_upto_region 4 with fail
   clear hhi
   go_wp2_with fail
   refine Calls.mono HAk.out ?_
   rintro z X ⟨rfl, bX⟩
   cases hp : p h with
   | false =>
    have HI2 : Hid ((∀ k, k < h + 1 → p k = false) ∧ (∀ k, j ≤ k → k < n → p k = true) ∧ Below W.heap.size W X) := by
     refine ⟨fun k hk => ?_, HI.out.2.1, HI.out.2.2.trans (bX.mono HI.out.2.2.size)⟩
     cases hq : p k with
     | false => rfl
     | true =>
      have := HM.out k h (by omega) (by omega) hq
      rw [hp] at this
      cases this
    clear HAk bX hp HI
    go_wp2
    go_roundw
    case rel => exact ⟨h + 1, j, by go_num, rfl, by omega, hjn, HI2⟩
    case measure => simp only [intOf]; omega
   | true =>
    have HI2 : Hid ((∀ k, k < i → p k = false) ∧ (∀ k, h ≤ k → k < n → p k = true) ∧ Below W.heap.size W X) := ⟨HI.out.1, fun k h1 h2 => HM.out h k h1 h2 hp, HI.out.2.2.trans (bX.mono HI.out.2.2.size)⟩
    clear HAk bX hp HI
    go_wp2
    go_roundw
    case rel => exact ⟨i, h, rfl, rfl, hh1, by omega, HI2⟩
    case measure => simp only [intOf]; omega
  ·have hlt2 : ¬ (i : Int) < (j : Int) := by omega
   have HF : Hid (SeP W n p (.returned (.int .i64 (i : Int))) wr) := ⟨⟨i, rfl, by omega, HI.out.1, fun k h1 h2 => HI.out.2.1 k (by omega) h2⟩, HI.out.2.2⟩
   go_wp2
   go_ret
   exact HF.out
theorem rec_lay {r : Nat} (kv : List Nat × List Nat) (t : List (List Nat × List Nat)) (s : Bs) (E : List Nat) (hE : E = (foldB r s (kv :: t)).es) (hla : s.la.length ≤ s.es.length) (hl : E.length < 18446744073709551616) :
  ∃ a b, recordOf E s.es.length = some (shOf r s kv.1, (a, (kv.1.drop (shOf r s kv.1)).length), (b, kv.2.length)) ∧ (E.drop a).take (kv.1.drop (shOf r s kv.1)).length = kv.1.drop (shOf r s kv.1) ∧ b + kv.2.length = (addB r s kv.1 kv.2).es.length := by
 obtain ⟨c1, c2, c3⟩ := com_la r s kv.1 kv.2 hla
 obtain ⟨m, hm⟩ := foldB_es r t (addB r s kv.1 kv.2)
 have hE2 : E = s.es ++ (recL (shOf r s kv.1) (kv.1.drop (shOf r s kv.1)) kv.2 ++ m) := by rw [hE]; simp only [foldB]; rw [hm]; simp [addB, esOf]
 obtain ⟨a, b, h1, h2, h3, h4, h5, h6⟩ := record_at s.es m (shOf r s kv.1) (kv.1.drop (shOf r s kv.1)) kv.2 (by simp; omega) (by rw [← hE2]; exact hl)
 rw [← hE2] at h1 h2
 exact ⟨a, b, h1, h2, by rw [h4]; simp [addB, esOf]⟩
theorem fold_la (r : Nat) : ∀ (l : List (List Nat × List Nat)) (s : Bs), s.la.length ≤ s.es.length → (foldB r s l).la.length ≤ (foldB r s l).es.length
 | [], s, h => h
 | kv :: t, s, h => by simp only [foldB]; exact fold_la r t _ (com_la r s kv.1 kv.2 h).2.2
theorem rec_from {r : Nat} {l : List (List Nat × List Nat)} {E P : List Nat} (h : Blad r l E P) (q : Nat) (kv : List Nat × List Nat) (hq : l[q * r]? = some kv) :
  wordAt P q = (foldB r Bs.zero (l.take (q * r))).es.length ∧ wordAt P q ≤ E.length ∧ ∃ a b, recordOf E (wordAt P q) = some (0, (a, kv.1.length), (b, kv.2.length)) ∧ (E.drop a).take kv.1.length = kv.1 := by
 have hr := h.r1
 have hlt : q * r < l.length := (List.getElem?_eq_some_iff.1 hq).1
 obtain ⟨s, hs⟩ : ∃ s, foldB r Bs.zero (l.take (q * r)) = s := ⟨_, rfl⟩
 have hsn : s.n = q * r := by rw [← hs, foldB_n]; simp [Bs.zero]; omega
 have hd : l.drop (q * r) = kv :: l.drop (q * r + 1) := by
  rw [List.drop_eq_getElem_cons hlt]
  congr 1
  rw [List.getElem?_eq_getElem hlt] at hq
  exact Option.some.inj hq
 have hE : E = (foldB r s (kv :: l.drop (q * r + 1))).es := by rw [← hd, h.es, ← hs, ← foldB_app, List.take_append_drop]
 have hP : P = (foldB r s (kv :: l.drop (q * r + 1))).ps := by rw [← hd, h.ps, ← hs, ← foldB_app, List.take_append_drop]
 have hps : s.ps.length = (s.n + r - 1) / r * 4 := by rw [← hs]; exact ps_fold hr _ _ (zero_ps hr)
 have h0 : s.n % r = 0 := by rw [hsn]; exact Nat.mul_mod_left _ _
 have hla : s.la.length ≤ s.es.length := by rw [← hs]; exact fold_la r _ _ (Nat.le_refl _)
 obtain ⟨m, hm⟩ := foldB_es r (kv :: l.drop (q * r + 1)) s
 have hel : s.es.length ≤ E.length := by rw [hE, hm]; simp
 have hsz := h.size
 have hw : wordAt P q = s.es.length := by
  rw [hP]
  have := word_lay hr kv (l.drop (q * r + 1)) s hps h0 (by omega)
  rw [hsn, Nat.mul_div_cancel _ (by omega)] at this
  exact this
 have hsh : shOf r s kv.1 = 0 := by unfold shOf; rw [if_pos h0]
 obtain ⟨a, b, h1, h2, h3⟩ := rec_lay kv _ s E hE hla (by omega)
 rw [hsh] at h1 h2
 simp only [List.drop_zero] at h1 h2
 rw [hs, hw]
 exact ⟨rfl, hel, a, b, h1, h2⟩
theorem RecB.later {w w' : World} {g : Nat} {a b c d : Value} (h : RecB w g a b c d) (hb : Below w.heap.size w w') : RecB w' g a b c d := h.fb (O := fun _ => False) (Fb.of_below hb) id
theorem RecB.rd {w : World} {gr b o n c : Nat} {bs : List Nat} (hr : RecB w gr (.int .i64 0) (.slice none 0 0) (.slice none 0 0) (.int .i64 0)) (h : Rd w (.slice (some ⟨b, o, none⟩) n c) bs) (a' b' c' d' : Value) : Rd ((((w.setCell ⟨gr, 0, none⟩ a').setCell ⟨gr, 1, none⟩ b').setCell ⟨gr, 2, none⟩ c').setCell ⟨gr, 3, none⟩ d') (.slice (some ⟨b, o, none⟩) n c) bs := by
 by_cases hb : b = gr
 ·subst hb
  cases bs with
  | nil =>
   obtain ⟨h1, a, cap, h2, h3, h4, h5, h6, h7⟩ := h
   exact ⟨h1, a, cap, h2, h3, h4, h5, h6, .inl rfl⟩
  | cons v t =>
   have hl := (rd_lens h).1
   have hc := (rd_cell h 0 (by rw [hl]; simp)).1
   unfold RecB at hr
   simp only [World.cell?, hr, Nat.add_zero] at hc
   exfalso
   match o, hc with
   | 0, hc => simp at hc
   | 1, hc => simp at hc
   | 2, hc => simp at hc
   | 3, hc => simp at hc
   | o + 4, hc => simp at hc
 ·exact h.fb (Fb.of_grown (O := fun k => k = gr) ((((setg w gr 0 a').trans (setg _ gr 1 b')).trans (setg _ gr 2 c')).trans (setg _ gr 3 d')) (fun i hi => by cases hi; rfl)) hb
def notLow (r : Nat) (l : List (List Nat × List Nat)) (key : List Nat) (q : Nat) : Bool := decide (0 ≤ ordC ((l[q * r]?).getD ([], [])).1 key)
set_option maxRecDepth 100000 in
set_option maxHeartbeats 2000000 in
theorem seek1_any {w : World} {gb gk g r b ne ce np cp : Nat} {E P key : List Nat} {l : List (List Nat × List Nat)} {ak : Option Addr} {kn kc : Nat} (hL : Blad r l E P) (hbx : LBox w g (r : Int) (l.length : Int) (.slice (some ⟨b, 0, none⟩) ne ce) (.slice (some ⟨b, ne, none⟩) np cp)) (hE : Rd w (.slice (some ⟨b, 0, none⟩) ne ce) E) (hP : Rd w (.slice (some ⟨b, ne, none⟩) np cp) P)
  (hgb : Cell1B w gb (.pointer (some ⟨g, 0, none⟩)) 58) (hgk : Cell1B w gk (.slice ak kn kc) 36) (hkey : Rd w (.slice ak kn kc) key) (q : Nat) (hq : q * r < l.length) :
  Calls Tryz.prog 101 (#[.int .i64 (q : Int)] ++ #[.pointer (some ⟨gb, 0, none⟩), .pointer (some ⟨gk, 0, none⟩)]) w fun e w' => e = .returned (.bool (notLow r l key q)) ∧ Below w.heap.size w w' := by
 have hr1 := hL.r1
 have hr16 := hL.r16
 obtain ⟨kv, hkv⟩ : ∃ kv, l[q * r]? = some kv := ⟨_, List.getElem?_eq_getElem hq⟩
 obtain ⟨w0, w1, a, b2, hrec, htk⟩ := rec_from hL q kv hkv
 have hnl : notLow r l key q = decide (0 ≤ ordC kv.1 key) := by unfold notLow; rw [hkv]; rfl
 rw [hnl]
 have hqP : q * 4 + 4 ≤ P.length := by
  rw [hL.psl]
  have h1 : q + 1 ≤ (l.length + r - 1) / r := by
   rw [Nat.le_div_iff_mul_le (by omega), Nat.add_mul]
   omega
  omega
 have hPl : P.length ≤ 131072 := by have := hL.size; omega
 have HPc := Lib.hid (fun (wx : World) (hx : Below w.heap.size w wx) => place_any (hbx.later hx) (hP.later hx) q hqP hPl)
 obtain ⟨pq, hpq⟩ : ∃ pq, wordAt P q = pq := ⟨_, rfl⟩
 rw [hpq] at HPc hrec w1
 have HRr := Lib.hid (fun (wx : World) (hx : Below w.heap.size w wx) => readRecord_any (hE.later hx) pq (by rw [(rd_lens hE).1]; exact w1))
 have HRec := Lib.hid (And.intro hrec htk)
 have HBx := Lib.hid hbx
 have HGb := Lib.hid hgb
 have HGk := Lib.hid hgk
 have HKy := Lib.hid hkey
 have hq32 : q < 4294967296 := by
  have := hL.few
  have := hL.size
  have : q * 1 ≤ q * r := Nat.mul_le_mul_left q hr1
  omega
 obtain ⟨kl, hkl⟩ : ∃ kl, kv.1.length = kl := ⟨_, rfl⟩
 obtain ⟨K, hK1⟩ : ∃ K, kv.1 = K := ⟨_, rfl⟩
 have HNl : Hid (kv.1 = K ∧ kv.1.length = kl) := ⟨hK1, hkl⟩
 rw [hK1]
 clear hL hbx hE hP hgb hgk hkey hq hkv w0 w1 hrec htk hnl hqP hPl hpq hkl hK1
 go_enter Tryz.func101, Tryz.ntmps101
 go_upto_region 1 with fail
 have BD : Below w.heap.size w w.drew := (Below.refl _ _).drew
 refine wp_region_noPanic ?_
 refine wp_region_held_drew (S := fun wx => Below w.heap.size w wx) (by kernel_rfl) BD (fun hHeld => ?_)
 refine wpAnyH_take (i := 0) (oi := { dst := some 8, op := _, type := _, pos := _, after := _, guard := _ }) (v := .pointer (some ⟨g, 0, none⟩)) rfl (by kernel_rfl) (by kernel_rfl) (by kernel_rfl) (fun _ _ _ h => h) (Or.inl ⟨by kernel_rfl, fun wy hy => by (have q0 := (HGb.out.later hy).cell; go_simp; done)⟩) (by assumption) ?_
 try simp only [Act.put, List.setIfInBounds_toArray, List.set_cons_zero, List.set_cons_succ]
 refine wpAnyH_take (i := 1) (oi := { dst := some 9, op := _, type := _, pos := _, after := _, guard := _ }) (v := .pointer (some ⟨g, 0, none⟩)) rfl (by kernel_rfl) (by kernel_rfl) (by kernel_rfl) (fun _ _ _ h => h) (Or.inl ⟨by kernel_rfl, fun wy hy => by (go_simp; first | done | omega)⟩) (by assumption) ?_
 try simp only [Act.put, List.setIfInBounds_toArray, List.set_cons_zero, List.set_cons_succ]
 refine wpAnyH_take (i := 2) (oi := { dst := some 10, op := _, type := _, pos := _, after := _, guard := _ }) (v := .pointer (some ⟨g, 2, none⟩)) rfl (by kernel_rfl) (by kernel_rfl) (by kernel_rfl) (fun _ _ _ h => h) (Or.inl ⟨by kernel_rfl, fun wy hy => by (go_simp; first | done | omega)⟩) (by assumption) ?_
 try simp only [Act.put, List.setIfInBounds_toArray, List.set_cons_zero, List.set_cons_succ]
 refine wpAnyH_take (i := 3) (oi := { dst := some 11, op := _, type := _, pos := _, after := _, guard := _ }) (v := .slice (some ⟨b, 0, none⟩) ne ce) rfl (by kernel_rfl) (by kernel_rfl) (by kernel_rfl) (fun _ _ _ h => h) (Or.inl ⟨by kernel_rfl, fun wy hy => by (obtain ⟨q0, q1, q2, q3⟩ := (HBx.out.later hy).cells; go_simp; done)⟩) (by assumption) ?_
 try simp only [Act.put, List.setIfInBounds_toArray, List.set_cons_zero, List.set_cons_succ]
 refine wpAnyH_take (i := 4) (oi := { dst := some 12, op := _, type := _, pos := _, after := _, guard := _ }) (v := .pointer (some ⟨g, 0, none⟩)) rfl (by kernel_rfl) (by kernel_rfl) (by kernel_rfl) (fun _ _ _ h => h) (Or.inl ⟨by kernel_rfl, fun wy hy => by (have q0 := (HGb.out.later hy).cell; go_simp; done)⟩) (by assumption) ?_
 try simp only [Act.put, List.setIfInBounds_toArray, List.set_cons_zero, List.set_cons_succ]
 refine wpAnyH_take (i := 5) (oi := { dst := some 13, op := _, type := _, pos := _, after := _, guard := _ }) (v := .int .i64 (q : Int)) rfl (by kernel_rfl) (by kernel_rfl) (by kernel_rfl) (fun _ _ _ h => h) (Or.inl ⟨by kernel_rfl, fun wy hy => by (go_simp; first | done | omega)⟩) (by assumption) ?_
 try simp only [Act.put, List.setIfInBounds_toArray, List.set_cons_zero, List.set_cons_succ]
 refine wpAnyH_ready (rs := [6, 11]) (by kernel_rfl) (by simp) ?_
 refine AllReadyH.cons (o := { dst := some 14, op := _, type := _, pos := _, after := _, guard := _ }) rfl (fun KK hK => ?_) (AllReadyH.cons (o := { dst := some 5, op := _, type := _, pos := _, after := _, guard := _ }) rfl (fun KK hK => ?_) AllReadyH.nil)
 ·go_simp
  go_at_call 70
  refine (HPc.out _ BD).mono ?_
  rintro e1 X1 ⟨rfl, hb1⟩
  have bX1 : Below w.heap.size w X1 := BD.trans (hb1.mono BD.size)
  go_wp2_with fail
  refine hK.out _ _ bX1 (fun hHeld => ?_)
  clear hK
  try simp only [Act.put, List.setIfInBounds_toArray, List.set_cons_zero, List.set_cons_succ]
  refine wpAnyH_ready (rs := [7, 11]) (by kernel_rfl) (by simp) ?_
  refine AllReadyH.cons (o := { dst := some 15, op := _, type := _, pos := _, after := _, guard := _ }) rfl (fun KK hK => ?_) (AllReadyH.cons (o := { dst := some 5, op := _, type := _, pos := _, after := _, guard := _ }) rfl (fun KK hK => ?_) AllReadyH.nil)
  ·go_simp
   go_at_call 71
   refine (HRr.out _ bX1).mono ?_
   rintro e1 X2 ⟨hb2, h | h⟩
   ·rw [HRec.out.1] at h
    cases h.1
   obtain ⟨sh, rr, vv, hrc, o1, d1, o2, d2, rfl, rd1, rd2⟩ := h
   have heq := HRec.out.1.symm.trans hrc
   simp only [Option.some.injEq, Prod.mk.injEq] at heq
   obtain ⟨rfl, rfl, rfl⟩ := heq
   have bX2 : Below w.heap.size w X2 := bX1.trans (hb2.mono bX1.size)
   simp only [HRec.out.2] at rd1
   obtain ⟨vl, hvl⟩ : ∃ vl, kv.2.length = vl := ⟨_, rfl⟩
   obtain ⟨en, hen⟩ : ∃ en, b2 + vl = en := ⟨_, rfl⟩
   have hkl := HNl.out.2
   have hK1 := HNl.out.1
   rw [hkl, hK1] at rd1
   simp only [hkl, hvl, hen]
   have HRd := Lib.hid rd1
   clear hrc rd1 rd2 hen hvl hkl hK1 hb2
   go_wp2_with fail
   refine hK.out _ _ bX2 (fun hHeld => ?_)
   clear hK
   try simp only [Act.put, List.setIfInBounds_toArray, List.set_cons_zero, List.set_cons_succ]
   refine wpAnyH_take (i := 8) (oi := { dst := some 7, op := _, type := _, pos := _, after := _, guard := _ }) (v := .tuple #[.agg #[.int .i64 0, .slice (some ⟨b, o1, none⟩) kl d1, .slice (some ⟨b, o2, none⟩) vl d2, .int .i64 (en : Int)], .bool true]) rfl (by kernel_rfl) (by kernel_rfl) (by kernel_rfl) (fun _ _ _ h => h) (Or.inl ⟨by kernel_rfl, fun wy hy => by (go_simp; first | done | omega)⟩) (by assumption) ?_
   try simp only [Act.put, List.setIfInBounds_toArray, List.set_cons_zero, List.set_cons_succ]
   refine wpAnyH_take (i := 9) (oi := { dst := some 16, op := _, type := _, pos := _, after := _, guard := _ }) (v := .agg #[.int .i64 0, .slice (some ⟨b, o1, none⟩) kl d1, .slice (some ⟨b, o2, none⟩) vl d2, .int .i64 (en : Int)]) rfl (by kernel_rfl) (by kernel_rfl) (by kernel_rfl) (fun _ _ _ h => h) (Or.inl ⟨by kernel_rfl, fun wy hy => by (go_simp; first | done | omega)⟩) (by assumption) ?_
   try simp only [Act.put, List.setIfInBounds_toArray, List.set_cons_zero, List.set_cons_succ]
   refine wpAnyH_take (i := 10) (oi := { dst := some 17, op := _, type := _, pos := _, after := _, guard := _ }) (v := .bool true) rfl (by kernel_rfl) (by kernel_rfl) (by kernel_rfl) (fun _ _ _ h => h) (Or.inl ⟨by kernel_rfl, fun wy hy => by (go_simp; first | done | omega)⟩) (by assumption) ?_
   try simp only [Act.put, List.setIfInBounds_toArray, List.set_cons_zero, List.set_cons_succ]
   refine wpAnyH_ready (rs := [11]) (by kernel_rfl) (by simp) ?_
   refine AllReadyH.cons (o := { dst := some 5, op := _, type := _, pos := _, after := _, guard := _ }) rfl (fun KK hK => ?_) AllReadyH.nil
   go_simp
   have bX3 : Below w.heap.size w ((X2.alloc (.cells #[.int .i64 0, .slice none 0 0, .slice none 0 0, .int .i64 0] 109))) := bX2.alloc bX2.size _
   have hRB : RecB ((X2.alloc (.cells #[.int .i64 0, .slice none 0 0, .slice none 0 0, .int .i64 0] 109))) X2.heap.size (.int .i64 0) (.slice none 0 0) (.slice none 0 0) (.int .i64 0) := heap_alloc_new X2 _
   obtain ⟨gr, hgr0⟩ : ∃ gr, X2.heap.size = gr := ⟨_, rfl⟩
   have hgr : w.heap.size ≤ gr := by rw [← hgr0]; exact bX2.size
   rw [hgr0] at hRB ⊢
   clear hgr0
   refine hK.out _ _ bX3 (fun hHeld => ?_)
   clear hK
   have HRd := Lib.hid (HRd.out.later ((Below.refl _ _).alloc (Nat.le_refl _) (.cells #[.int .i64 0, .slice none 0 0, .slice none 0 0, .int .i64 0] 109)))
   generalize ((X2.alloc (.cells #[.int .i64 0, .slice none 0 0, .slice none 0 0, .int .i64 0] 109))) = X3 at *
   try simp only [Act.put, List.setIfInBounds_toArray, List.set_cons_zero, List.set_cons_succ]
   have hf := hRB.fill (.int .i64 0) (.slice (some ⟨b, o1, none⟩) kl d1) (.slice (some ⟨b, o2, none⟩) vl d2) (.int .i64 (en : Int))
   have hbf := fill_below bX3 hgr (.int .i64 0) (.slice (some ⟨b, o1, none⟩) kl d1) (.slice (some ⟨b, o2, none⟩) vl d2) (.int .i64 (en : Int))
   have hKf := hRB.rd HRd.out (.int .i64 0) (.slice (some ⟨b, o1, none⟩) kl d1) (.slice (some ⟨b, o2, none⟩) vl d2) (.int .i64 (en : Int))
   have z0 := hRB.fz 0
   have z1 := hRB.fz 1
   have z2 := hRB.fz 2
   have z3 := hRB.fz 3
   obtain ⟨y0, y1, y2, y3⟩ := hRB.cells
   refine wpAnyH_ready (rs := [12]) (by kernel_rfl) (by simp) ?_
   refine AllReadyH.cons (o := { dst := none, op := _, type := _, pos := _, after := _, guard := _ }) rfl (fun KK hK => ?_) AllReadyH.nil
   go_simp
   refine hK.out _ _ hbf (fun hHeld => ?_)
   clear hK z0 z1 z2 z3 y0 y1 y2 y3
   generalize ((((X3.setCell ⟨gr, 0, none⟩ (.int .i64 0)).setCell ⟨gr, 1, none⟩ (.slice (some ⟨b, o1, none⟩) kl d1)).setCell ⟨gr, 2, none⟩ (.slice (some ⟨b, o2, none⟩) vl d2)).setCell ⟨gr, 3, none⟩ (.int .i64 (en : Int))) = Z at *
   try simp only [Act.put, List.setIfInBounds_toArray, List.set_cons_zero, List.set_cons_succ]
   refine wpAnyH_take (i := 13) (oi := { dst := some 6, op := _, type := _, pos := _, after := _, guard := _ }) (v := .bool true) rfl (by kernel_rfl) (by kernel_rfl) (by kernel_rfl) (fun _ _ _ h => h) (Or.inl ⟨by kernel_rfl, fun wy hy => by (go_simp; first | done | omega)⟩) (by assumption) ?_
   try simp only [Act.put, List.setIfInBounds_toArray, List.set_cons_zero, List.set_cons_succ]
   refine wpAnyH_done (by kernel_rfl) (NoPanic.normal ?_) _
   have HBZ := Lib.hid hbf
   have k0 := (HGk.out.later hbf).cell
   have HCm := Lib.hid (bytesCompare_any hKf (HKy.out.later hbf))
   obtain ⟨x0, x1, x2, x3⟩ := hf.cells
   clear hHeld hbf hf hKf hRB
   go_simp
   go_step
   go_wp2_with fail
   refine Calls.mono HCm.out ?_
   rintro z X9 ⟨rfl, rfl⟩
   obtain ⟨cv, hcv⟩ : ∃ cv, ordC K key = cv := ⟨_, rfl⟩
   rw [hcv]
   clear HCm
   go_wp2
   go_ret
   exact ⟨by rw [hcv]; rfl, HBZ.out⟩
  ·go_simp
   have bX2 : Below w.heap.size w ((X1.alloc (.cells #[.int .i64 0, .slice none 0 0, .slice none 0 0, .int .i64 0] 109))) := bX1.alloc bX1.size _
   have hRB : RecB ((X1.alloc (.cells #[.int .i64 0, .slice none 0 0, .slice none 0 0, .int .i64 0] 109))) X1.heap.size (.int .i64 0) (.slice none 0 0) (.slice none 0 0) (.int .i64 0) := heap_alloc_new X1 _
   obtain ⟨gr, hgr0⟩ : ∃ gr, X1.heap.size = gr := ⟨_, rfl⟩
   have hgr : w.heap.size ≤ gr := by rw [← hgr0]; exact bX1.size
   rw [hgr0] at hRB ⊢
   clear hgr0
   refine hK.out _ _ bX2 (fun hHeld => ?_)
   clear hK
   generalize ((X1.alloc (.cells #[.int .i64 0, .slice none 0 0, .slice none 0 0, .int .i64 0] 109))) = X2 at *
   try simp only [Act.put, List.setIfInBounds_toArray, List.set_cons_zero, List.set_cons_succ]
   refine wpAnyH_ready (rs := [7]) (by kernel_rfl) (by simp) ?_
   refine AllReadyH.cons (o := { dst := some 15, op := _, type := _, pos := _, after := _, guard := _ }) rfl (fun KK hK => ?_) AllReadyH.nil
   go_simp
   go_at_call 71
   refine (HRr.out _ bX2).mono ?_
   rintro e1 X3 ⟨hb2, h | h⟩
   ·rw [HRec.out.1] at h
    cases h.1
   obtain ⟨sh, rr, vv, hrc, o1, d1, o2, d2, rfl, rd1, rd2⟩ := h
   have heq := HRec.out.1.symm.trans hrc
   simp only [Option.some.injEq, Prod.mk.injEq] at heq
   obtain ⟨rfl, rfl, rfl⟩ := heq
   have bX3 : Below w.heap.size w X3 := bX2.trans (hb2.mono bX2.size)
   simp only [HRec.out.2] at rd1
   obtain ⟨vl, hvl⟩ : ∃ vl, kv.2.length = vl := ⟨_, rfl⟩
   obtain ⟨en, hen⟩ : ∃ en, b2 + vl = en := ⟨_, rfl⟩
   have hkl := HNl.out.2
   have hK1 := HNl.out.1
   rw [hkl, hK1] at rd1
   simp only [hkl, hvl, hen]
   have HRd := Lib.hid rd1
   have hRB := hRB.later hb2
   clear hrc rd1 rd2 hen hvl hkl hK1 hb2
   go_wp2_with fail
   refine hK.out _ _ bX3 (fun hHeld => ?_)
   clear hK
   try simp only [Act.put, List.setIfInBounds_toArray, List.set_cons_zero, List.set_cons_succ]
   refine wpAnyH_take (i := 8) (oi := { dst := some 7, op := _, type := _, pos := _, after := _, guard := _ }) (v := .tuple #[.agg #[.int .i64 0, .slice (some ⟨b, o1, none⟩) kl d1, .slice (some ⟨b, o2, none⟩) vl d2, .int .i64 (en : Int)], .bool true]) rfl (by kernel_rfl) (by kernel_rfl) (by kernel_rfl) (fun _ _ _ h => h) (Or.inl ⟨by kernel_rfl, fun wy hy => by (go_simp; first | done | omega)⟩) (by assumption) ?_
   try simp only [Act.put, List.setIfInBounds_toArray, List.set_cons_zero, List.set_cons_succ]
   refine wpAnyH_take (i := 9) (oi := { dst := some 16, op := _, type := _, pos := _, after := _, guard := _ }) (v := .agg #[.int .i64 0, .slice (some ⟨b, o1, none⟩) kl d1, .slice (some ⟨b, o2, none⟩) vl d2, .int .i64 (en : Int)]) rfl (by kernel_rfl) (by kernel_rfl) (by kernel_rfl) (fun _ _ _ h => h) (Or.inl ⟨by kernel_rfl, fun wy hy => by (go_simp; first | done | omega)⟩) (by assumption) ?_
   try simp only [Act.put, List.setIfInBounds_toArray, List.set_cons_zero, List.set_cons_succ]
   refine wpAnyH_take (i := 10) (oi := { dst := some 17, op := _, type := _, pos := _, after := _, guard := _ }) (v := .bool true) rfl (by kernel_rfl) (by kernel_rfl) (by kernel_rfl) (fun _ _ _ h => h) (Or.inl ⟨by kernel_rfl, fun wy hy => by (go_simp; first | done | omega)⟩) (by assumption) ?_
   try simp only [Act.put, List.setIfInBounds_toArray, List.set_cons_zero, List.set_cons_succ]
   have hf := hRB.fill (.int .i64 0) (.slice (some ⟨b, o1, none⟩) kl d1) (.slice (some ⟨b, o2, none⟩) vl d2) (.int .i64 (en : Int))
   have hbf := fill_below bX3 hgr (.int .i64 0) (.slice (some ⟨b, o1, none⟩) kl d1) (.slice (some ⟨b, o2, none⟩) vl d2) (.int .i64 (en : Int))
   have hKf := hRB.rd HRd.out (.int .i64 0) (.slice (some ⟨b, o1, none⟩) kl d1) (.slice (some ⟨b, o2, none⟩) vl d2) (.int .i64 (en : Int))
   have z0 := hRB.fz 0
   have z1 := hRB.fz 1
   have z2 := hRB.fz 2
   have z3 := hRB.fz 3
   obtain ⟨y0, y1, y2, y3⟩ := hRB.cells
   refine wpAnyH_ready (rs := [12]) (by kernel_rfl) (by simp) ?_
   refine AllReadyH.cons (o := { dst := none, op := _, type := _, pos := _, after := _, guard := _ }) rfl (fun KK hK => ?_) AllReadyH.nil
   go_simp
   refine hK.out _ _ hbf (fun hHeld => ?_)
   clear hK z0 z1 z2 z3 y0 y1 y2 y3
   generalize ((((X3.setCell ⟨gr, 0, none⟩ (.int .i64 0)).setCell ⟨gr, 1, none⟩ (.slice (some ⟨b, o1, none⟩) kl d1)).setCell ⟨gr, 2, none⟩ (.slice (some ⟨b, o2, none⟩) vl d2)).setCell ⟨gr, 3, none⟩ (.int .i64 (en : Int))) = Z at *
   try simp only [Act.put, List.setIfInBounds_toArray, List.set_cons_zero, List.set_cons_succ]
   refine wpAnyH_take (i := 13) (oi := { dst := some 6, op := _, type := _, pos := _, after := _, guard := _ }) (v := .bool true) rfl (by kernel_rfl) (by kernel_rfl) (by kernel_rfl) (fun _ _ _ h => h) (Or.inl ⟨by kernel_rfl, fun wy hy => by (go_simp; first | done | omega)⟩) (by assumption) ?_
   try simp only [Act.put, List.setIfInBounds_toArray, List.set_cons_zero, List.set_cons_succ]
   refine wpAnyH_done (by kernel_rfl) (NoPanic.normal ?_) _
   have HBZ := Lib.hid hbf
   have k0 := (HGk.out.later hbf).cell
   have HCm := Lib.hid (bytesCompare_any hKf (HKy.out.later hbf))
   obtain ⟨x0, x1, x2, x3⟩ := hf.cells
   clear hHeld hbf hf hKf hRB
   go_simp
   go_step
   go_wp2_with fail
   refine Calls.mono HCm.out ?_
   rintro z X9 ⟨rfl, rfl⟩
   obtain ⟨cv, hcv⟩ : ∃ cv, ordC K key = cv := ⟨_, rfl⟩
   rw [hcv]
   clear HCm
   go_wp2
   go_ret
   exact ⟨by rw [hcv]; rfl, HBZ.out⟩
 ·go_simp
  have bX0 : Below w.heap.size w ((w.alloc (.cells #[.int .i64 0, .slice none 0 0, .slice none 0 0, .int .i64 0] 109)).drew) := ((Below.refl _ _).alloc (Nat.le_refl _) _).drew
  have hRB : RecB ((w.alloc (.cells #[.int .i64 0, .slice none 0 0, .slice none 0 0, .int .i64 0] 109)).drew) w.heap.size (.int .i64 0) (.slice none 0 0) (.slice none 0 0) (.int .i64 0) := heap_alloc_new w _
  obtain ⟨gr, hgr0⟩ : ∃ gr, w.heap.size = gr := ⟨_, rfl⟩
  have hgr : w.heap.size ≤ gr := by rw [← hgr0]; exact Nat.le_refl _
  rw [hgr0] at hRB ⊢
  clear hgr0
  refine hK.out _ _ bX0 (fun hHeld => ?_)
  clear hK
  generalize ((w.alloc (.cells #[.int .i64 0, .slice none 0 0, .slice none 0 0, .int .i64 0] 109)).drew) = X0 at *
  try simp only [Act.put, List.setIfInBounds_toArray, List.set_cons_zero, List.set_cons_succ]
  refine wpAnyH_ready (rs := [6]) (by kernel_rfl) (by simp) ?_
  refine AllReadyH.cons (o := { dst := some 14, op := _, type := _, pos := _, after := _, guard := _ }) rfl (fun KK hK => ?_) AllReadyH.nil
  go_simp
  go_at_call 70
  refine (HPc.out _ bX0).mono ?_
  rintro e1 X1 ⟨rfl, hb1⟩
  have bX1 : Below w.heap.size w X1 := bX0.trans (hb1.mono bX0.size)
  have hRB := hRB.later hb1
  go_wp2_with fail
  refine hK.out _ _ bX1 (fun hHeld => ?_)
  clear hK
  try simp only [Act.put, List.setIfInBounds_toArray, List.set_cons_zero, List.set_cons_succ]
  refine wpAnyH_ready (rs := [7]) (by kernel_rfl) (by simp) ?_
  refine AllReadyH.cons (o := { dst := some 15, op := _, type := _, pos := _, after := _, guard := _ }) rfl (fun KK hK => ?_) AllReadyH.nil
  go_simp
  go_at_call 71
  refine (HRr.out _ bX1).mono ?_
  rintro e1 X3 ⟨hb2, h | h⟩
  ·rw [HRec.out.1] at h
   cases h.1
  obtain ⟨sh, rr, vv, hrc, o1, d1, o2, d2, rfl, rd1, rd2⟩ := h
  have heq := HRec.out.1.symm.trans hrc
  simp only [Option.some.injEq, Prod.mk.injEq] at heq
  obtain ⟨rfl, rfl, rfl⟩ := heq
  have bX3 : Below w.heap.size w X3 := bX1.trans (hb2.mono bX1.size)
  simp only [HRec.out.2] at rd1
  obtain ⟨vl, hvl⟩ : ∃ vl, kv.2.length = vl := ⟨_, rfl⟩
  obtain ⟨en, hen⟩ : ∃ en, b2 + vl = en := ⟨_, rfl⟩
  have hkl := HNl.out.2
  have hK1 := HNl.out.1
  rw [hkl, hK1] at rd1
  simp only [hkl, hvl, hen]
  have HRd := Lib.hid rd1
  have hRB := hRB.later hb2
  clear hrc rd1 rd2 hen hvl hkl hK1 hb2
  go_wp2_with fail
  refine hK.out _ _ bX3 (fun hHeld => ?_)
  clear hK
  try simp only [Act.put, List.setIfInBounds_toArray, List.set_cons_zero, List.set_cons_succ]
  refine wpAnyH_take (i := 8) (oi := { dst := some 7, op := _, type := _, pos := _, after := _, guard := _ }) (v := .tuple #[.agg #[.int .i64 0, .slice (some ⟨b, o1, none⟩) kl d1, .slice (some ⟨b, o2, none⟩) vl d2, .int .i64 (en : Int)], .bool true]) rfl (by kernel_rfl) (by kernel_rfl) (by kernel_rfl) (fun _ _ _ h => h) (Or.inl ⟨by kernel_rfl, fun wy hy => by (go_simp; first | done | omega)⟩) (by assumption) ?_
  try simp only [Act.put, List.setIfInBounds_toArray, List.set_cons_zero, List.set_cons_succ]
  refine wpAnyH_take (i := 9) (oi := { dst := some 16, op := _, type := _, pos := _, after := _, guard := _ }) (v := .agg #[.int .i64 0, .slice (some ⟨b, o1, none⟩) kl d1, .slice (some ⟨b, o2, none⟩) vl d2, .int .i64 (en : Int)]) rfl (by kernel_rfl) (by kernel_rfl) (by kernel_rfl) (fun _ _ _ h => h) (Or.inl ⟨by kernel_rfl, fun wy hy => by (go_simp; first | done | omega)⟩) (by assumption) ?_
  try simp only [Act.put, List.setIfInBounds_toArray, List.set_cons_zero, List.set_cons_succ]
  refine wpAnyH_take (i := 10) (oi := { dst := some 17, op := _, type := _, pos := _, after := _, guard := _ }) (v := .bool true) rfl (by kernel_rfl) (by kernel_rfl) (by kernel_rfl) (fun _ _ _ h => h) (Or.inl ⟨by kernel_rfl, fun wy hy => by (go_simp; first | done | omega)⟩) (by assumption) ?_
  try simp only [Act.put, List.setIfInBounds_toArray, List.set_cons_zero, List.set_cons_succ]
  have hf := hRB.fill (.int .i64 0) (.slice (some ⟨b, o1, none⟩) kl d1) (.slice (some ⟨b, o2, none⟩) vl d2) (.int .i64 (en : Int))
  have hbf := fill_below bX3 hgr (.int .i64 0) (.slice (some ⟨b, o1, none⟩) kl d1) (.slice (some ⟨b, o2, none⟩) vl d2) (.int .i64 (en : Int))
  have hKf := hRB.rd HRd.out (.int .i64 0) (.slice (some ⟨b, o1, none⟩) kl d1) (.slice (some ⟨b, o2, none⟩) vl d2) (.int .i64 (en : Int))
  have z0 := hRB.fz 0
  have z1 := hRB.fz 1
  have z2 := hRB.fz 2
  have z3 := hRB.fz 3
  obtain ⟨y0, y1, y2, y3⟩ := hRB.cells
  refine wpAnyH_ready (rs := [12]) (by kernel_rfl) (by simp) ?_
  refine AllReadyH.cons (o := { dst := none, op := _, type := _, pos := _, after := _, guard := _ }) rfl (fun KK hK => ?_) AllReadyH.nil
  go_simp
  refine hK.out _ _ hbf (fun hHeld => ?_)
  clear hK z0 z1 z2 z3 y0 y1 y2 y3
  generalize ((((X3.setCell ⟨gr, 0, none⟩ (.int .i64 0)).setCell ⟨gr, 1, none⟩ (.slice (some ⟨b, o1, none⟩) kl d1)).setCell ⟨gr, 2, none⟩ (.slice (some ⟨b, o2, none⟩) vl d2)).setCell ⟨gr, 3, none⟩ (.int .i64 (en : Int))) = Z at *
  try simp only [Act.put, List.setIfInBounds_toArray, List.set_cons_zero, List.set_cons_succ]
  refine wpAnyH_take (i := 13) (oi := { dst := some 6, op := _, type := _, pos := _, after := _, guard := _ }) (v := .bool true) rfl (by kernel_rfl) (by kernel_rfl) (by kernel_rfl) (fun _ _ _ h => h) (Or.inl ⟨by kernel_rfl, fun wy hy => by (go_simp; first | done | omega)⟩) (by assumption) ?_
  try simp only [Act.put, List.setIfInBounds_toArray, List.set_cons_zero, List.set_cons_succ]
  refine wpAnyH_done (by kernel_rfl) (NoPanic.normal ?_) _
  have HBZ := Lib.hid hbf
  have k0 := (HGk.out.later hbf).cell
  have HCm := Lib.hid (bytesCompare_any hKf (HKy.out.later hbf))
  obtain ⟨x0, x1, x2, x3⟩ := hf.cells
  clear hHeld hbf hf hKf hRB
  go_simp
  go_step
  go_wp2_with fail
  refine Calls.mono HCm.out ?_
  rintro z X9 ⟨rfl, rfl⟩
  obtain ⟨cv, hcv⟩ : ∃ cv, ordC K key = cv := ⟨_, rfl⟩
  rw [hcv]
  clear HCm
  go_wp2
  go_ret
  exact ⟨by rw [hcv]; rfl, HBZ.out⟩
theorem seek1_enters : ∀ args w, (callFunc 101 args).run Tryz.prog w = .ok (.enter 101 args) w := enters_of Tryz.func101 (by kernel_rfl) rfl
theorem up_mono : ∀ (l : List (List Nat × List Nat)) (la : List Nat) (i : Nat) (x : List Nat × List Nat), Up la l → l[i]? = some x → ordC la x.1 < 0
 | [], la, i, x, _, h => by simp at h
 | kv :: t, la, 0, x, hu, h => by simp at h; rw [← h]; exact hu.1
 | kv :: t, la, i + 1, x, hu, h => by
  have h1 := up_mono t kv.1 i x hu.2 (by simpa using h)
  have h2 := hu.1
  have := tri_ordC la kv.1 x.1
  unfold Tri at this
  have := ordC_small la kv.1
  have := ordC_small kv.1 x.1
  have := ordC_small la x.1
  omega
theorem up_lt : ∀ (l : List (List Nat × List Nat)) (la : List Nat) (i j : Nat) (x y : List Nat × List Nat), Up la l → i < j → l[i]? = some x → l[j]? = some y → ordC x.1 y.1 < 0
 | [], la, i, j, x, y, _, _, h, _ => by simp at h
 | kv :: t, la, 0, 0, x, y, _, hij, _, _ => by omega
 | kv :: t, la, 0, j + 1, x, y, hu, hij, h, k => by
  simp at h
  rw [← h]
  exact up_mono t kv.1 j y hu.2 (by simpa using k)
 | kv :: t, la, i + 1, 0, x, y, _, hij, _, _ => by omega
 | kv :: t, la, i + 1, j + 1, x, y, hu, hij, h, k => up_lt t kv.1 i j x y hu.2 (by omega) (by simpa using h) (by simpa using k)
theorem notLow_mono {r : Nat} {l : List (List Nat × List Nat)} (hr : 1 ≤ r) (hu : Up [] l) (key : List Nat) (a b : Nat) (hab : a ≤ b) (hb : b * r < l.length) (h : notLow r l key a = true) : notLow r l key b = true := by
 unfold notLow at *
 rw [decide_eq_true_iff] at *
 by_cases e : a = b
 ·rw [← e]; exact h
 have hlt : a * r < b * r := Nat.mul_lt_mul_of_pos_right (by omega) (by omega)
 rw [List.getElem?_eq_getElem (show a * r < l.length by omega)] at h
 rw [List.getElem?_eq_getElem hb]
 simp only [Option.getD_some] at *
 have h1 := up_lt l [] (a * r) (b * r) _ _ hu hlt (List.getElem?_eq_getElem (by omega)) (List.getElem?_eq_getElem hb)
 have := tri_ordC (l[a * r]'(by omega)).1 (l[b * r]'hb).1 key
 unfold Tri at this
 have := ordC_small (l[a * r]'(by omega)).1 (l[b * r]'hb).1
 have := ordC_small (l[b * r]'hb).1 key
 have := ordC_small (l[a * r]'(by omega)).1 key
 omega
set_option maxRecDepth 100000 in
set_option maxHeartbeats 2000000 in
theorem seekRestart_any {W : World} {g r b ne ce np cp B : Nat} {E P key : List Nat} {l : List (List Nat × List Nat)} {ak : Option Addr} {kn kc : Nat} (hL : Blad r l E P) (hk : Lk W B g r l.length b ne ce E P np cp) (hkey : Rd W (.slice ak kn kc) key) :
  Calls Tryz.prog 69 #[.pointer (some ⟨g, 0, none⟩), .slice ak kn kc] W fun e w' => SeP W ((l.length + r - 1) / r) (notLow r l key) e w' := by
 have hr1 := hL.r1
 obtain ⟨n, hn⟩ : ∃ n, (l.length + r - 1) / r = n := ⟨_, rfl⟩
 have hnp : np = 4 * n := by rw [(rd_lens hk.pls).1, hL.psl, hn]; omega
 have hnl : ∀ k, k < n → k * r < l.length := fun k hk => by
  have h1 : k + 1 ≤ (l.length + r - 1) / r := by omega
  rw [Nat.le_div_iff_mul_le (by omega), Nat.add_mul] at h1
  omega
 have hn32 : n < 4294967296 := by
  have := hL.size
  have := hL.psl
  rw [hn] at this
  omega
 have A1 := (Below.refl W.heap.size W).alloc (Nat.le_refl _) (.cells #[.pointer (some ⟨g, 0, none⟩)] 58)
 have A2 := A1.alloc A1.size (.cells #[.slice ak kn kc] 36)
 have B1 : Cell1B (W.alloc (.cells #[.pointer (some ⟨g, 0, none⟩)] 58)) W.heap.size (.pointer (some ⟨g, 0, none⟩)) 58 := heap_alloc_new W _
 have B2 := B1.later ((Below.refl _ _).alloc (Nat.le_refl _) (.cells #[.slice ak kn kc] 36))
 have B3 : Cell1B ((W.alloc (.cells #[.pointer (some ⟨g, 0, none⟩)] 58)).alloc (.cells #[.slice ak kn kc] 36)) (W.heap.size + 1) (.slice ak kn kc) 36 := by
  have := heap_alloc_new (W.alloc (.cells #[.pointer (some ⟨g, 0, none⟩)] 58)) (.cells #[.slice ak kn kc] 36)
  simpa [Cell1B] using this
 obtain ⟨X, hX⟩ : ∃ X, X = (W.alloc (.cells #[.pointer (some ⟨g, 0, none⟩)] 58)).alloc (.cells #[.slice ak kn kc] 36) := ⟨_, rfl⟩
 rw [← hX] at A2 B2 B3
 have HS := Lib.hid (search_any (W := X) (n := n) (cs := #[.pointer (some ⟨W.heap.size, 0, none⟩), .pointer (some ⟨W.heap.size + 1, 0, none⟩)]) (p := notLow r l key) seek1_enters hn32 (fun w k hkn hw => seek1_any hL ((hk.box.later A2).later hw) ((hk.ents.later A2).later hw) ((hk.pls.later A2).later hw) (B2.later hw) (B3.later hw) ((hkey.later A2).later hw) k (hnl k hkn)) (fun a b' h1 h2 h3 => notLow_mono hr1 hL.up key a b' h1 (hnl b' h2) h3))
 obtain ⟨q0, q1, q2, q3⟩ := (hk.box.later A2).cells
 have d0 := B2.cell
 have HX := Lib.hid hX
 have HA2 := Lib.hid A2
 have hnpi : (np : Int) / 4 = (n : Int) := by omega
 rw [hn]
 clear A1 A2 B1 B2 B3 hX hnp hnl hn hk hL hkey
 go_enter Tryz.func69, Tryz.ntmps69
 go_upto_region 1 with fail
 rw [← HX.out]
 clear HX
 go_wp2_with fail
 refine Calls.mono HS.out ?_
 rintro z Y ⟨⟨i, rfl, hf⟩, bY⟩
 have HE : Hid (SeP W n (notLow r l key) (.returned (.int .i64 (i : Int))) Y) := ⟨⟨i, rfl, hf⟩, HA2.out.trans (bY.mono HA2.out.size)⟩
 clear HS hf bY
 go_wp2
 go_ret
 exact HE.out
end Go.Proofs.YtchebhafabhabaaGreatDoor

namespace Go.Proofs.YtchebhafabhabaaGreatDoor
open Go.RowKit Go.Shelf
set_option linter.unusedVariables false

set_option maxRecDepth 100000 in
set_option maxHeartbeats 2000000 in
theorem seek_first {W : World} {g r b ne ce np cp B : Nat} {E P key : List Nat} {l : List (List Nat × List Nat)} {ak : Option Addr} {kn kc : Nat} (hL : Blad r l E P) (hk : Lk W B g r l.length b ne ce E P np cp) (hkey : Rd W (.slice ak kn kc) key) (h0 : notLow r l key 0 = true) :
  Calls Tryz.prog 30 #[.pointer (some ⟨g, 0, none⟩), .slice ak kn kc] W fun e w' => e = .returned (.int .i64 0) ∧ Below W.heap.size W w' := by
 have HS := Lib.hid (seekRestart_any hL hk hkey)
 have H0 := Lib.hid h0
 clear hL hk hkey h0
 go_enter Tryz.func30, Tryz.ntmps30
 go_wp2
 go_step3
 go_wp2_with fail
 refine Calls.mono HS.out ?_
 rintro z Y ⟨⟨i, rfl, hf⟩, bY⟩
 have hi : i = 0 := by
  cases i with
  | zero => rfl
  | succ i => have := hf.lo 0 (by omega); rw [H0.out] at this; cases this
 subst hi
 have HB := Lib.hid bY
 clear HS hf bY
 go_wp2
 try rw [Exit.noGoto_ret]
 go_ret
 exact ⟨rfl, HB.out⟩
end Go.Proofs.YtchebhafabhabaaGreatDoor

namespace Go.Proofs.YtchebhafabhabaaGreatDoor
open Go.RowKit
set_option linter.unusedVariables false

theorem T_pair_odd (q d : Nat) (h : ¬ q % 2 = d % 2) : (q / 2 ^^^ 2197175160) ^^^ (d / 2) = T (q ^^^ d) := by
 unfold T
 rw [xor_div2, xor_mod2]
 have hq : q % 2 = 0 ∨ q % 2 = 1 := by omega
 have hd : d % 2 = 0 ∨ d % 2 = 1 := by omega
 have e : (q % 2 ^^^ d % 2) = 1 := by
  rcases hq with hq | hq <;> rcases hd with hd | hd <;> simp [hq, hd] <;> omega
 rw [if_pos e, Nat.xor_assoc, Nat.xor_comm 2197175160, ← Nat.xor_assoc]
theorem T_pair_even (q d : Nat) (h : q % 2 = d % 2) : (q / 2) ^^^ (d / 2) = T (q ^^^ d) := by
 unfold T
 rw [xor_div2, xor_mod2, h, Nat.xor_self, if_neg (by omega), Nat.xor_zero]
theorem xor32h (q : Nat) (h : q < 4294967296) : bits .xor .u32 ((q : Int) / 2) 2197175160 = (((q / 2) ^^^ 2197175160 : Nat) : Int) := by
 have := xor32 (q / 2) 2197175160 (by omega) (by omega)
 rw [← this]
 congr 1
theorem Tn_last (t s : Nat) : T (Tn t s) = Tn (t + 1) s := by
 rw [Nat.add_comm, Tn_add]; rfl

set_option maxRecDepth 100000 in
set_option maxHeartbeats 2000000 in
theorem refSum_any {v : Value} {ps : List (List Nat)} {w : World} (hp : RdP w v ps) :
  Calls Tryz.prog 79 #[v] w fun e w' => e = .returned (.int .u32 ((sumL ps.flatten : Nat) : Int)) ∧ w' = w := by
 obtain ⟨hn, a, cap, rfl, hp⟩ := hp
 go_enter Tryz.func79, Tryz.ntmps79
 go_wp2
 go_loop [3, 4] (fun x i => ∃ k r : Nat, k ≤ ps.length ∧ i = .int .i64 (k : Int) ∧ x = .int .u32 (r : Int) ∧ r < 4294967296 ∧ r = crcL 4294967295 (ps.take k).flatten) (fun _ i => ps.length - (intOf i).toNat)
 case atStart => exact ⟨0, 4294967295, Nat.zero_le _, rfl, rfl, by omega, rfl⟩
 case round =>
  obtain ⟨k, r, hk, rfl, rfl, hr, hrr⟩ := hrel
  have HR : Hid (r = crcL 4294967295 (ps.take k).flatten) := hrr
  clear hrr
  by_cases hlt : k < ps.length
  ·have hlt2 : (k : Int) < (ps.length : Int) := by omega
   rcases hp with rfl | ⟨b, off, rfl, hc⟩
   ·simp at hlt
   obtain ⟨u, hu, hru⟩ := hc k hlt
   clear hc
   obtain ⟨hby, a2, cap2, hu2, hle, hm, hl48, hnone, hat⟩ := hru
   rw [hu2] at hu
   clear hu2
   obtain ⟨bs, hbs⟩ : ∃ bs, bs = ps.getD k [] := ⟨_, rfl⟩
   rw [← hbs] at hby hu hle hl48 hat
   have HB : Hid (bs = ps.getD k []) := hbs
   clear hbs
   go_wp2
   go_loop [3, 5] (fun x i => ∃ j q : Nat, j ≤ bs.length ∧ i = .int .i64 (j : Int) ∧ x = .int .u32 (q : Int) ∧ q < 4294967296 ∧ q = crcL r (bs.take j)) (fun _ i => bs.length - (intOf i).toNat)
   case atStart => exact ⟨0, r, Nat.zero_le _, rfl, rfl, hr, rfl⟩
   case round =>
    obtain ⟨j, q, hj, rfl, rfl, hq, hqq⟩ := hrel
    have HQ : Hid (q = crcL r (bs.take j)) := hqq
    clear hqq
    by_cases hjl : j < bs.length
    ·have hjl2 : (j : Int) < (bs.length : Int) := by omega
     rcases hat with rfl | ⟨b2, off2, rfl, hc2⟩
     ·simp at hjl
     have hcc := hc2 j hjl
     clear hc2
     have hcl := hby.get j
     obtain ⟨c, hcd⟩ : ∃ c, c = bs.getD j 0 := ⟨_, rfl⟩
     rw [← hcd] at hcc hcl
     have HC : Hid (c = bs.getD j 0) := hcd
     clear hcd
     go_wp2
     go_loop [3, 6, 7] (fun x y i => ∃ t s d : Nat, t ≤ 8 ∧ i = .int .i64 (t : Int) ∧ x = .int .u32 (s : Int) ∧ y = .int .u8 (d : Int) ∧ s < 4294967296 ∧ d = c / 2 ^ t ∧ s ^^^ d = Tn t (q ^^^ c)) (fun _ _ i => 8 - (intOf i).toNat)
     case atStart => exact ⟨0, q, c, by omega, rfl, rfl, rfl, hq, by simp, rfl⟩
     case round =>
      obtain ⟨t, s, d, ht8, rfl, rfl, rfl, hs, hd, hx⟩ := hrel
      have hd256 : d < 256 := by rw [hd]; exact Nat.lt_of_le_of_lt (Nat.div_le_self _ _) hcl
      have HD : Hid (d = c / 2 ^ t) := hd
      have HX : Hid (s ^^^ d = Tn t (q ^^^ c)) := hx
      clear hd hx
      by_cases hlt8 : t < 8
      ·have hlt8' : (t : Int) < 8 := by omega
       have em : (d : Int) % 4294967296 = (d : Int) := by omega
       have HD2 : Hid (d / 2 = c / 2 ^ (t + 1)) := by unfold Hid; rw [HD.out, Nat.div_div_eq_div_mul, Nat.pow_succ]
       by_cases hpar : s % 2 = d % 2
       ·have p1 : ((s : Int) % 2 == (d : Int) % 2) = true := by simp; omega
        have p2 : (s : Int) % 2 = (d : Int) % 2 := by omega
        have HX2 : Hid ((s / 2) ^^^ (d / 2) = Tn (t + 1) (q ^^^ c)) := by unfold Hid; rw [T_pair_even s d hpar, HX.out, Tn_last]
        clear hpar
        go_wp2
        go_round
        case rel => exact ⟨t + 1, s / 2, d / 2, by omega, by go_num, by go_num, by go_num, by omega, HD2.out, HX2.out⟩
        case measure => simp [intOf]; omega
       ·have p1 : ((s : Int) % 2 == (d : Int) % 2) = false := by simp; omega
        have p2 : ¬ ((s : Int) % 2 = (d : Int) % 2) := by omega
        have HX2 : Hid ((s / 2 ^^^ 2197175160) ^^^ (d / 2) = Tn (t + 1) (q ^^^ c)) := by unfold Hid; rw [T_pair_odd s d hpar, HX.out, Tn_last]
        have HXL : Hid (s / 2 ^^^ 2197175160 < 4294967296) := Nat.xor_lt_two_pow (n := 32) (by omega) (by omega)
        have HXB : Hid (bits .xor .u32 ((s : Int) / 2) 2197175160 = (((s / 2) ^^^ 2197175160 : Nat) : Int)) := xor32h s hs
        clear hpar
        go_wp2
        go_round
        case rel => exact ⟨t + 1, s / 2 ^^^ 2197175160, d / 2, by omega, by go_num, by rw [HXB.out], by go_num, HXL.out, HD2.out, HX2.out⟩
        case measure => simp [intOf]; omega
      ·have hge8 : (8 : Int) ≤ (t : Int) := by omega
       have ht : t = 8 := by omega
       have HF : Hid (s = crcB q c) := by
        unfold Hid
        have h1 := HX.out
        have h0 : d = 0 := by rw [HD.out, ht]; omega
        rw [h0, Nat.xor_zero, ht] at h1
        rw [crcB_eq]; exact h1
       clear ht
       go_wp2
       go_round
       case rel =>
        refine ⟨j + 1, s, by omega, by go_num, rfl, hs, ?_⟩
        rw [HF.out, take_succ_getD bs j hjl, crcL_snoc, ← HQ.out, ← HC.out]
       case measure => simp [intOf]; omega
    ·have hjge : (bs.length : Int) ≤ (j : Int) := by omega
     go_wp2
     go_round
     case rel =>
      refine ⟨k + 1, q, by omega, by go_num, rfl, hq, ?_⟩
      rw [flat_snoc ps k hlt, crcL_append, ← HR.out, ← HB.out, HQ.out, List.take_of_length_le (by omega)]
     case measure => simp [intOf]; omega
  ·have hkge : (ps.length : Int) ≤ (k : Int) := by omega
   have hk2 : ps.take k = ps := List.take_of_length_le (by omega)
   have hr2 := HR.out
   rw [hk2] at hr2
   have HR2 : Hid (r = crcL 4294967295 ps.flatten) := hr2
   have HE : Hid (IntKind.u32.wrap (4294967295 - (r : Int)) = ((4294967295 - r : Nat) : Int)) := by
    unfold Hid; simp only [IntKind.wrap, IntKind.bits, IntKind.signed]; simp; omega
   have HE2 : Hid ((4294967295 : Int) - (r : Int) = ((4294967295 - r : Nat) : Int)) := by unfold Hid; omega
   clear hr2 hk2
   go_wp2
   go_ret
   refine ⟨?_, rfl⟩
   unfold sumL
   rw [← HR2.out]
   first | exact congrArg (fun z : Int => Ending.returned (Value.int .u32 z)) HE2.out | exact congrArg (fun z : Int => Ending.returned (Value.int .u32 z)) HE.out

end Go.Proofs.YtchebhafabhabaaGreatDoor

namespace Go.Proofs.YtchebhafabhabaaGreatDoor
open Go.RowKit
set_option linter.unusedVariables false

theorem refSum_at {v : Value} {ps : List (List Nat)} {w : World} (hp : RdP w v ps) {S : Nat} (h : sumL ps.flatten = S) :
  Calls Tryz.prog 79 #[v] w fun e w' => e = .returned (.int .u32 (S : Int)) ∧ w' = w := by subst h; exact refSum_any hp

theorem own_new (w : World) (B g : Nat) (hg : g = w.heap.size) (hB : B ≤ w.heap.size) (arr : Array Value) (bs : List Nat) (h : arr.toList = bv bs) (n : Nat) (hn : n = bs.length) (hl : n ≤ 1000) : Own (w.alloc (.cells arr 5)) B (.slice (some ⟨g, 0, none⟩) n n) n bs := by
 subst hg
 have hsz : arr.size = n := by rw [← Array.length_toList, h, bv_length, hn]
 refine ⟨hn, by rw [bv_length, hn]; omega, .inr ⟨w.heap.size, n, arr, rfl, hB, heap_new w _, Nat.le_refl _, by unfold maxLen; omega, by omega, ?_⟩⟩
 rw [h, List.take_of_length_le (by rw [bv_length]; omega)]

set_option maxRecDepth 100000 in
set_option maxHeartbeats 1000000 in
theorem sealed_any {v : Value} {bs : List Nat} {w : World} (hr : Rd w v bs) :
  Calls Tryz.prog 66 #[v] w fun e w' => ∃ a m c, e = .returned (.slice a m c) ∧ Own w' w.heap.size (.slice a m c) m (le4 (sumL bs)) ∧ Below w.heap.size w w' := by
 obtain ⟨a, n, cap, rfl⟩ := rd_slice hr
 obtain ⟨S, hS⟩ : ∃ S, S = sumL bs := ⟨_, rfl⟩
 have HS : Hid (sumL [bs].flatten = S) := by unfold Hid; rw [hS]; simp
 have hs : S < 4294967296 := hS ▸ sumL_lt bs
 rw [← hS]
 clear hS
 have hp := RdP.one hr
 have A1 := (Below.refl w.heap.size w).alloc (Nat.le_refl _) (.cells #[.slice a n cap] 36)
 go_enter Tryz.func66, Tryz.ntmps66
 go_wp2_with fail
 refine (refSum_at hp HS.out).mono ?_
 rintro e w1 ⟨rfl, rfl⟩
 go_wp2
 go_ret
 have A2 := A1.alloc A1.size (.cells #[.int .u8 ((S : Int) % 256), .int .u8 ((S : Int) / 256 % 256), .int .u8 ((S : Int) / 65536 % 256), .int .u8 ((S : Int) / 16777216)] 5)
 refine ⟨_, 4, 4, rfl, own_new _ w.heap.size _ (by simp) A1.size _ _ ?_ 4 rfl (by omega), A2⟩
 simp [bv, le4]

end Go.Proofs.YtchebhafabhabaaGreatDoor

namespace Go.Proofs.YtchebhafabhabaaGreatDoor
open Go.RowKit
set_option linter.unusedVariables false

set_option maxRecDepth 100000 in
set_option maxHeartbeats 1000000 in
theorem same5_any {va vb : Value} {xs ys : List Nat} {w : World} (ha : Rd w va xs) (hb : Rd w vb ys) :
  Calls Tryz.prog 20 #[va, vb] w fun e w' => e = .returned (.bool (decide (xs = ys))) ∧ Below w.heap.size w w' := by
 obtain ⟨a, n, cap, rfl⟩ := rd_slice ha
 obtain ⟨b, m, capb, rfl⟩ := rd_slice hb
 obtain ⟨hn, _, _, hn48⟩ := rd_lens ha
 obtain ⟨hm, _, _, hm48⟩ := rd_lens hb
 have HN : Hid (n = xs.length) := hn
 have HM : Hid (m = ys.length) := hm
 clear hn hm
 by_cases hnm : n = m
 ·subst hnm
  go_enter Tryz.func20, Tryz.ntmps20
  go_wp2
  go_loopw [5] (fun i wr => ∃ t : Nat, t ≤ n ∧ i = .int .i64 (t : Int) ∧ xs.take t = ys.take t ∧ Below w.heap.size w wr) (fun i _ => n - (intOf i).toNat)
  case atStart => exact ⟨0, by omega, rfl, rfl, Below.refl _ _⟩
  case round =>
   obtain ⟨t, htn, rfl, heq, hbk⟩ := hrel
   have HQ : Hid (xs.take t = ys.take t) := heq
   clear heq
   by_cases h1 : t < n
   ·have h1' : (t : Int) < (n : Int) := by omega
    have ht0 : (0 : Int) ≤ (t : Int) := by omega
    rcases rd_some ha with ⟨_, h0, _⟩ | ⟨ba, oa, rfl⟩
    ·omega
    rcases rd_some hb with ⟨_, h0, _⟩ | ⟨bb, ob, rfl⟩
    ·omega
    obtain ⟨ca0, cal⟩ := rd_cell ha t h1
    obtain ⟨cb0, cbl⟩ := rd_cell hb t h1
    have ca : wr.cell? ⟨ba, oa + t, none⟩ = some (.int .u8 ((xs.getD t 0 : Nat) : Int)) := by
     rw [hbk.cell (p := ⟨ba, oa + t, none⟩) (World.block_lt_of_cell? w _ ca0)]; exact ca0
    have cb : wr.cell? ⟨bb, ob + t, none⟩ = some (.int .u8 ((ys.getD t 0 : Nat) : Int)) := by
     rw [hbk.cell (p := ⟨bb, ob + t, none⟩) (World.block_lt_of_cell? w _ cb0)]; exact cb0
    have HTE : Hid (xs.getD t 0 = ys.getD t 0 → xs.take (t + 1) = ys.take (t + 1)) := fun e => take_eq (by rw [← HN.out]; exact h1) (by rw [← HM.out]; exact h1) HQ.out e
    have HNE : Hid (xs.getD t 0 ≠ ys.getD t 0 → xs ≠ ys) := fun e h => e (by rw [h])
    obtain ⟨x, hx⟩ : ∃ x, x = xs.getD t 0 := ⟨_, rfl⟩
    obtain ⟨y, hy⟩ : ∃ y, y = ys.getD t 0 := ⟨_, rfl⟩
    rw [← hx] at ca cal HTE HNE
    rw [← hy] at cb cbl HTE HNE
    clear hx hy ca0 cb0
    by_cases hxy : x = y
    ·subst hxy
     go_wp2
     go_quiet (fail)
     go_wp2
     go_roundw
     case rel => exact ⟨t + 1, by omega, by go_num, HTE.out trivial, below_drewN hbk _⟩
     case measure => simp [intOf]; omega
    ·have hxy' : ¬ ((x : Int) = (y : Int)) := by omega
     go_wp2
     go_quiet (fail)
     go_wp2
     go_ret
     rw [decide_eq_false (HNE.out hxy)]
     exact ⟨rfl, below_drewN hbk _⟩
   ·have h1' : (n : Int) ≤ (t : Int) := by omega
    go_wp2
    go_ret
    have e : xs = ys := by
     have := HQ.out
     rw [List.take_of_length_le (by rw [← HN.out]; omega), List.take_of_length_le (by rw [← HM.out]; omega)] at this
     exact this
    rw [decide_eq_true e]
    exact ⟨rfl, hbk⟩
 ·have hnm' : ¬ ((n : Int) = (m : Int)) := by omega
  go_enter Tryz.func20, Tryz.ntmps20
  go_wp2
  go_ret
  rw [decide_eq_false (fun e => hnm (by rw [HN.out, HM.out, e]))]
  exact ⟨rfl, Below.refl _ _⟩

instance (a b : EntD) : Decidable (EntD.Same a b) := by unfold EntD.Same; infer_instance

set_option maxRecDepth 100000 in
set_option maxHeartbeats 8000000 in
theorem se_any {a b : EntD} {w : World} (ha : EntD.Ok w a) (hb : EntD.Ok w b) :
  Calls Tryz.prog 33 #[.agg a.cells, .agg b.cells] w fun r w' => r = .returned (.bool (decide (EntD.Same a b))) ∧ Below w.heap.size w w' := by
 have A1 := (Below.refl w.heap.size w).alloc (Nat.le_refl _) (.cells a.cells 40)
 have A2 := A1.alloc A1.size (.cells b.cells 40)
 have bxa0 := (EBox.new w a).later ((Below.refl (w.alloc (.cells a.cells 40)).heap.size (w.alloc (.cells a.cells 40))).alloc (Nat.le_refl _) (.cells b.cells 40))
 have bxb0 := EBox.new (w.alloc (.cells a.cells 40)) b
 rw [World.size_alloc] at bxb0
 obtain ⟨V, hV⟩ : ∃ V, V = (w.alloc (.cells a.cells 40)).alloc (.cells b.cells 40) := ⟨_, rfl⟩
 rw [← hV] at A2 bxa0 bxb0
 have HV : Hid (V = _) := hV
 clear hV A1
 have HX : Hid (EBox V w.heap.size a ∧ EBox V (w.heap.size + 1) b ∧ Below w.heap.size w V) := ⟨bxa0, bxb0, A2⟩
 have HA : Hid (∀ wx, Below V.heap.size V wx → EntD.Ok wx a ∧ EntD.Ok wx b ∧ EBox wx w.heap.size a ∧ EBox wx (w.heap.size + 1) b) := fun wx q => ⟨(ha.later A2).later q, (hb.later A2).later q, bxa0.later q, bxb0.later q⟩
 obtain ⟨c0, c1, c2, c3, c4, c5, c6⟩ := (⟨bxa0.vr, bxa0.fam, bxa0.vq, bxa0.ts, bxa0.seq, bxa0.kind, bxa0.vv⟩ : _ ∧ _ ∧ _ ∧ _ ∧ _ ∧ _ ∧ _)
 obtain ⟨d0, d1, d2, d3, d4, d5, d6⟩ := (⟨bxb0.vr, bxb0.fam, bxb0.vq, bxb0.ts, bxb0.seq, bxb0.kind, bxb0.vv⟩ : _ ∧ _ ∧ _ ∧ _ ∧ _ ∧ _ ∧ _)
 clear A2 bxa0 bxb0 ha hb
 obtain ⟨va, fa, qa, ta, sa, ka, wa, ra, la, ya⟩ := a
 obtain ⟨vb, fb, qb, tb, sb, kb, wb, rb, lb, yb⟩ := b
 simp only [EntD.cells] at *
 by_cases h1 : fa = fb
 ·by_cases h2 : ta = tb
  ·by_cases h3 : sa = sb
   ·by_cases h4 : ka = kb
    ·subst h1 h2 h3 h4
     go_enter Tryz.func33, Tryz.ntmps33
     go_wp2_with fail
     rw [← HV.out]
     go_wp2_with fail
     refine (same5_any (HA.out _ (Below.refl _ _)).1.1 (HA.out _ (Below.refl _ _)).2.1.1).mono ?_
     rintro e w1 ⟨rfl, hb1⟩
     by_cases e1 : ra = rb
     ·rw [decide_eq_true e1]
      have x2 := (HA.out _ hb1).2.2.1.vq
      have y2 := (HA.out _ hb1).2.2.2.vq
      simp only at x2 y2
      go_wp2_with fail
      refine (same5_any (HA.out _ hb1).1.2.1 (HA.out _ hb1).2.1.2.1).mono ?_
      rintro e w2 ⟨rfl, hb2⟩
      have B2 := hb1.trans (hb2.mono hb1.size)
      by_cases e2 : la = lb
      ·rw [decide_eq_true e2]
       have x6 := (HA.out _ B2).2.2.1.vv
       have y6 := (HA.out _ B2).2.2.2.vv
       simp only at x6 y6
       go_wp2_with fail
       refine (same5_any (HA.out _ B2).1.2.2 (HA.out _ B2).2.1.2.2).mono ?_
       rintro e w3 ⟨rfl, hb3⟩
       have B3 := B2.trans (hb3.mono B2.size)
       by_cases e3 : ya = yb
       ·rw [decide_eq_true e3]
        go_wp2
        go_ret
        have hd : decide (EntD.Same ⟨va, fa, qa, ta, sa, ka, wa, ra, la, ya⟩ ⟨vb, fa, qb, ta, sa, ka, wb, rb, lb, yb⟩) = true := decide_eq_true ⟨rfl, rfl, rfl, rfl, e1, e2, e3⟩
        rw [hd]
        exact ⟨rfl, HX.out.2.2.trans (B3.mono HX.out.2.2.size)⟩
       ·rw [decide_eq_false e3]
        go_wp2
        go_ret
        rw [decide_eq_false (show ¬ EntD.Same _ _ from fun h => e3 h.2.2.2.2.2.2)]
        exact ⟨rfl, HX.out.2.2.trans (B3.mono HX.out.2.2.size)⟩
      ·rw [decide_eq_false e2]
       go_wp2
       go_ret
       rw [decide_eq_false (show ¬ EntD.Same _ _ from fun h => e2 h.2.2.2.2.2.1)]
       exact ⟨rfl, HX.out.2.2.trans (B2.mono HX.out.2.2.size)⟩
     ·rw [decide_eq_false e1]
      go_wp2
      go_ret
      rw [decide_eq_false (show ¬ EntD.Same _ _ from fun h => e1 h.2.2.2.2.1)]
      exact ⟨rfl, HX.out.2.2.trans (hb1.mono HX.out.2.2.size)⟩
    ·subst h1 h2 h3
     go_enter Tryz.func33, Tryz.ntmps33
     go_wp2_with fail
     rw [← HV.out]
     go_wp2
     go_ret
     rw [decide_eq_false (show ¬ EntD.Same _ _ from fun h => h4 h.2.2.2.1)]
     exact ⟨rfl, HX.out.2.2⟩
   ·subst h1 h2
    go_enter Tryz.func33, Tryz.ntmps33
    go_wp2_with fail
    rw [← HV.out]
    go_wp2
    go_ret
    rw [decide_eq_false (show ¬ EntD.Same _ _ from fun h => h3 h.2.2.1)]
    exact ⟨rfl, HX.out.2.2⟩
  ·subst h1
   go_enter Tryz.func33, Tryz.ntmps33
   go_wp2_with fail
   rw [← HV.out]
   go_wp2
   go_ret
   rw [decide_eq_false (show ¬ EntD.Same _ _ from fun h => h2 h.2.1)]
   exact ⟨rfl, HX.out.2.2⟩
 ·go_enter Tryz.func33, Tryz.ntmps33
  go_wp2_with fail
  rw [← HV.out]
  go_wp2
  go_ret
  rw [decide_eq_false (show ¬ EntD.Same _ _ from fun h => h1 h.1)]
  exact ⟨rfl, HX.out.2.2⟩
end Go.Proofs.YtchebhafabhabaaGreatDoor

namespace Go.Proofs.YtchebhafabhabaaGreatDoor
open Go.RowKit Go.Shelf
set_option linter.unusedVariables false
attribute [local go_sem] Oper.semAt_some

def atD (vr vq vv : Value) (ts : Int) : EntD := ⟨vr, 0, vq, ts, 32, 1, vv, [114], [113], [118]⟩
def zD : EntD := ⟨.slice none 0 0, 0, .slice none 0 0, 0, 0, 0, .slice none 0 0, [], [], []⟩

set_option maxRecDepth 100000 in
set_option maxHeartbeats 1000000 in
theorem at_any (ts : Int) (w : World) : Calls Tryz.prog 40 #[.int .i64 ts] w fun e w' => ∃ vr vq vv, e = .returned (.agg (atD vr vq vv ts).cells) ∧ EntD.Ok w' (atD vr vq vv ts) ∧ Below w.heap.size w w' := by
 have k1 := Joins.run_convert_bytes_const_at (P := Tryz.prog) (w.alloc (.cells zD.cells 40)) 36 5 #[.int .u8 114] 1 1 (w.heap.size + 1) (by simp) und_bytes und_byte
 have k2 := Joins.run_convert_bytes_const_at (P := Tryz.prog) ((w.alloc (.cells zD.cells 40)).alloc (.cells #[.int .u8 114] 5 (1, 2))) 36 5 #[.int .u8 113] 1 1 (w.heap.size + 2) (by simp) und_bytes und_byte
 have k3 := Joins.run_convert_bytes_const_at (P := Tryz.prog) (((w.alloc (.cells zD.cells 40)).alloc (.cells #[.int .u8 114] 5 (1, 2))).alloc (.cells #[.int .u8 113] 5 (1, 2))) 36 5 #[.int .u8 118] 1 1 (w.heap.size + 3) (by simp) und_bytes und_byte
 simp only [zD, EntD.cells, List.size_toArray, List.length_cons, List.length_nil, Nat.zero_add] at k1 k2 k3
 obtain ⟨w4, hw4, bx, d2, d3, d4, bel⟩ := three w (atD (.slice (some ⟨w.heap.size + 1, 0, none⟩) 1 1) (.slice (some ⟨w.heap.size + 2, 0, none⟩) 1 1) (.slice (some ⟨w.heap.size + 3, 0, none⟩) 1 1) ts)
 have HF : Hid (_ ∧ _ ∧ _ ∧ _ ∧ _ ∧ _) := ⟨hw4, bx, d2, d3, d4, bel⟩
 clear bx d2 d3 d4 bel hw4
 simp only [atD, EntD.cells] at HF
 go_enter Tryz.func40, Tryz.ntmps40
 go_wp2
 clear k1 k2 k3
 obtain ⟨hw4, bx, d2, d3, d4, bel⟩ := HF.out
 clear HF
 rw [← hw4]
 have y0 := bx.vr
 have y1 := bx.fam
 have y2 := bx.vq
 have y3 := bx.ts
 have y4 := bx.seq
 have y5 := bx.kind
 have y6 := bx.vv
 simp only at y0 y1 y2 y3 y4 y5 y6
 refine bodyPost_ret (v := .agg (atD (.slice (some ⟨w.heap.size + 1, 0, none⟩) 1 1) (.slice (some ⟨w.heap.size + 2, 0, none⟩) 1 1) (.slice (some ⟨w.heap.size + 3, 0, none⟩) 1 1) ts).cells) (by simp [results, Tryz.results40, go_sem, y0, y1, y2, y3, y4, y5, y6, atD, EntD.cells]) rfl ?_
 exact ⟨_, _, _, rfl, ⟨rd_one d2 (by decide), rd_one d3 (by decide), rd_one d4 (by decide)⟩, bel⟩

end Go.Proofs.YtchebhafabhabaaGreatDoor
