import Derived.Test.YtchebhafabhabaaGreatDoorK14
namespace Go.Proofs.YtchebhafabhabaaGreatDoor
open Go.RowKit Go.Shelf
set_option linter.unusedVariables false

structure BladW (r : Nat) (l : List (List Nat × List Nat)) (E P : List Nat) : Prop where
 r1 : 1 ≤ r
 r16 : r ≤ 16
 es : E = (foldB r Bs.zero l).es
 ps : P = (foldB r Bs.zero l).ps
 up : Up [] l
 some_ : l ≠ []
 size : E.length + P.length + 9 ≤ 262144
theorem BladW.few {r : Nat} {l : List (List Nat × List Nat)} {E P : List Nat} (h : BladW r l E P) : l.length ≤ E.length := by
 have := foldB_few r l Bs.zero (Nat.le_refl _)
 rw [foldB_n, ← h.es] at this
 simpa [Bs.zero] using this
set_option maxRecDepth 100000 in
set_option maxHeartbeats 8000000 in
theorem lay_wide {W : World} {a : Option Addr} {cap r : Nat} {l : List EntD} {E P : List Nat} (hr : RdL5 W a cap l) (hL : BladW r (kvL l) E P) (hc : ∀ e ∈ l, checkS e = 0) :
  Calls Tryz.prog 49 #[.int .i64 (r : Int), .slice a l.length cap] W fun x w' => LayP W (blockL E P l.length r) x w' := by
 obtain ⟨N, hN⟩ : ∃ N, N = l.length := ⟨_, rfl⟩
 rw [← hN]
 have hN0 : N ≠ 0 := fun h => hL.some_ (by rw [List.eq_nil_of_length_eq_zero (l := l) (by omega)]; rfl)
 have hN0i : ((N : Int) == 0) = false := by rw [beq_eq_false_iff_ne]; omega
 have hN17 : N ≤ 262144 := by have := hL.few; have := hL.size; rw [kvL_len] at *; omega
 have hr1 := hL.r1
 have hr16 := hL.r16
 have hr0 : ¬ (r : Int) = 0 := by omega
 have hrb : IntKind.u8.wrap (r : Int) = (r : Int) := IntWalk.u8_in _ ⟨by omega, by omega⟩
 have HN := Lib.hid hN
 have HR := Lib.hid hr
 have HL := Lib.hid hL
 have HC := Lib.hid hc
 have HSz : Hid (∀ k, (foldB r Bs.zero (kvL (l.take k))).es.length ≤ E.length ∧ (foldB r Bs.zero (kvL (l.take k))).ps.length ≤ P.length) := fun k => by
  have e : kvL l = kvL (l.take k) ++ kvL (l.drop k) := by unfold kvL; rw [← List.map_append, List.take_append_drop]
  obtain ⟨m1, h1⟩ := foldB_es r (kvL (l.drop k)) (foldB r Bs.zero (kvL (l.take k)))
  obtain ⟨m2, h2⟩ := foldB_ps r (kvL (l.drop k)) (foldB r Bs.zero (kvL (l.take k)))
  rw [hL.es, hL.ps, e, foldB_app, h1, h2]
  simp
 have HEP := Lib.hid hL.size
 have H0 : Hid (Lz W r l W 0 (.slice none 0 0) (.slice none 0 0) (.slice none 0 0) 0 0 0) := ⟨_, rfl, rfl, rfl, rfl, by simpa [kvL, foldB, Bs.zero] using L3.start W⟩
 clear hN hr hL hc
 go_enter Tryz.func49, Tryz.ntmps49
 go_wp2
 go_loopw [5, 6, 7, 8, 9, 10, 11] (fun vb vp vl iv _ _ _ wr => ∃ (k nb np nl : Nat) (ab : Option Addr) (cb : Nat) (ap : Option Addr) (cp : Nat) (al : Option Addr) (cl : Nat), k ≤ N ∧ iv = .int .i64 (k : Int) ∧ vb = .slice ab nb cb ∧ vp = .slice ap np cp ∧ vl = .slice al nl cl ∧ Hid (Lz W r l wr k (.slice ab nb cb) (.slice ap np cp) (.slice al nl cl) nb np nl)) (fun _ _ _ iv _ _ _ _ => N - (intOf iv).toNat)
 case atStart => exact ⟨0, 0, 0, 0, none, 0, none, 0, none, 0, Nat.zero_le _, rfl, rfl, rfl, rfl, H0⟩
 case round =>
  clear H0
  obtain ⟨k, nb, np, nl, ab, cb, ap, cp, al, cl, hk, rfl, rfl, rfl, rfl, HU⟩ := hrel
  have k0 : (0 : Int) ≤ (k : Int) := by omega
  by_cases hlt : k < N
  ·have hlt2 : (k : Int) < (N : Int) := by omega
   have hl2 : k < l.length := by rw [← HN.out]; exact hlt
   obtain ⟨e, he⟩ : ∃ e, l[k]? = some e := ⟨l[k], List.getElem?_eq_getElem hl2⟩
   obtain ⟨s, hs, hnb, hnp, hnl, h3⟩ := HU.out.st
   have hrd := HR.out.later h3.bel
   have hok := hrd.ok e (List.mem_of_getElem? he)
   obtain ⟨b, off, rfl, d0, d1, d2, d3, d4, d5, d6⟩ := hrd.cel he
   have hcap := hrd.cap
   have hce0 := HC.out e (List.mem_of_getElem? he)
   have hK := refKey_ok hok hce0
   have hKb : Bys (keyL e) := keyL_bys hok.1.1 hok.2.1.1 hce0
   have hKl := keyL_len hce0
   have hV := (check_facts hce0).2.2.2.2.2.2.2.1
   have hsn : s.n = k := by rw [hs, foldB_n, kvL_len]; simp [Bs.zero]; omega
   have hszk := HSz.out k
   have hszk1 := HSz.out (k + 1)
   rw [← hs, ← hnb, ← hnp] at hszk
   rw [kv_take he r, ← hs] at hszk1
   obtain ⟨_, p1, q1, e1, -⟩ := hok.1
   obtain ⟨_, p2, q2, e2, -⟩ := hok.2.1
   obtain ⟨_, p3, q3, e3, -⟩ := hok.2.2
   have hce : e.cells = #[.slice p1 e.row.length q1, .int .i64 e.fam, .slice p2 e.qual.length q2, .int .i64 e.ts, .int .i64 e.seq, .int .i64 e.kind, .slice p3 e.val.length q3] := by unfold EntD.cells; rw [e1, e2, e3]
   rw [e1] at d0
   rw [e2] at d2
   rw [e3] at d6
   rw [hce] at hK
   obtain ⟨z1, hz1⟩ : ∃ z, z = e.row.length := ⟨_, rfl⟩
   obtain ⟨z2, hz2⟩ : ∃ z, z = e.qual.length := ⟨_, rfl⟩
   obtain ⟨z3, hz3⟩ : ∃ z, z = e.val.length := ⟨_, rfl⟩
   rw [← hz1] at d0 hK
   rw [← hz2] at d2 hK
   rw [← hz3] at d6 hK
   obtain ⟨K, hKK⟩ : ∃ K, keyL e = K := ⟨_, rfl⟩
   obtain ⟨V, hVV⟩ : ∃ V, e.val = V := ⟨_, rfl⟩
   rw [hKK] at hK hKb hKl
   rw [hVV] at hV hz3
   rw [hKK, hVV] at hszk1
   have HK := Lib.hid hK
   have H3 := Lib.hid h3
   have HE : Hid (l[k]? = some e ∧ keyL e = K ∧ e.val = V ∧ s = foldB r Bs.zero (kvL (l.take k)) ∧ s.n = k ∧ Bys K ∧ nb = s.es.length ∧ np = s.ps.length ∧ nl = s.la.length ∧ z3 = V.length) := ⟨he, hKK, hVV, hs, hsn, hKb, hnb, hnp, hnl, hz3⟩
   have hzv : e.val.length = z3 := by rw [hVV]; exact hz3.symm
   have HVa : Hid (∀ wx, Below W.heap.size W wx → wx.cell? ⟨b, off + k * 7 + 6, none⟩ = some (.slice p3 z3 q3) ∧ Rd wx (.slice p3 z3 q3) V) := fun wx hx => by
    have h := HR.out.later hx
    obtain ⟨b', off', heq, _, _, _, _, _, _, f6⟩ := h.cel he
    cases heq
    have hv := (h.ok e (List.mem_of_getElem? he)).2.2
    rw [e3, hzv, hVV] at hv
    rw [e3, hzv] at f6
    exact ⟨f6, hv⟩
   have HS1 := Lib.hid hszk1
   have hnb17 : nb ≤ 262144 := by have := HEP.out; omega
   have hnp17 : np ≤ 262144 := by have := HEP.out; omega
   clear hzv hrd he hok hce0 hK hszk1 hz1 hz2 hz3 hce e1 e2 e3 h3 hs hnb hnp hnl hKK hVV hsn hKb HU hl2
   go_wp2_with fail
   refine Calls.mono HK.out ?_
   rintro z X1 ⟨ak, mk, ck, rfl, ownK, b1⟩
   have h31 := H3.out.later b1
   have h3k := H3.out.key b1 ownK HE.out.2.2.2.2.2.1
   have hmk : Hid (mk = K.length) := ownK.1
   have rdK := ownK.rd HE.out.2.2.2.2.2.1 (by rw [ownK.1]; omega)
   have rdL := h31.l.rd h31.by3 (by
    have e1 := HE.out.2.2.2.1
    have h1 : s.la.length ≤ s.es.length := by rw [e1]; exact fold_la r _ _ (Nat.le_refl _)
    have h2 := HE.out.2.2.2.2.2.2.1
    omega)
   have HSh := Lib.hid (shared5_any rdL rdK)
   obtain ⟨cm, hcm⟩ : ∃ cm, comL s.la K = cm := ⟨_, rfl⟩
   rw [hcm] at HSh
   have H3k := Lib.hid h3k
   have HCm := Lib.hid hcm
   clear HK H3 h31 h3k ownK b1 rdK rdL hcm d0 d1 d2 d3 d4 d5 d6
   go_wp2_with fail
   refine Calls.mono HSh.out ?_
   rintro z X2 ⟨rfl, b2⟩
   have H3b := Lib.hid (H3k.out.later b2)
   clear HSh H3k b2
   by_cases hz : k % r = 0
   ·have hzi : (((k : Int) % (r : Int)) == 0) = true := by rw [beq_iff_eq]; omega
    have HKp0 : Hid (0 < K.length ∧ 0 < K.length) := by
     obtain ⟨e1, e2, e3, e4, e5, e6, e7, e8, e9, e10⟩ := HE.out
     have hup := up_at HL.out.up (by unfold kvL; rw [List.getElem?_map, e1]; rfl : (kvL l)[k]? = some (keyL e, e.val))
     have hla : s.la = lastK (kvL (l.take k)) := by rw [e4]; exact fold_last r _
     have h1 : ordC s.la K < 0 := by
      rw [hla, ← e2]
      have : (kvL l).take k = kvL (l.take k) := by unfold kvL; rw [List.map_take]
      rw [← this]
      exact hup
     have h2 := com_lt (a := s.la) (b := K) (by rw [ordC_swap s.la K]; omega)
     rw [HCm.out] at h2
     unfold Hid
     omega
    have HShv : Hid (shOf r s K = 0) := by unfold Hid shOf; rw [HE.out.2.2.2.2.1, if_pos hz]
    have HPs : Hid (psOf r s = s.ps ++ be4 nb) := by unfold Hid psOf; rw [HE.out.2.2.2.2.1, if_pos hz, ← HE.out.2.2.2.2.2.2.1]
    have HF := Lib.hid (four5_any nb (by omega) X2)
    go_wp2_with fail
    refine Calls.mono HF.out ?_
    rintro z X3 ⟨af, mf, cf, rfl, ownF, b3⟩
    obtain rfl : mf = 4 := ownF.1
    have h33 := H3b.out.later b3
    have rdF : Rd X3 (.slice af 4 cf) (be4 nb) := ownF.rd (be4_bys nb (by omega)) (by omega)
    have ownP : Own X3 W.heap.size (.slice ap np cp) np s.ps := by
     have h := h33.p
     rw [← HE.out.2.2.2.2.2.2.2.1] at h
     exact h
    have hWX3 : W.heap.size ≤ X3.heap.size := h33.bel.size
    have HA := Lib.hid (And.intro h33 (And.intro rdF ownP))
    clear HF ownF b3 h33 rdF ownP H3b
    go_wp2_with (first | (have Y := H3c; go_at_call 59; fail) | (at_builtin; refine wpList_append_keep rfl _ _ rfl W.heap.size _ _ _ _ rfl HA.out.2.2 _ _ _ _ rfl HA.out.2.1 (by omega) hWX3 ?_; intro a4 c4 X4 g4; have H3c := Lib.hid (HA.out.1.growP g4 (be4_bys nb (by omega))); clear g4))
    clear HA
    have HKp : Hid (0 < K.length ∧ 0 < K.length) := HKp0.out
    have hgk : ∃ gk, ak = some ⟨gk, 0, none⟩ := by
     have h := H3c.out.l
     rw [← hmk.out] at h
     rcases ownNonil h with ⟨_, h0, _⟩ | h
     ·have := HKp.out; have := hmk.out; omega
     ·exact h
    obtain ⟨gk, rfl⟩ := hgk
    have hmkc : mk ≤ ck := by
     have h := H3c.out.l
     rw [← hmk.out] at h
     exact (rd_lens (h.rd H3c.out.by3 (by have := hmk.out; omega))).2.1
    have hsh64 : 0 < 18446744073709551616 := by have := HKp.out; omega
    have hshm : 0 < mk := by have := HKp.out; have := hmk.out; omega
    have hU : Calls Tryz.prog 59 #[.int .u64 0] X4 fun e w' => ∃ a m c, e = .returned (.slice a m c) ∧ Own w' X4.heap.size (.slice a m c) m (uintL 0) ∧ Below X4.heap.size X4 w' := by
     have := refUint_any 0 (by have := HKp.out; omega) X4
     simpa using this
    have HU := Lib.hid hU
    clear hU
    refine Calls.mono HU.out ?_
    rintro z Y1 ⟨au, mu, cu, rfl, ownU, b3⟩
    have hmu : Hid (mu = (uintL 0).length) := ownU.1
    have hmu10 : mu ≤ 10 := by rw [hmu.out]; exact (uintL_len _).2
    have rdU : Rd Y1 (.slice au mu cu) (uintL 0) := ownU.rd (uintL_bys _ (by omega)) (by omega)
    have h34 := H3c.out.later b3
    have ownB : Own Y1 W.heap.size (.slice ab nb cb) nb s.es := by
     have h := h34.b
     rw [← HE.out.2.2.2.2.2.2.1] at h
     exact h
    have hWY1 : W.heap.size ≤ Y1.heap.size := h34.bel.size
    have HA1 := Lib.hid (And.intro h34 (And.intro rdU ownB))
    clear HU ownU b3 h34 rdU ownB
    go_wp2_with (first | (have Y := H3e; go_at_call 60; fail) | (at_builtin; refine wpList_append_keep rfl _ _ rfl W.heap.size _ _ _ _ rfl HA1.out.2.2 _ _ _ _ rfl HA1.out.2.1 (by omega) hWY1 ?_; intro a5 c5 Y2 g5; have O5 := Lib.hid g5.new; have H3e := Lib.hid (HA1.out.1.growB g5 (uintL_bys _ (by omega))); clear g5))
    have rdK : Rd Y2 (.slice (some ⟨gk, 0, none⟩) mk ck) K := by
     have h := H3e.out.l
     rw [← hmk.out] at h
     exact h.rd H3e.out.by3 (by have := hmk.out; omega)
    have rdKs : Rd Y2 (.slice (some ⟨gk, 0, none⟩) mk ck) (K.drop 0) := by
     have h := rdK.past 0 (by omega) (off' := 0 + 0) (n' := mk - 0) (cap' := ck - 0) rfl rfl rfl
     simpa using h
    have HB1 := Lib.hid (refBytes_any rdKs (by rw [List.length_drop]; omega))
    have HBk : Hid (Bys (bytesL (K.drop 0))) := bytesL_bys rdKs.1 (by rw [List.length_drop]; omega)
    clear rdK rdKs HA1
    refine Calls.mono HB1.out ?_
    rintro z Y3 ⟨aw, mw, cw, rfl, ownW, b5⟩
    have hmw : Hid (mw = (bytesL (K.drop 0)).length) := ownW.1
    have hmw3 : mw ≤ 3000 := by
     have h1 := bytesL_len (K.drop 0)
     rw [← hmw.out, List.length_drop] at h1
     omega
    have rdW : Rd Y3 (.slice aw mw cw) (bytesL (K.drop 0)) := ownW.rd HBk.out (by omega)
    have h35 := H3e.out.later b5
    have ownB : Own Y3 W.heap.size (.slice a5 (nb + mu) c5) (nb + mu) (s.es ++ uintL 0) := O5.out.later b5
    have hWY3 : W.heap.size ≤ Y3.heap.size := h35.bel.size
    have HA3 := Lib.hid (And.intro h35 (And.intro rdW ownB))
    clear HB1 ownW b5 h35 rdW ownB H3e O5
    go_wp2_with (first | (have Y := H3g; go_at_call 60; fail) | (at_builtin; refine wpList_append_keep rfl _ _ rfl W.heap.size _ _ _ _ rfl HA3.out.2.2 _ _ _ _ rfl HA3.out.2.1 (by omega) hWY3 ?_; intro a7 c7 Y4 g7; have O7 := Lib.hid g7.new; have H3g := Lib.hid (HA3.out.1.growB g7 HBk.out); have f6 := (HVa.out _ H3g.out.bel).1; clear g7))
    have rdV := (HVa.out _ H3g.out.bel).2
    have hz3 : Hid (z3 = V.length) := HE.out.2.2.2.2.2.2.2.2.2
    have HB2 := Lib.hid (refBytes_any rdV (by rw [← hz3.out]; have := (rd_lens rdV).1; omega))
    have HBv : Hid (Bys (bytesL V)) := bytesL_bys rdV.1 (by omega)
    clear rdV HA3 f6
    refine Calls.mono HB2.out ?_
    rintro z Y5 ⟨ax, mx, cx, rfl, ownX, b7⟩
    have hmx : Hid (mx = (bytesL V).length) := ownX.1
    have hmx5 : mx ≤ 5000 := by
     have h1 := bytesL_len V
     rw [← hmx.out] at h1
     omega
    have rdX : Rd Y5 (.slice ax mx cx) (bytesL V) := ownX.rd HBv.out (by omega)
    have h37 := H3g.out.later b7
    have ownB : Own Y5 W.heap.size (.slice a7 (nb + mu + mw) c7) (nb + mu + mw) (s.es ++ uintL 0 ++ bytesL (K.drop 0)) := O7.out.later b7
    have hWY5 : W.heap.size ≤ Y5.heap.size := h37.bel.size
    have HA5 := Lib.hid (And.intro h37 (And.intro rdX ownB))
    clear HB2 ownX b7 h37 rdX ownB H3g O7
    go_wp2_with (at_builtin; refine wpList_append_keep rfl _ _ rfl W.heap.size _ _ _ _ rfl HA5.out.2.2 _ _ _ _ rfl HA5.out.2.1 (by omega) hWY5 ?_; intro a9 c9 Y6 g9; have H3i := Lib.hid (HA5.out.1.growB g9 HBv.out); clear g9)
    have HZ : Hid (Lz W r l Y6 (k + 1) (.slice a9 (nb + mu + mw + mx) c9) (.slice a4 (np + 4) c4) (.slice (some ⟨gk, 0, none⟩) mk ck) (nb + mu + mw + mx) (np + 4) mk) := by
     obtain ⟨e1, e2, e3, e4, e5, e6, e7, e8, e9, e10⟩ := HE.out
     refine ⟨addB r s K V, by rw [kv_take e1 r, ← e4, e2, e3], ?_, ?_, ?_, ?_⟩
     ·simp only [addB, esOf, recL]
      rw [HShv.out, List.length_append, ← e7]
      have q1 := hmu.out
      have q2 := hmw.out
      have q3 := hmx.out
      unfold bytesL at q2 q3
      simp only [List.length_append] at q2 q3 ⊢
      omega
     ·simp only [addB]
      rw [HPs.out]
      have := e8
      simp [be4]
      omega
     ·exact hmk.out
     ·have h := H3i.out
      have ee : (addB r s K V).es = s.es ++ uintL 0 ++ bytesL (K.drop 0) ++ bytesL V := by
       simp only [addB, esOf, recL]
       rw [HShv.out]
       simp [bytesL]
      have ep : (addB r s K V).ps = s.ps ++ be4 nb := by simp only [addB]; exact HPs.out
      rw [ee, ep]
      exact h
    clear HA5 H3i
    go_wp2
    go_roundw
    case rel => exact ⟨k + 1, nb + mu + mw + mx, np + 4, mk, a9, c9, _, _, _, _, by omega, by go_num, rfl, rfl, rfl, HZ⟩
    case measure => simp only [intOf]; omega
   ·have hzi : (((k : Int) % (r : Int)) == 0) = false := by rw [beq_eq_false_iff_ne]; omega
    have HKp0 : Hid (0 < K.length ∧ cm < K.length) := by
     obtain ⟨e1, e2, e3, e4, e5, e6, e7, e8, e9, e10⟩ := HE.out
     have hup := up_at HL.out.up (by unfold kvL; rw [List.getElem?_map, e1]; rfl : (kvL l)[k]? = some (keyL e, e.val))
     have hla : s.la = lastK (kvL (l.take k)) := by rw [e4]; exact fold_last r _
     have h1 : ordC s.la K < 0 := by
      rw [hla, ← e2]
      have : (kvL l).take k = kvL (l.take k) := by unfold kvL; rw [List.map_take]
      rw [← this]
      exact hup
     have h2 := com_lt (a := s.la) (b := K) (by rw [ordC_swap s.la K]; omega)
     rw [HCm.out] at h2
     unfold Hid
     omega
    have HShv : Hid (shOf r s K = cm) := by unfold Hid shOf; rw [HE.out.2.2.2.2.1, if_neg hz]; exact HCm.out
    have HPs : Hid (psOf r s = s.ps) := by unfold Hid psOf; rw [HE.out.2.2.2.2.1, if_neg hz]
    have hcw : IntKind.u64.wrap (cm : Int) = (cm : Int) := uint_small (by have := HKp0.out; omega)
    have H3c := Lib.hid H3b.out
    clear H3b
    go_wp2_with fail
    have HKp : Hid (0 < K.length ∧ cm < K.length) := HKp0.out
    have hgk : ∃ gk, ak = some ⟨gk, 0, none⟩ := by
     have h := H3c.out.l
     rw [← hmk.out] at h
     rcases ownNonil h with ⟨_, h0, _⟩ | h
     ·have := HKp.out; have := hmk.out; omega
     ·exact h
    obtain ⟨gk, rfl⟩ := hgk
    have hmkc : mk ≤ ck := by
     have h := H3c.out.l
     rw [← hmk.out] at h
     exact (rd_lens (h.rd H3c.out.by3 (by have := hmk.out; omega))).2.1
    have hsh64 : cm < 18446744073709551616 := by have := HKp.out; omega
    have hshm : cm < mk := by have := HKp.out; have := hmk.out; omega
    have hU : Calls Tryz.prog 59 #[.int .u64 (cm : Int)] X2 fun e w' => ∃ a m c, e = .returned (.slice a m c) ∧ Own w' X2.heap.size (.slice a m c) m (uintL cm) ∧ Below X2.heap.size X2 w' := by
     have := refUint_any cm (by have := HKp.out; omega) X2
     simpa using this
    have HU := Lib.hid hU
    clear hU
    refine Calls.mono HU.out ?_
    rintro z Y1 ⟨au, mu, cu, rfl, ownU, b3⟩
    have hmu : Hid (mu = (uintL cm).length) := ownU.1
    have hmu10 : mu ≤ 10 := by rw [hmu.out]; exact (uintL_len _).2
    have rdU : Rd Y1 (.slice au mu cu) (uintL cm) := ownU.rd (uintL_bys _ (by omega)) (by omega)
    have h34 := H3c.out.later b3
    have ownB : Own Y1 W.heap.size (.slice ab nb cb) nb s.es := by
     have h := h34.b
     rw [← HE.out.2.2.2.2.2.2.1] at h
     exact h
    have hWY1 : W.heap.size ≤ Y1.heap.size := h34.bel.size
    have HA1 := Lib.hid (And.intro h34 (And.intro rdU ownB))
    clear HU ownU b3 h34 rdU ownB
    go_wp2_with (first | (have Y := H3e; go_at_call 60; fail) | (at_builtin; refine wpList_append_keep rfl _ _ rfl W.heap.size _ _ _ _ rfl HA1.out.2.2 _ _ _ _ rfl HA1.out.2.1 (by omega) hWY1 ?_; intro a5 c5 Y2 g5; have O5 := Lib.hid g5.new; have H3e := Lib.hid (HA1.out.1.growB g5 (uintL_bys _ (by omega))); clear g5))
    have rdK : Rd Y2 (.slice (some ⟨gk, 0, none⟩) mk ck) K := by
     have h := H3e.out.l
     rw [← hmk.out] at h
     exact h.rd H3e.out.by3 (by have := hmk.out; omega)
    have rdKs : Rd Y2 (.slice (some ⟨gk, cm, none⟩) (mk - cm) (ck - cm)) (K.drop cm) := by
     have h := rdK.past cm (by omega) (off' := 0 + cm) (n' := mk - cm) (cap' := ck - cm) rfl rfl rfl
     simpa using h
    have HB1 := Lib.hid (refBytes_any rdKs (by rw [List.length_drop]; omega))
    have HBk : Hid (Bys (bytesL (K.drop cm))) := bytesL_bys rdKs.1 (by rw [List.length_drop]; omega)
    clear rdK rdKs HA1
    refine Calls.mono HB1.out ?_
    rintro z Y3 ⟨aw, mw, cw, rfl, ownW, b5⟩
    have hmw : Hid (mw = (bytesL (K.drop cm)).length) := ownW.1
    have hmw3 : mw ≤ 3000 := by
     have h1 := bytesL_len (K.drop cm)
     rw [← hmw.out, List.length_drop] at h1
     omega
    have rdW : Rd Y3 (.slice aw mw cw) (bytesL (K.drop cm)) := ownW.rd HBk.out (by omega)
    have h35 := H3e.out.later b5
    have ownB : Own Y3 W.heap.size (.slice a5 (nb + mu) c5) (nb + mu) (s.es ++ uintL cm) := O5.out.later b5
    have hWY3 : W.heap.size ≤ Y3.heap.size := h35.bel.size
    have HA3 := Lib.hid (And.intro h35 (And.intro rdW ownB))
    clear HB1 ownW b5 h35 rdW ownB H3e O5
    go_wp2_with (first | (have Y := H3g; go_at_call 60; fail) | (at_builtin; refine wpList_append_keep rfl _ _ rfl W.heap.size _ _ _ _ rfl HA3.out.2.2 _ _ _ _ rfl HA3.out.2.1 (by omega) hWY3 ?_; intro a7 c7 Y4 g7; have O7 := Lib.hid g7.new; have H3g := Lib.hid (HA3.out.1.growB g7 HBk.out); have f6 := (HVa.out _ H3g.out.bel).1; clear g7))
    have rdV := (HVa.out _ H3g.out.bel).2
    have hz3 : Hid (z3 = V.length) := HE.out.2.2.2.2.2.2.2.2.2
    have HB2 := Lib.hid (refBytes_any rdV (by rw [← hz3.out]; have := (rd_lens rdV).1; omega))
    have HBv : Hid (Bys (bytesL V)) := bytesL_bys rdV.1 (by omega)
    clear rdV HA3 f6
    refine Calls.mono HB2.out ?_
    rintro z Y5 ⟨ax, mx, cx, rfl, ownX, b7⟩
    have hmx : Hid (mx = (bytesL V).length) := ownX.1
    have hmx5 : mx ≤ 5000 := by
     have h1 := bytesL_len V
     rw [← hmx.out] at h1
     omega
    have rdX : Rd Y5 (.slice ax mx cx) (bytesL V) := ownX.rd HBv.out (by omega)
    have h37 := H3g.out.later b7
    have ownB : Own Y5 W.heap.size (.slice a7 (nb + mu + mw) c7) (nb + mu + mw) (s.es ++ uintL cm ++ bytesL (K.drop cm)) := O7.out.later b7
    have hWY5 : W.heap.size ≤ Y5.heap.size := h37.bel.size
    have HA5 := Lib.hid (And.intro h37 (And.intro rdX ownB))
    clear HB2 ownX b7 h37 rdX ownB H3g O7
    go_wp2_with (at_builtin; refine wpList_append_keep rfl _ _ rfl W.heap.size _ _ _ _ rfl HA5.out.2.2 _ _ _ _ rfl HA5.out.2.1 (by omega) hWY5 ?_; intro a9 c9 Y6 g9; have H3i := Lib.hid (HA5.out.1.growB g9 HBv.out); clear g9)
    have HZ : Hid (Lz W r l Y6 (k + 1) (.slice a9 (nb + mu + mw + mx) c9) (.slice ap np cp) (.slice (some ⟨gk, 0, none⟩) mk ck) (nb + mu + mw + mx) (np) mk) := by
     obtain ⟨e1, e2, e3, e4, e5, e6, e7, e8, e9, e10⟩ := HE.out
     refine ⟨addB r s K V, by rw [kv_take e1 r, ← e4, e2, e3], ?_, ?_, ?_, ?_⟩
     ·simp only [addB, esOf, recL]
      rw [HShv.out, List.length_append, ← e7]
      have q1 := hmu.out
      have q2 := hmw.out
      have q3 := hmx.out
      unfold bytesL at q2 q3
      simp only [List.length_append] at q2 q3 ⊢
      omega
     ·simp only [addB]
      rw [HPs.out]
      have := e8
      exact this
     ·exact hmk.out
     ·have h := H3i.out
      have ee : (addB r s K V).es = s.es ++ uintL cm ++ bytesL (K.drop cm) ++ bytesL V := by
       simp only [addB, esOf, recL]
       rw [HShv.out]
       simp [bytesL]
      have ep : (addB r s K V).ps = s.ps := by simp only [addB]; exact HPs.out
      rw [ee, ep]
      exact h
    clear HA5 H3i
    go_wp2
    go_roundw
    case rel => exact ⟨k + 1, nb + mu + mw + mx, np, mk, a9, c9, _, _, _, _, by omega, by go_num, rfl, rfl, rfl, HZ⟩
    case measure => simp only [intOf]; omega
  ·have hge : ¬ (k : Int) < (N : Int) := by omega
   obtain rfl : k = N := by omega
   obtain ⟨s, hs, hnb, hnp, hnl, h3⟩ := HU.out.st
   rw [List.take_of_length_le (by rw [← HN.out]; exact Nat.le_refl _)] at hs
   have hE : s.es = E := by rw [hs]; exact HL.out.es.symm
   have hP : s.ps = P := by rw [hs]; exact HL.out.ps.symm
   rw [hE] at hnb h3
   rw [hP] at hnp h3
   have hnb17 : nb ≤ 262144 := by have := HEP.out; omega
   have hnp17 : np ≤ 262144 := by have := HEP.out; omega
   have hsz : nb + np + 9 ≤ 262144 := by have := HEP.out; omega
   have ownB : Own wr W.heap.size (.slice ab nb cb) nb E := by
    have h := h3.b
    rw [← hnb] at h
    exact h
   have rdP : Rd wr (.slice ap np cp) P := h3.p.rd h3.by2 (by omega)
   have HA := Lib.hid (And.intro ownB rdP)
   have HB := Lib.hid h3.bel
   have HBy := Lib.hid (And.intro h3.by1 h3.by2)
   have hWw : W.heap.size ≤ wr.heap.size := h3.bel.size
   clear hs hnb hnp hnl h3 hE hP ownB rdP HU HSz
   go_wp2_with (first | (have Y := O1; go_at_call 86; fail) | (at_builtin; refine wpList_append_keep rfl _ _ rfl W.heap.size _ _ _ _ rfl HA.out.1 _ _ _ _ rfl HA.out.2 (by omega) hWw ?_; intro a1 c1 Y1 g1; have O1 := Lib.hid g1.new; have HB1 := Lib.hid (HB.out.grown g1.grown HB.out.size (fun k hk => (HA.out.1.2.lt k hk).1)); clear g1))
   refine Calls.mono (four5_any k (by omega) _) ?_
   rintro z Y2 ⟨af, mf, cf, rfl, ownF, b2⟩
   obtain rfl : mf = 4 := ownF.1
   have rdF : Rd Y2 (.slice af 4 cf) (be4 k) := ownF.rd (be4_bys k (by omega)) (by omega)
   have HA2 := Lib.hid (And.intro (O1.out.later b2) rdF)
   have HB2 := Lib.hid (HB1.out.trans (b2.mono HB1.out.size))
   have hWY2 : W.heap.size ≤ Y2.heap.size := HB2.out.size
   clear ownF b2 rdF O1 HB1 HA
   go_wp2_with (first | (have Y := O4; go_at_call 66; fail) | (have Y := O3; at_builtin; refine wpList_append_lit rfl _ _ rfl W.heap.size _ _ 1 _ _ [r] _ (by simp [bv]) rfl (by decide) rfl rfl O3.out (by omega) HB3.out.size ?_; intro a4 c4 Y4 g4; have O4 := Lib.hid g4.new; have HB4 := Lib.hid (HB3.out.grown g4.grown HB3.out.size (fun k hk => (O3.out.2.lt k hk).1)); clear g4) | (at_builtin; refine wpList_append_keep rfl _ _ rfl W.heap.size _ _ _ _ rfl HA2.out.1 _ _ _ _ rfl HA2.out.2 (by omega) hWY2 ?_; intro a3 c3 Y3 g3; have O3 := Lib.hid g3.new; have HB3 := Lib.hid (HB2.out.grown g3.grown HB2.out.size (fun k hk => (HA2.out.1.2.lt k hk).1)); clear g3))
   have hby : Bys (E ++ P ++ be4 k ++ [r]) := ((HBy.out.1.app HBy.out.2).app (be4_bys k (by omega))).app (fun x hx => by simp at hx; omega)
   have rd4 : Rd Y4 (.slice a4 (nb + np + 4 + 1) c4) (E ++ P ++ be4 k ++ [r]) := O4.out.rd hby (by omega)
   have HSe := Lib.hid (sealed_any rd4)
   clear rd4
   refine Calls.mono HSe.out ?_
   rintro z Y5 ⟨as_, ms, cs, rfl, ownS, b5⟩
   obtain rfl : ms = 4 := ownS.1
   have rdS : Rd Y5 (.slice as_ 4 cs) (le4 (sumL (E ++ P ++ be4 k ++ [r]))) := ownS.rd (le4_bys _ (sumL_lt _)) (by omega)
   have HA5 := Lib.hid (And.intro (O4.out.later b5) rdS)
   have HB5 := Lib.hid (HB4.out.trans (b5.mono HB4.out.size))
   have hWY5 : W.heap.size ≤ Y5.heap.size := HB5.out.size
   clear ownS b5 rdS O4 HB4 HA2 HSe
   go_wp2_with (at_builtin; refine wpList_append_keep rfl _ _ rfl W.heap.size _ _ _ _ rfl HA5.out.1 _ _ _ _ rfl HA5.out.2 (by omega) hWY5 ?_; intro a6 c6 Y6 g6; have O6 := Lib.hid g6.new; have HB6 := Lib.hid (HB5.out.grown g6.grown HB5.out.size (fun k hk => (HA5.out.1.2.lt k hk).1)); clear g6)
   go_ret
   exact ⟨a6, nb + np + 4 + 1 + 4, c6, rfl, O6.out, HB6.out⟩
end Go.Proofs.YtchebhafabhabaaGreatDoor

namespace Go.Proofs.YtchebhafabhabaaGreatDoor
open Go.RowKit Go.Shelf
set_option linter.unusedVariables false

theorem rdl5_three (w : World) (x y z : EntD) (hx : EntD.Ok w x) (hy : EntD.Ok w y) (hz : EntD.Ok w z) (g : Nat) (hg : g = w.heap.size) : RdL5 (w.alloc (.cells #[x.vr, .int .i64 x.fam, x.vq, .int .i64 x.ts, .int .i64 x.seq, .int .i64 x.kind, x.vv, y.vr, .int .i64 y.fam, y.vq, .int .i64 y.ts, .int .i64 y.seq, .int .i64 y.kind, y.vv, z.vr, .int .i64 z.fam, z.vq, .int .i64 z.ts, .int .i64 z.seq, .int .i64 z.kind, z.vv] 40)) (some ⟨g, 0, none⟩) 3 [x, y, z] := by
 subst hg
 have hb := (Below.refl w.heap.size w).alloc (Nat.le_refl _) (.cells #[x.vr, .int .i64 x.fam, x.vq, .int .i64 x.ts, .int .i64 x.seq, .int .i64 x.kind, x.vv, y.vr, .int .i64 y.fam, y.vq, .int .i64 y.ts, .int .i64 y.seq, .int .i64 y.kind, y.vv, z.vr, .int .i64 z.fam, z.vq, .int .i64 z.ts, .int .i64 z.seq, .int .i64 z.kind, z.vv] 40)
 refine ⟨⟨by simp, by unfold maxLen; omega⟩, .inr ⟨w.heap.size, 0, rfl, fun i e hi j u hj => ?_⟩, fun e he => ?_, fun h => by cases h⟩
 ·have hj7 : j < 7 := by
   have := (List.getElem?_eq_some_iff.1 hj).1
   simpa [EntD.cells] using this
  have hi3 : i < 3 := by
   have := (List.getElem?_eq_some_iff.1 hi).1
   simpa using this
  have hn := heap_alloc_new w (.cells #[x.vr, .int .i64 x.fam, x.vq, .int .i64 x.ts, .int .i64 x.seq, .int .i64 x.kind, x.vv, y.vr, .int .i64 y.fam, y.vq, .int .i64 y.ts, .int .i64 y.seq, .int .i64 y.kind, y.vv, z.vr, .int .i64 z.fam, z.vq, .int .i64 z.ts, .int .i64 z.seq, .int .i64 z.kind, z.vv] 40)
  simp only [World.cell?, hn]
  match i, hi3, hi with
  | 0, _, hi =>
   simp at hi; subst hi
   match j, hj7, hj with
   | 0, _, hj | 1, _, hj | 2, _, hj | 3, _, hj | 4, _, hj | 5, _, hj | 6, _, hj => simpa [EntD.cells] using hj
  | 1, _, hi =>
   simp at hi; subst hi
   match j, hj7, hj with
   | 0, _, hj | 1, _, hj | 2, _, hj | 3, _, hj | 4, _, hj | 5, _, hj | 6, _, hj => simpa [EntD.cells] using hj
  | 2, _, hi =>
   simp at hi; subst hi
   match j, hj7, hj with
   | 0, _, hj | 1, _, hj | 2, _, hj | 3, _, hj | 4, _, hj | 5, _, hj | 6, _, hj => simpa [EntD.cells] using hj
 ·simp only [List.mem_cons, List.not_mem_nil, or_false] at he
  rcases he with rfl | rfl | rfl
  ·exact hx.later hb
  ·exact hy.later hb
  ·exact hz.later hb
theorem fold_bys (r : Nat) : ∀ (l : List (List Nat × List Nat)) (s : Bs), (∀ kv ∈ l, Bys kv.1 ∧ Bys kv.2 ∧ kv.1.length < 18446744073709551616 ∧ kv.2.length < 18446744073709551616) → Bys s.es → Bys s.ps → (foldB r s l).es.length < 4294967296 → Bys (foldB r s l).es ∧ Bys (foldB r s l).ps
 | [], s, _, h1, h2, _ => ⟨h1, h2⟩
 | kv :: t, s, hk, h1, h2, hl => by
  obtain ⟨m, hm⟩ := foldB_es r (kv :: t) s
  have hs : s.es.length < 4294967296 := by rw [hm] at hl; simp at hl; omega
  obtain ⟨b1, b2, l1, l2⟩ := hk kv (by simp)
  simp only [foldB] at *
  refine fold_bys r t _ (fun x hx => hk x (by simp [hx])) ?_ ?_ hl
  ·simp only [addB, esOf, recL]
   have hsh : shOf r s kv.1 ≤ kv.1.length := by unfold shOf; split; omega; exact (comL_le _ _).2
   refine h1.app ((uintL_bys _ (by omega)).app ((uintL_bys _ (by rw [List.length_drop]; omega)).app (Bys.app (fun x hx => b1 x (List.mem_of_mem_drop hx)) ((uintL_bys _ l2).app b2))))
  ·simp only [addB, psOf]
   split
   ·exact h2.app (be4_bys _ hs)
   ·exact h2
theorem Blad.bys {r : Nat} {l : List (List Nat × List Nat)} {E P : List Nat} (h : Blad r l E P) (hk : ∀ kv ∈ l, Bys kv.1 ∧ Bys kv.2 ∧ kv.1.length < 18446744073709551616 ∧ kv.2.length < 18446744073709551616) : Bys (blockL E P l.length r) := by
 have hs := h.size
 obtain ⟨h1, h2⟩ := fold_bys r l Bs.zero hk (fun x hx => by cases hx) (fun x hx => by cases hx) (by rw [← h.es]; omega)
 rw [← h.es] at h1
 rw [← h.ps] at h2
 have := h.few
 have := h.r16
 unfold blockL bodyL
 exact (((h1.app h2).app (be4_bys _ (by omega))).app (fun x hx => by simp at hx; omega)).app (le4_bys _ (sumL_lt _))
theorem RdL5.bys {w : World} {a : Option Addr} {kp : Nat} {l : List EntD} (h : RdL5 w a kp l) (hc : ∀ e ∈ l, checkS e = 0) : ∀ kv ∈ kvL l, Bys kv.1 ∧ Bys kv.2 ∧ kv.1.length < 18446744073709551616 ∧ kv.2.length < 18446744073709551616 := by
 intro kv hkv
 obtain ⟨e, he, rfl⟩ := List.mem_map.1 hkv
 have hok := h.ok e he
 have hc0 := hc e he
 refine ⟨keyL_bys hok.1.1 hok.2.1.1 hc0, hok.2.2.1, ?_, ?_⟩
 ·have := keyL_len hc0; simp only; omega
 ·have := (check_facts hc0).2.2.2.2.2.2.2.1; simp only; omega
set_option maxRecDepth 100000 in
set_option maxHeartbeats 4000000 in
theorem told5_any (w : World) (ht : Tab w) : Calls Tryz.prog 7 #[] w fun e w' => e = .returned (.bool true) ∧ Below w.heap.size w w' := by
 have HT := Lib.hid ht
 clear ht
 go_enter Tryz.func7, Tryz.ntmps7
 go_wp2_with fail
 refine Calls.mono (at_any 5 w) ?_
 rintro z X1 ⟨vr1, vq1, vv1, rfl, ok1, b1⟩
 obtain ⟨a1, k1, c1, e1⟩ := rd_slice ok1.1
 obtain ⟨aq1, kq1, cq1, eq1⟩ := rd_slice ok1.2.1
 obtain ⟨av1, kv1, cv1, ev1⟩ := rd_slice ok1.2.2
 simp only [atD] at e1 eq1 ev1
 subst e1 eq1 ev1
 simp only [atD, EntD.cells]
 go_wp2_with fail
 refine Calls.mono (at_any 4 X1) ?_
 rintro z X2 ⟨vr2, vq2, vv2, rfl, ok2, b2⟩
 obtain ⟨a2, k2, c2, e2⟩ := rd_slice ok2.1
 obtain ⟨aq2, kq2, cq2, eq2⟩ := rd_slice ok2.2.1
 obtain ⟨av2, kv2, cv2, ev2⟩ := rd_slice ok2.2.2
 simp only [atD] at e2 eq2 ev2
 subst e2 eq2 ev2
 simp only [atD, EntD.cells]
 go_wp2_with fail
 refine Calls.mono (at_any 3 X2) ?_
 rintro z X3 ⟨vr3, vq3, vv3, rfl, ok3, b3⟩
 obtain ⟨a3, k3, c3, e3⟩ := rd_slice ok3.1
 obtain ⟨aq3, kq3, cq3, eq3⟩ := rd_slice ok3.2.1
 obtain ⟨av3, kv3, cv3, ev3⟩ := rd_slice ok3.2.2
 simp only [atD] at e3 eq3 ev3
 subst e3 eq3 ev3
 simp only [atD, EntD.cells]
 have bX3 : Below w.heap.size w X3 := (b1.trans (b2.mono b1.size)).trans (b3.mono (Nat.le_trans b1.size b2.size))
 have hrd := rdl5_three X3 _ _ _ ((ok1.later b2).later b3) (ok2.later b3) ok3 X3.heap.size rfl
 simp only [atD] at hrd
 have bX4 := bX3.alloc bX3.size (.cells #[.slice a1 k1 c1, .int .i64 0, .slice aq1 kq1 cq1, .int .i64 5, .int .i64 32, .int .i64 1, .slice av1 kv1 cv1, .slice a2 k2 c2, .int .i64 0, .slice aq2 kq2 cq2, .int .i64 4, .int .i64 32, .int .i64 1, .slice av2 kv2 cv2, .slice a3 k3 c3, .int .i64 0, .slice aq3 kq3 cq3, .int .i64 3, .int .i64 32, .int .i64 1, .slice av3 kv3 cv3] 40)
 obtain ⟨X4, hX4⟩ : ∃ X4, X4 = X3.alloc (.cells #[.slice a1 k1 c1, .int .i64 0, .slice aq1 kq1 cq1, .int .i64 5, .int .i64 32, .int .i64 1, .slice av1 kv1 cv1, .slice a2 k2 c2, .int .i64 0, .slice aq2 kq2 cq2, .int .i64 4, .int .i64 32, .int .i64 1, .slice av2 kv2 cv2, .slice a3 k3 c3, .int .i64 0, .slice aq3 kq3 cq3, .int .i64 3, .int .i64 32, .int .i64 1, .slice av3 kv3 cv3] 40) := ⟨_, rfl⟩
 rw [← hX4] at hrd bX4
 have hrd2 : RdL5 X4 (some ⟨X3.heap.size, 0, none⟩) 3 [(atD (.slice a1 k1 c1) (.slice aq1 kq1 cq1) (.slice av1 kv1 cv1) 5), (atD (.slice a2 k2 c2) (.slice aq2 kq2 cq2) (.slice av2 kv2 cv2) 4), (atD (.slice a3 k3 c3) (.slice aq3 kq3 cq3) (.slice av3 kv3 cv3) 3)] := hrd
 obtain ⟨l, hl⟩ : ∃ l, l = [(atD (.slice a1 k1 c1) (.slice aq1 kq1 cq1) (.slice av1 kv1 cv1) 5), (atD (.slice a2 k2 c2) (.slice aq2 kq2 cq2) (.slice av2 kv2 cv2) 4), (atD (.slice a3 k3 c3) (.slice aq3 kq3 cq3) (.slice av3 kv3 cv3) 3)] := ⟨_, rfl⟩
 have hat := at_list (.slice a1 k1 c1) (.slice aq1 kq1 cq1) (.slice av1 kv1 cv1) (.slice a2 k2 c2) (.slice aq2 kq2 cq2) (.slice av2 kv2 cv2) (.slice a3 k3 c3) (.slice aq3 kq3 cq3) (.slice av3 kv3 cv3)
 have hl3 : l.length = 3 := by rw [hl]; rfl
 have hl1 : l[1]? = some (atD (.slice a2 k2 c2) (.slice aq2 kq2 cq2) (.slice av2 kv2 cv2) 4) := by rw [hl]; rfl
 rw [← hl] at hrd2 hat
 have hla : Blad 2 (kvL l) (bldS 2 Bs.zero l).2.es (bldS 2 Bs.zero l).2.ps := laid_of (by omega) (by omega) hat.2.2 (by rw [hl]; simp)
 obtain ⟨E, hE⟩ : ∃ E, E = (bldS 2 Bs.zero l).2.es := ⟨_, rfl⟩
 obtain ⟨P, hP⟩ : ∃ P, P = (bldS 2 Bs.zero l).2.ps := ⟨_, rfl⟩
 have hbn : (bldS 2 Bs.zero l).2.n = 3 := by rw [bldS_n 2 l Bs.zero hat.2.2, hl3]; rfl
 have hTX4 : Tab X4 := HT.out.later bX4
 have hbu := build_any 2 hrd2 hTX4
 have hrb := fun (wx : World) (hx : Below X4.heap.size X4 wx) => Calls.mono (refBuild5_any (r := 2) (hrd2.later hx) (by decide) (by decide) (by omega)) (fun x w' h => rbp_of h hat.2.2 (by rw [hl]; simp))
 rw [hl3] at hbu
 simp only [hl3] at hrb
 rw [← hE, ← hP] at hla
 simp only [← hE, ← hP] at hrb
 have hby : Hid (Bys (blockL E P 3 2)) := by
  have h := hla.bys (hrd2.bys hat.1)
  rw [kvL_len, hl3] at h
  exact h
 have HBu := Lib.hid hbu
 have HRb := Lib.hid hrb
 have HLa := Lib.hid hla
 have HX4 := Lib.hid hX4
 have HB4 := Lib.hid bX4
 have HT4 := Lib.hid hTX4
 have HAt := Lib.hid (And.intro hat (And.intro hE (And.intro hP (And.intro hbn (And.intro hl3 (And.intro hl1 (show l ≠ [] by rw [hl]; simp)))))))
 clear ok1 ok2 ok3 b1 b2 b3 bX3 hrd bX4 hX4 hrd2 hl hat hl3 hl1 hla hE hP hbn hTX4 hbu hrb
 go_wp2_with fail
 rw [← HX4.out]
 clear HX4
 refine Calls.mono HBu.out ?_
 rintro z X5 ⟨v5, E5, rfl, b5, -, -, -, h5⟩
 obtain ⟨rfl, a5, m5, c5, rfl, own5⟩ := h5 (by omega) HAt.out.1.2.2 HAt.out.2.2.2.2.2.2
 have own5b : Own X5 X4.heap.size (.slice a5 m5 c5) m5 (blockL E P 3 2) := by
  have h := own5
  rw [show (2 : Int).toNat = 2 from rfl, ← HAt.out.2.1, ← HAt.out.2.2.1, HAt.out.2.2.2.1] at h
  exact h
 have hm5 : Hid (m5 = E.length + P.length + 9) := by unfold Hid; rw [own5b.1, blockL_len]
 have hEP := HLa.out.size
 have hm17 : m5 ≤ 131072 := by rw [hm5.out]; omega
 have HB5 := Lib.hid b5
 have HO5 := Lib.hid own5b
 have HRb5 := Lib.hid (HRb.out X5 b5)
 clear h5 own5 own5b b5 HRb HBu hEP
 go_wp2_with fail
 refine Calls.mono HRb5.out ?_
 rintro z X6 ⟨a6, m6, c6, rfl, own6, b6⟩
 have HB6 := Lib.hid b6
 have HRd := Lib.hid (And.intro ((HO5.out.later b6).rd hby.out (by omega)) (own6.rd hby.out (by rw [own6.1, ← HO5.out.1]; omega)))
 clear own6 b6 HRb5
 have HBg := Lib.hid (begin_any 2 X6)
 go_wp2_with fail
 refine Calls.mono HBg.out ?_
 rintro z X7 ⟨b7, h | h⟩
 ·exact absurd (by omega) h.1
 obtain ⟨-, g7, hg7, rfl, -⟩ := h
 have HB7 := Lib.hid b7
 have HSm := Lib.hid (same5_any (HRd.out.1.later b7) (HRd.out.2.later b7))
 rw [decide_eq_true rfl] at HSm
 clear hg7 b7 HBg
 go_wp2_with fail
 refine Calls.mono HSm.out ?_
 rintro z X8 ⟨rfl, b8⟩
 have hB8 : Below w.heap.size w X8 := (((HB4.out.trans (HB5.out.mono HB4.out.size)).trans (HB6.out.mono (Nat.le_trans HB4.out.size HB5.out.size))).trans (HB7.out.mono (Nat.le_trans HB4.out.size (Nat.le_trans HB5.out.size HB6.out.size)))).trans (b8.mono (Nat.le_trans HB4.out.size (Nat.le_trans HB5.out.size (Nat.le_trans HB6.out.size HB7.out.size))))
 have HB8 := Lib.hid hB8
 have HOp := Lib.hid (open_any ((HRd.out.1.later HB7.out).later b8) (HT.out.later hB8))
 clear b8 hB8 HSm HRd
 go_wp2_with fail
 refine Calls.mono HOp.out ?_
 rintro z X9 ⟨b9, h⟩
 obtain ⟨o1, o2, o3, o4, o5⟩ := HLa.out.opens
 rw [kvL_len, HAt.out.2.2.2.2.1] at o1 o2 o3 o4 o5
 rcases h with h | h
 ·exact absurd o1 h.1
 obtain ⟨-, g, bb, ne, ce, np, cp, rfl, lk⟩ := h
 rw [o2, o3, o4, o5] at lk
 have HLk := Lib.hid lk
 have HB9 := Lib.hid (HB8.out.trans (b9.mono HB8.out.size))
 have HLn := Lib.hid (len5_any lk.box)
 clear lk b9 o1 o2 o3 o4 o5 HOp
 go_wp2_with fail
 refine Calls.mono HLn.out ?_
 rintro z X10 ⟨rfl, rfl⟩
 have hk3 : Lk X10 X8.heap.size g 2 (kvL l).length bb ne ce E P np cp := by rw [kvL_len, HAt.out.2.2.2.2.1]; exact HLk.out
 have hnl : notLow 2 (kvL l) [] 0 = true := by
  unfold notLow
  rw [decide_eq_true_iff]
  cases h : ((kvL l)[0 * 2]?.getD ([], [])).1 with
  | nil => simp [ordC]
  | cons x t => simp [ordC]
 have HSk := Lib.hid (seek_first HLa.out hk3 (Rd.nil X10) hnl)
 clear HLn hk3 hnl
 go_wp2_with fail
 refine Calls.mono HSk.out ?_
 rintro z X11 ⟨rfl, b11⟩
 have HB11 := Lib.hid (HB9.out.trans (b11.mono HB9.out.size))
 have hLk11 : Lk X11 X8.heap.size g 2 3 bb ne ce E P np cp := ⟨HLk.out.box.later b11, HLk.out.ents.later b11, HLk.out.pls.later b11, HLk.out.bg, HLk.out.bb, HLk.out.ne⟩
 have HLk11 := Lib.hid hLk11
 have HAl := Lib.hid (all5_any (w := X11) (g := g))
 clear b11 HSk hLk11 HLk
 have hsq := seq_nil5 73
 go_wp2_with fail
 refine Calls.mono HAl.out ?_
 rintro z X12 ⟨rfl, hX12⟩
 have b12 : Below X11.heap.size X11 X12 := by rw [hX12]; exact (Below.refl _ _).alloc (Nat.le_refl _) _
 have HB12 := Lib.hid (HB11.out.trans (b12.mono HB11.out.size))
 have hk12 : Lk X12 X8.heap.size g 2 (kvL l).length bb ne ce E P np cp := by rw [kvL_len, HAt.out.2.2.2.2.1]; exact ⟨HLk11.out.box.later b12, HLk11.out.ents.later b12, HLk11.out.pls.later b12, HLk11.out.bg, HLk11.out.bb, HLk11.out.ne⟩
 have HA1 := Lib.hid (atB_any HLa.out hk12 1)
 clear hX12 b12 HAl hk12
 go_wp2_with fail
 refine Calls.mono HA1.out ?_
 rintro z X13 ⟨b13, h | h⟩
 ·exact absurd ⟨by omega, by rw [kvL_len, HAt.out.2.2.2.2.1]; omega⟩ h.1
 obtain ⟨-, kv, y, hkv, rfl, yok, yc, yk, yv, -⟩ := h
 have hsame : Hid (∀ p q u, EntD.Same y (atD p q u 4)) := fun p q u => by
  have h1 : kvL l = l.map fun e => (keyL e, e.val) := rfl
  have h2 := hkv
  rw [h1, List.getElem?_map, show (1 : Int).toNat = 1 from rfl, HAt.out.2.2.2.2.2.1] at h2
  simp only [Option.map_some, Option.some.injEq] at h2
  subst h2
  exact same_key yc (check_at p q u 4 (by omega)) yk yv
 have HB13 := Lib.hid (HB12.out.trans (b13.mono HB12.out.size))
 obtain ⟨vy, fy, vyq, ty, sy, dy, vyv, ry, qy, ly⟩ := y
 have hy0 := yok
 simp only [EntD.Ok] at hy0
 obtain ⟨ay, ky, cy, rfl⟩ := rd_slice hy0.1
 obtain ⟨ayq, kyq, cyq, rfl⟩ := rd_slice hy0.2.1
 obtain ⟨ayv, kyv, cyv, rfl⟩ := rd_slice hy0.2.2
 have HY := Lib.hid yok
 have ebY := EBox.new X13 ⟨.slice ay ky cy, fy, .slice ayq kyq cyq, ty, sy, dy, .slice ayv kyv cyv, ry, qy, ly⟩
 have bY := (Below.refl X13.heap.size X13).alloc (Nat.le_refl _) (.cells (EntD.mk (.slice ay ky cy) fy (.slice ayq kyq cyq) ty sy dy (.slice ayv kyv cyv) ry qy ly).cells 40)
 simp only [EntD.cells] at ebY bY
 obtain ⟨X14, hX14⟩ : ∃ X14, X14 = X13.alloc (.cells #[.slice ay ky cy, .int .i64 fy, .slice ayq kyq cyq, .int .i64 ty, .int .i64 sy, .int .i64 dy, .slice ayv kyv cyv] 40) := ⟨_, rfl⟩
 rw [← hX14] at ebY bY
 have HX14 := Lib.hid hX14
 have HEb := Lib.hid ebY
 have HB14 := Lib.hid (HB13.out.trans (bY.mono HB13.out.size))
 have HY14 := Lib.hid (HY.out.later bY)
 have HOn := Lib.hid (open_any (Rd.nil X14) (HT.out.later HB14.out))
 clear hkv yok yc yk yv b13 hy0 ebY bY hX14 HA1 HY
 simp only [EntD.cells]
 go_upto_region 11 with fail
 rw [← HX14.out]
 clear HX14
 go_wp2_with fail
 refine Calls.mono HOn.out ?_
 rintro z X15 ⟨b15, h⟩
 have h51 : opE [] = 51 := opE_short (by simp)
 rw [h51] at h
 rcases h with h | h
 ·obtain ⟨-, rfl⟩ := h
  have HB15 := Lib.hid (HB14.out.trans (b15.mono HB14.out.size))
  have HEb15 := Lib.hid (HEb.out.later b15)
  have HY15 := Lib.hid (HY14.out.later b15)
  clear b15 h51 HOn HEb HY14
  go_upto_region 12 with fail
  have BD : Below X15.heap.size X15 X15.drew := (Below.refl _ _).drew
  refine wp_region_noPanic ?_
  refine wp_region_held_drew (S := fun wx => Below X15.heap.size X15 wx) (by kernel_rfl) BD (fun hHeld => ?_)
  refine wpAnyH_take (i := 0) (oi := { dst := some 83, op := _, type := _, pos := _, after := _, guard := _ }) (v := .int .i64 0) rfl (by kernel_rfl) (by kernel_rfl) (by kernel_rfl) (fun _ _ _ h => h) (Or.inl ⟨by kernel_rfl, fun wy hy => by (go_simp; first | done | omega)⟩) (by assumption) ?_
  try simp only [Act.put, List.setIfInBounds_toArray, List.set_cons_zero, List.set_cons_succ]
  refine wpAnyH_take (i := 1) (oi := { dst := some 84, op := _, type := _, pos := _, after := _, guard := _ }) (v := .bool true) rfl (by kernel_rfl) (by kernel_rfl) (by kernel_rfl) (fun _ _ _ h => h) (Or.inl ⟨by kernel_rfl, fun wy hy => by (go_simp; first | done | omega)⟩) (by assumption) ?_
  try simp only [Act.put, List.setIfInBounds_toArray, List.set_cons_zero, List.set_cons_succ]
  refine wpAnyH_take (i := 2) (oi := { dst := some 85, op := _, type := _, pos := _, after := _, guard := _ }) (v := .bool true) rfl (by kernel_rfl) (by kernel_rfl) (by kernel_rfl) (fun _ _ _ h => h) (Or.inl ⟨by kernel_rfl, fun wy hy => by (go_simp; first | done | omega)⟩) (by assumption) ?_
  try simp only [Act.put, List.setIfInBounds_toArray, List.set_cons_zero, List.set_cons_succ]
  refine wpAnyH_take (i := 3) (oi := { dst := some 86, op := _, type := _, pos := _, after := _, guard := _ }) (v := .agg #[.slice ay ky cy, .int .i64 fy, .slice ayq kyq cyq, .int .i64 ty, .int .i64 sy, .int .i64 dy, .slice ayv kyv cyv]) rfl (by kernel_rfl) (by kernel_rfl) (by kernel_rfl) (fun _ _ _ h => h) (Or.inl ⟨by kernel_rfl, fun wy hy => by (obtain ⟨g0, g1, g2, g3, g4, g5, g6⟩ := (HEb15.out.later hy).cells7; simp only at g0 g1 g2 g3 g4 g5 g6; go_simp; done)⟩) (by assumption) ?_
  try simp only [Act.put, List.setIfInBounds_toArray, List.set_cons_zero, List.set_cons_succ]
  refine wpAnyH_ready (rs := [4]) (by kernel_rfl) (by simp) ?_
  refine AllReadyH.cons (o := { dst := some 87, op := _, type := _, pos := _, after := _, guard := _ }) rfl (fun KK hK => ?_) AllReadyH.nil
  go_simp
  go_at_call 40
  refine (at_any 4 _).mono ?_
  rintro e9 Y1 ⟨vr4, vq4, vv4, rfl, ok4, b4⟩
  have bY1 : Below X15.heap.size X15 Y1 := BD.trans (b4.mono BD.size)
  obtain ⟨a4, k4, c4, e4⟩ := rd_slice ok4.1
  obtain ⟨aq4, kq4, cq4, eq4⟩ := rd_slice ok4.2.1
  obtain ⟨av4, kv4, cv4, ev4⟩ := rd_slice ok4.2.2
  simp only [atD] at e4 eq4 ev4
  subst e4 eq4 ev4
  have hse := se_any (HY15.out.later bY1) ok4
  rw [decide_eq_true (hsame.out _ _ _)] at hse
  have HSe := Lib.hid hse
  simp only [atD, EntD.cells] at HSe ⊢
  clear ok4 b4 BD hse
  go_wp2_with fail
  refine hK.out _ _ bY1 (fun hHeld => ?_)
  clear hK
  try simp only [Act.put, List.setIfInBounds_toArray, List.set_cons_zero, List.set_cons_succ]
  refine wpAnyH_ready (rs := [5]) (by kernel_rfl) (by simp) ?_
  refine AllReadyH.cons (o := { dst := some 88, op := _, type := _, pos := _, after := _, guard := _ }) rfl (fun KK hK => ?_) AllReadyH.nil
  go_simp
  go_at_call 33
  refine HSe.out.mono ?_
  rintro e9 Y2 ⟨rfl, b2⟩
  have bY2 : Below X15.heap.size X15 Y2 := bY1.trans (b2.mono bY1.size)
  clear b2 HSe
  go_wp2_with fail
  refine hK.out _ _ bY2 (fun hHeld => ?_)
  clear hK
  try simp only [Act.put, List.setIfInBounds_toArray, List.set_cons_zero, List.set_cons_succ]
  refine wpAnyH_take (i := 6) (oi := { dst := some 89, op := _, type := _, pos := _, after := _, guard := _ }) (v := .bool true) rfl (by kernel_rfl) (by kernel_rfl) (by kernel_rfl) (fun _ _ _ h => h) (Or.inl ⟨by kernel_rfl, fun wy hy => by (go_simp; first | done | omega)⟩) (by assumption) ?_
  try simp only [Act.put, List.setIfInBounds_toArray, List.set_cons_zero, List.set_cons_succ]
  refine wpAnyH_take (i := 7) (oi := { dst := some 90, op := _, type := _, pos := _, after := _, guard := _ }) (v := .bool true) rfl (by kernel_rfl) (by kernel_rfl) (by kernel_rfl) (fun _ _ _ h => h) (Or.inl ⟨by kernel_rfl, fun wy hy => by (go_simp; first | done | omega)⟩) (by assumption) ?_
  try simp only [Act.put, List.setIfInBounds_toArray, List.set_cons_zero, List.set_cons_succ]
  refine wpAnyH_take (i := 8) (oi := { dst := some 91, op := _, type := _, pos := _, after := _, guard := _ }) (v := .pointer none) rfl (by kernel_rfl) (by kernel_rfl) (by kernel_rfl) (fun _ _ _ h => h) (Or.inl ⟨by kernel_rfl, fun wy hy => by (go_simp; first | done | omega)⟩) (by assumption) ?_
  try simp only [Act.put, List.setIfInBounds_toArray, List.set_cons_zero, List.set_cons_succ]
  refine wpAnyH_take (i := 9) (oi := { dst := some 92, op := _, type := _, pos := _, after := _, guard := _ }) (v := .bool true) rfl (by kernel_rfl) (by kernel_rfl) (by kernel_rfl) (fun _ _ _ h => h) (Or.inl ⟨by kernel_rfl, fun wy hy => by (go_simp; first | done | omega)⟩) (by assumption) ?_
  try simp only [Act.put, List.setIfInBounds_toArray, List.set_cons_zero, List.set_cons_succ]
  refine wpAnyH_take (i := 10) (oi := { dst := some 93, op := _, type := _, pos := _, after := _, guard := _ }) (v := .bool true) rfl (by kernel_rfl) (by kernel_rfl) (by kernel_rfl) (fun _ _ _ h => h) (Or.inl ⟨by kernel_rfl, fun wy hy => by (go_simp; first | done | omega)⟩) (by assumption) ?_
  try simp only [Act.put, List.setIfInBounds_toArray, List.set_cons_zero, List.set_cons_succ]
  refine wpAnyH_take (i := 11) (oi := { dst := some 94, op := _, type := _, pos := _, after := _, guard := _ }) (v := .bool true) rfl (by kernel_rfl) (by kernel_rfl) (by kernel_rfl) (fun _ _ _ h => h) (Or.inl ⟨by kernel_rfl, fun wy hy => by (go_simp; first | done | omega)⟩) (by assumption) ?_
  try simp only [Act.put, List.setIfInBounds_toArray, List.set_cons_zero, List.set_cons_succ]
  refine wpAnyH_take (i := 12) (oi := { dst := some 95, op := _, type := _, pos := _, after := _, guard := _ }) (v := .int .i64 51) rfl (by kernel_rfl) (by kernel_rfl) (by kernel_rfl) (fun _ _ _ h => h) (Or.inl ⟨by kernel_rfl, fun wy hy => by (go_simp; first | done | omega)⟩) (by assumption) ?_
  try simp only [Act.put, List.setIfInBounds_toArray, List.set_cons_zero, List.set_cons_succ]
  refine wpAnyH_take (i := 13) (oi := { dst := some 96, op := _, type := _, pos := _, after := _, guard := _ }) (v := .bool true) rfl (by kernel_rfl) (by kernel_rfl) (by kernel_rfl) (fun _ _ _ h => h) (Or.inl ⟨by kernel_rfl, fun wy hy => by (go_simp; first | done | omega)⟩) (by assumption) ?_
  try simp only [Act.put, List.setIfInBounds_toArray, List.set_cons_zero, List.set_cons_succ]
  refine wpAnyH_take (i := 14) (oi := { dst := some 97, op := _, type := _, pos := _, after := _, guard := _ }) (v := .bool true) rfl (by kernel_rfl) (by kernel_rfl) (by kernel_rfl) (fun _ _ _ h => h) (Or.inl ⟨by kernel_rfl, fun wy hy => by (go_simp; first | done | omega)⟩) (by assumption) ?_
  try simp only [Act.put, List.setIfInBounds_toArray, List.set_cons_zero, List.set_cons_succ]
  refine wpAnyH_take (i := 15) (oi := { dst := some 0, op := _, type := _, pos := _, after := _, guard := _ }) (v := .bool true) rfl (by kernel_rfl) (by kernel_rfl) (by kernel_rfl) (fun _ _ _ h => h) (Or.inl ⟨by kernel_rfl, fun wy hy => by (go_simp; first | done | omega)⟩) (by assumption) ?_
  try simp only [Act.put, List.setIfInBounds_toArray, List.set_cons_zero]
  refine wpAnyH_done (by kernel_rfl) (NoPanic.normal ?_) _
  have HBE := Lib.hid (HB15.out.trans (bY2.mono HB15.out.size))
  clear hHeld bY2
  go_simp
  go_step
  go_wp2
  go_ret
  exact ⟨rfl, HBE.out⟩
 ·exact absurd h.1 (by decide)
end Go.Proofs.YtchebhafabhabaaGreatDoor

namespace Go.Proofs.YtchebhafabhabaaGreatDoor
open Go.RowKit Go.Shelf
set_option linter.unusedVariables false

theorem und_ents5 : Tryz.prog.underlying 22 = some (.slice 40) := by kernel_rfl
theorem info_ent5 : (Tryz.prog.info? 40).map (fun i => (i.zero, i.size, i.bytes)) = some (some (.agg #[.slice none 0 0, .int .i64 0, .slice none 0 0, .int .i64 0, .int .i64 0, .int .i64 0, .slice none 0 0]), 7, 104) := by kernel_rfl
def evals5 (xs : List EntD) : List Value := (xs.map fun e => e.cells.toList).flatten
theorem rows_form5 {w : World} {v : Value} {B n : Nat} {vs : List Value} (h : w.ownsRow B 40 7 v n vs) : ∃ a c, v = .slice a n c := by
 rcases h.2 with ⟨h1, h2⟩ | ⟨g, cap, cur, h1, _⟩
 ·exact ⟨none, 0, by rw [h1, h2]⟩
 ·exact ⟨_, _, h1⟩
theorem EntD.cells5_len (x : EntD) : x.cells.toList.length = 7 := rfl
theorem evals5_cons (y : EntD) (ys : List EntD) : evals5 (y :: ys) = y.cells.toList ++ evals5 ys := by simp [evals5]
theorem evals5_len (xs : List EntD) : (evals5 xs).length = xs.length * 7 := by
 induction xs with
 | nil => rfl
 | cons y ys ih => rw [evals5_cons, List.length_append, ih, EntD.cells5_len, List.length_cons]; omega
theorem evals5_at {xs : List EntD} {i : Nat} {x : EntD} (h : xs[i]? = some x) {j : Nat} {u : Value} (hj : x.cells.toList[j]? = some u) : (evals5 xs)[i * 7 + j]? = some u := by
 have j7 : j < 7 := by have := (List.getElem?_eq_some_iff.1 hj).1; rwa [EntD.cells5_len] at this
 induction xs generalizing i with
 | nil => simp at h
 | cons y ys ih =>
  rw [evals5_cons]
  cases i with
  | zero =>
   simp only [List.getElem?_cons_zero, Option.some.injEq] at h
   subst h
   rw [List.getElem?_append_left (by rw [EntD.cells5_len]; omega), Nat.zero_mul, Nat.zero_add]
   exact hj
  | succ i =>
   rw [List.getElem?_append_right (by rw [EntD.cells5_len]; omega), EntD.cells5_len]
   have : (i + 1) * 7 + j - 7 = i * 7 + j := by omega
   rw [this]
   exact ih (by simpa using h)
theorem row_cells5 {w : World} {B c : Nat} {a : Option Addr} {xs : List EntD} (h : w.ownsRow B 40 7 (.slice a xs.length c) xs.length (evals5 xs)) {i : Nat} {x : EntD} (hi : xs[i]? = some x) : ∃ g, a = some ⟨g, 0, none⟩ ∧ xs.length ≤ c ∧ c ≤ maxLen ∧ ∀ (j : Nat) u, x.cells.toList[j]? = some u → w.cell? ⟨g, i * 7 + j, none⟩ = some u := by
 have il := (List.getElem?_eq_some_iff.1 hi).1
 rcases h.2 with ⟨_, h2⟩ | ⟨g, cap, cur, h1, h2, h3, h4, h5, h6, h7⟩
 ·omega
 ·simp only [Value.slice.injEq] at h1
  obtain ⟨rfl, _, rfl⟩ := h1
  refine ⟨g, rfl, h4, h5, fun j u hj => ?_⟩
  have hv := evals5_at hi hj
  have hlt : i * 7 + j < xs.length * 7 := by
   have := (List.getElem?_eq_some_iff.1 hv).1
   rwa [evals5_len] at this
  rw [← h7, List.getElem?_take_of_lt hlt] at hv
  have e : cur[i * 7 + j]? = some u := by simpa using hv
  simp [World.cell?, h3, e]
theorem evals5_app (a b : List EntD) : evals5 (a ++ b) = evals5 a ++ evals5 b := by simp [evals5]
theorem evals5_get : ∀ {xs : List EntD} {j : Nat} {u : Value}, (evals5 xs)[j]? = some u → ∃ x, xs[j / 7]? = some x ∧ x.cells.toList[j % 7]? = some u
 | [], j, u, h => by simp [evals5] at h
 | x :: xs, j, u, h => by
  rw [evals5_cons] at h
  by_cases hj : j < 7
  ·rw [List.getElem?_append_left (show j < x.cells.toList.length from hj)] at h
   rw [Nat.div_eq_of_lt hj, Nat.mod_eq_of_lt hj]
   exact ⟨x, by simp, h⟩
  ·rw [List.getElem?_append_right (show x.cells.toList.length ≤ j from by show 7 ≤ j; omega)] at h
   have h' : (evals5 xs)[j - 7]? = some u := h
   obtain ⟨y, h1, h2⟩ := evals5_get h'
   have e1 : j / 7 = (j - 7) / 7 + 1 := by omega
   have e2 : j % 7 = (j - 7) % 7 := by omega
   rw [e1, e2]
   exact ⟨y, by simpa using h1, h2⟩
theorem wpl5_append_rd {w : World} {ops : Array Oper} {rest : List Oper} {o : Oper} {a : Act} {Q : Exit → Act → World → Prop} (hgd : o.guard = none) (s x : Operand)
  (ho : o.op = .call { callee := .builtin .append, args := #[s, x], argTypes := #[22, 22] })
  (B : Nat) (v : Value) (xs : List EntD) (hs : a.eval s = v) (hown : w.ownsRow B 40 7 v xs.length (evals5 xs))
  (ad : Option Addr) (m cap : Nat) (ys : List EntD) (hx : a.eval x = .slice ad m cap) (hm : m = ys.length) (hu : RdL5 w ad cap ys) (hone : ∀ y ∈ ys, ∀ u ∈ y.cells.toList, u.oneCell' = true) (hn : (xs.length + ys.length) * 104 ≤ 140737488355328) (hB : B ≤ w.heap.size)
  (h : ∀ a' n' c' w', n' = (xs ++ ys).length → w'.ownsRow B 40 7 (.slice a' n' c') (xs ++ ys).length (evals5 (xs ++ ys)) → w.grownBy w' v.ownBlock → wpList Tryz.prog ops Q rest (a.put o.dst (.slice a' n' c')) w') : wpList Tryz.prog ops Q (o :: rest) a w := by
 obtain ⟨i0, hi, hz0, hz1, hz2⟩ := info_parts info_ent5
 subst hm
 cases ad with
 | none =>
  have hz : ys = [] := by
   have := hu.cap.1
   rw [hu.nn rfl] at this
   exact List.eq_nil_of_length_eq_zero (by omega)
  subst hz
  obtain rfl := hu.nn rfl
  obtain ⟨a', c', rfl⟩ := rows_form5 hown
  refine wpList_append_own_none hgd s x 22 ho B 40 i0 7 und_ents5 hi _ _ _ hs hown (by simpa using hx) ?_
  exact h _ _ _ _ (by simp) (by simpa using hown) ⟨rfl, rfl, rfl, Nat.le_refl _, fun _ _ _ => rfl⟩
 | some ad =>
  refine wpList_append_own _ hgd s x 22 ho B 40 i0 _ 7 104 und_ents5 hi hz0 hz1 hz2 rfl (by decide) _ _ _ hs hown ad ys.length cap (evals5 ys) hx (evals5_len ys) (fun j u hj => ?_) (fun u hu => ?_) (by unfold maxLen; omega) (by omega) hB ?_
  ·obtain ⟨y, e1, e2⟩ := evals5_get hj
   rcases hu.at_ with h0 | ⟨b, off, eb, hc⟩
   ·rw [h0] at e1; simp at e1
   ·cases eb
    have e : (⟨b, off, none⟩ : Addr).add j = ⟨b, off + j, none⟩ := by unfold Addr.add; split <;> simp_all
    rw [e]
    have := hc _ y e1 _ _ e2
    rwa [show off + j / 7 * 7 + j % 7 = off + j from by omega] at this
  ·obtain ⟨j, hj⟩ := List.getElem?_of_mem hu
   obtain ⟨y, e1, e2⟩ := evals5_get hj
   exact hone y (List.mem_of_getElem? e1) u (List.mem_of_getElem? e2)
  ·intro v' w' k1 k2 k3
   rw [← evals5_app, ← List.length_append] at k1
   obtain ⟨a', c', rfl⟩ := rows_form5 k1
   exact h _ _ _ _ rfl k1 k2
theorem row_rdl5 {W : World} {N : Nat} {v : Value} {zs : List EntD} (h : W.ownsRow N 40 7 v zs.length (evals5 zs)) (hok : ∀ x ∈ zs, EntD.Ok W x) : ∃ a cap, v = .slice a zs.length cap ∧ RdL5 W a cap zs := by
 rcases h.2 with ⟨h1, h2⟩ | ⟨g, cap, cur, h1, h2, h3, h4, h5, h6, h7⟩
 ·have hz := List.eq_nil_of_length_eq_zero h2
  subst hz
  exact ⟨none, 0, h1, ⟨⟨Nat.le_refl _, Nat.zero_le _⟩, .inl rfl, hok, fun _ => rfl⟩⟩
 ·refine ⟨some ⟨g, 0, none⟩, cap, h1, ⟨⟨h4, h5⟩, ?_, hok, fun h => by cases h⟩⟩
  refine .inr ⟨g, 0, rfl, fun i x hi j u hj => ?_⟩
  have hr := h
  rw [h1] at hr
  obtain ⟨g2, e, _, _, hc⟩ := row_cells5 hr hi
  cases e
  rw [Nat.zero_add]
  exact hc j u hj
theorem RdL5.takeN {w : World} {a : Option Addr} {cap : Nat} {xs : List EntD} (h : RdL5 w a cap xs) (t : Nat) : RdL5 w a cap (xs.take t) := by
 refine ⟨⟨Nat.le_trans (List.length_take_le' _ _) h.cap.1, h.cap.2⟩, ?_, fun x hx => h.ok x (List.mem_of_mem_take hx), h.nn⟩
 rcases h.at_ with h1 | ⟨b, off, e, hc⟩
 ·exact .inl (by rw [h1]; simp)
 ·refine .inr ⟨b, off, e, fun i x hi => ?_⟩
  rw [List.getElem?_take] at hi
  split at hi
  ·exact hc i x hi
  ·cases hi
theorem RdL5.one {w : World} {x : EntD} (hx : EntD.Ok w x) : RdL5 (w.alloc (.cells x.cells 40)) (some ⟨w.heap.size, 0, none⟩) 1 [x] := by
 have hb := (Below.refl w.heap.size w).alloc (Nat.le_refl _) (.cells x.cells 40)
 refine ⟨⟨by simp, by unfold maxLen; omega⟩, .inr ⟨w.heap.size, 0, rfl, fun i e hi j u hj => ?_⟩, fun e he => ?_, fun h => by cases h⟩
 ·have hi0 : i = 0 := by
   have := (List.getElem?_eq_some_iff.1 hi).1
   simpa using this
  subst hi0
  simp at hi
  subst hi
  have hn := heap_alloc_new w (.cells x.cells 40)
  have h7 : x.cells[j]? = some u := by simpa using hj
  simp only [World.cell?, hn]
  rw [show 0 + 0 * 7 + j = j by omega]
  exact h7
 ·simp at he
  subst he
  exact hx.later hb
theorem one_cells {w : World} {x : EntD} (h : EntD.Ok w x) : ∀ u ∈ x.cells.toList, u.oneCell' = true := by
 obtain ⟨a1, n1, c1, e1⟩ := rd_slice h.1
 obtain ⟨a2, n2, c2, e2⟩ := rd_slice h.2.1
 obtain ⟨a3, n3, c3, e3⟩ := rd_slice h.2.2
 intro u hu
 simp only [EntD.cells, e1, e2, e3, List.mem_cons, List.not_mem_nil, or_false] at hu
 rcases hu with rfl | rfl | rfl | rfl | rfl | rfl | rfl <;> rfl
end Go.Proofs.YtchebhafabhabaaGreatDoor
