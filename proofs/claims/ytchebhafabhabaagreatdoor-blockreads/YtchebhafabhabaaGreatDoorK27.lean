import Derived.Test.YtchebhafabhabaaGreatDoorK26
import Derived.Test.YtchebhafabhabaaGreatDoorRows
import Derived.ProofKit
import Derived.OpenShut
import Derived.Deep.DeepHandedRow
import Derived.Lib.LaidTab
import Derived.Deep.Slices
namespace Go.Proofs.YtchebhafabhabaaGreatDoor
open Go.RowKit Go.Shelf
set_option linter.unusedVariables false
attribute [local go_sem] Oper.semAt_some

theorem wpIn_eq {F : Fence} {n : Nat} {P : Program} {c : Code} {Q : Exit → Act → World → Prop} {a : Act} {w : World} (Fr : Act) (h1 : c.wpIn F n P (fun e a' w' => match e with | .normal => a' = Fr ∧ Below w.heap.size w w' | _ => False) a w) (h2 : ∀ w', Below w.heap.size w w' → Q .normal Fr w') : c.wpIn F n P Q a w := by
 refine wpIn_mono h1 ?_
 intro e a' w' h
 cases e with
 | normal => obtain ⟨rfl, hb⟩ := h; exact h2 _ hb
 | panic c => exact h.elim
 | ret => exact h.elim
 | exit id => exact h.elim
 | goto t => exact h.elim
 | outgrown => exact h.elim
theorem ri_round {V X Y Y2 Y3 : World} {gF gi n : Nat} {FO F : Nat → Prop} {x : EntD} {pre : List EntD} (h : RI V X gF gi FO n F) (hXs : V.heap.size + 2 ≤ X.heap.size) (hbY : Below X.heap.size X Y) (fu2 : FuB Y2 gF (fun k => F k ∨ x.blk k ∨ (Y.heap.size ≤ k ∧ k < Y2.heap.size))) (f2 : Fb Y Y2 (fun k => F k ∨ x.blk k)) (hx : ∀ k, x.blk k → V.heap.size + 2 ≤ k) (hgi : gi < V.heap.size) (hF : ¬ FO gi) (b3 : Below Y2.heap.size Y2 Y3) (hn : n = pre.length) :
  RdF (fun (st : List EntD × (Nat → Prop)) X => RI V X gF gi FO st.1.length st.2) (fun st k => st.2 k ∨ k = gi) xbE (fun k => F k ∨ k = gi) pre x X (Y3.setCell ⟨gi, 0, none⟩ (.int .i64 ((n : Int) + 1))) := by
 have hs := hbY.size
 have h3 := (((h.later hbY).grow (by omega) fu2 f2 hx hgi hF).later b3).seti (m := n + 1) hgi hF
 refine ⟨fun k => F k ∨ x.blk k ∨ (Y.heap.size ≤ k ∧ k < Y2.heap.size), ?_, ?_, ?_⟩
 ·show RI V _ gF gi FO (pre ++ [x]).length _
  rw [List.length_append, ← hn]
  exact h3
 ·refine (((Fb.of_below hbY).trans (f2.mono ?_)).trans (Fb.of_below b3)).trans (Fb.set1 (.inl (.inr rfl)) _)
  rintro k _ (h | h)
  ·exact .inl (.inl h)
  ·exact .inr h
 ·rintro k ((h | h | h) | h)
  ·exact .inl (.inl h)
  ·exact .inr (.inl h)
  ·exact .inr (.inr (by omega))
  ·exact .inl (.inr h)
theorem ob_eq {gb n c k : Nat} (h : (Value.slice (some ⟨gb, 0, none⟩) n c).ownBlock = some k) : gb = k := Option.some.inj h
theorem reads_fin {W X0 V X Z : World} {gF gi n D D2 : Nat} {FO F : Nat → Prop} (hA0 : Below W.heap.size W X0) (hB0 : Below X0.heap.size X0 V) (hri : RI V X gF gi FO n F) (hFl : ∀ k, FO k → k < V.heap.size) (hlo : ∀ k, FO k → X0.heap.size ≤ k) (hg0 : X0.heap.size ≤ gi) (hgV : gi < V.heap.size) (hb6 : W.heap.size + 1 < X0.heap.size) (hD : D = V.heap.size) (hdf : X.heap[D]? = some (.deferred (some []))) (hf : Fb X Z (fun k => F k ∨ k = gi ∨ k = W.heap.size + 1)) (hc : Cell1B Z (W.heap.size + 1) (.bool true) 4) (hD2 : X.heap.size ≤ D2) (hdf2 : Z.heap[D2]? = some (.deferred (some []))) :
  (Z.putObj D2 (.deferred none)).heap[D]? = some (.deferred (some [])) ∧ ((Z.putObj D2 (.deferred none)).putObj D (.deferred none)).cell? ⟨W.heap.size + 1, 0, none⟩ = some (.bool true) ∧ Below W.heap.size W ((Z.putObj D2 (.deferred none)).putObj D (.deferred none)) := by
 have hlt : D < X.heap.size := (Array.getElem?_eq_some_iff.1 hdf).1
 have s0 := hA0.size
 have s1 := hB0.size
 have hZD : Z.heap[D]? = some (.deferred (some [])) := (hf.block D hlt (fun h => by
  rcases h with h | h | h
  ·rcases hri.new D h with k | k
   ·have := hFl D k; omega
   ·omega
  ·omega
  ·omega)).trans hdf
 have h1 : (Z.putObj D2 (.deferred none)).heap[D]? = some (.deferred (some [])) := (World.putObj_heap_other (by omega)).trans hZD
 have bV : Below W.heap.size W V := hA0.trans (hB0.mono s0)
 have bX : Below W.heap.size W X := bV.trans (hri.fb.belowB (fun k h => by
  rcases h with h | h
  ·have := hlo k h; omega
  ·omega) bV.size)
 have bZ : Below W.heap.size W Z := bX.trans (hf.belowB (fun k h => by
  rcases h with h | h | h
  ·rcases hri.new k h with j | j
   ·have := hlo k j; omega
   ·omega
  ·omega
  ·omega) bX.size)
 have b1 := bZ.trans (below_putB (.deferred none) bZ.size (by have := bX.size; omega) hdf2 rfl)
 refine ⟨h1, Cell1B.cell (t := 4) ((World.putObj_heap_other (by omega)).trans ((World.putObj_heap_other (by omega)).trans hc)), b1.trans (below_putB (.deferred none) b1.size (by omega) h1 rfl)⟩
set_option maxRecDepth 100000 in
set_option maxHeartbeats 8000000 in
theorem blockReads_walk {W : World} {vb : Value} {ak : Option Addr} {kn kc : Nat} {bs0 key : List Nat} {stop : Int} (hb : Rd W vb bs0) (hkey : Rd W (.slice ak kn kc) key) (ht : Tab W) :
  Calls Tryz.prog 4 #[vb, .slice ak kn kc, .int .i64 stop] W fun x w' => x = .returned (.bool true) ∧ Below W.heap.size W w' := by
 obtain ⟨ab, nb, cb, rfl⟩ := rd_slice hb
 obtain ⟨X0, hX0, A0, hsX, C5, C6⟩ := two_reads W stop
 have HX0 := Lib.hid hX0
 have HTo := Lib.hid (told5_any X0 (ht.later A0))
 have HTab := Lib.hid (ht.later A0)
 have HKey := Lib.hid (hkey.later A0)
 have HRb := Lib.hid (hb.later A0)
 have HC5 := Lib.hid C5
 have HC6 := Lib.hid C6
 have HA0 := Lib.hid A0
 have hmx : Tryz.prog.follows .mixedOrders = true := by kernel_rfl
 clear hX0 A0 C5 C6 hb hkey ht
 refine (callsIn_wide (n := 9)).1 ?_
 refine callsIn_of_wp_marks Tryz.func4 rfl trivial ?_ rfl
 simp only [Tryz.ntmps4, List.size_toArray, List.length_cons, List.length_nil, Nat.reduceAdd, Nat.reduceSub, Array.replicate_succ, Array.replicate_zero, List.push_toArray, List.append_toArray, List.nil_append, List.cons_append]
 gi_wp2_with fail
 rw [← HX0.out]
 clear HX0
 refine ⟨trivial, ?_⟩
 refine (callsIn_wide.2 HTo.out).mono ?_
 rintro z X1a ⟨rfl, b1⟩
 have HB1 := Lib.hid b1
 have HCut := Lib.hid (cut5_any 140000 (HRb.out.later b1))
 clear b1 HTo HRb
 gi_wp2_with fail
 refine ⟨trivial, ?_⟩
 refine (callsIn_wide.2 HCut.out).mono ?_
 rintro z X1 ⟨a1, n1, c1, rfl, rd1, hX1⟩
 subst hX1
 have hn1 : n1 ≤ 140000 := by have := (rd_lens rd1).1; rw [List.length_take] at this; omega
 have HLd := Lib.hid (laid5_any rd1 hn1)
 obtain ⟨bs, hbs⟩ : ∃ bs, bs = bs0.take 140000 := ⟨_, rfl⟩
 rw [← hbs] at HLd rd1
 have hbl : bs.length = n1 := (rd_lens rd1).1.symm
 have HBy := Lib.hid (And.intro rd1.1 hbl)
 clear rd1 HCut hbs hbl
 gi_wp2_with fail
 refine ⟨trivial, ?_⟩
 refine (callsIn_wide.2 HLd.out).mono ?_
 rintro z X2 ⟨u, rfl, hLu, b2⟩
 obtain ⟨gb, cb2, rfl, hou⟩ := laid_own hLu
 rw [HBy.out.2] at hLu hou
 have hr2 : Rd X2 (.slice (some ⟨gb, 0, none⟩) n1 cb2) bs := hLu.rd HBy.out.1 (by rw [HBy.out.2]; omega)
 have hgb : X1.heap.size ≤ gb ∧ gb < X2.heap.size := hou.2.lt gb rfl
 have HIn := Lib.hid (And.intro hLu (And.intro hou hr2))
 have HB2 := Lib.hid b2
 have HCp := Lib.hid (copied5_any hr2 (by rw [HBy.out.2]; omega))
 rw [HBy.out.2]
 clear hLu hou hr2 b2 HLd
 gi_wp2_with fail
 refine ⟨trivial, ?_⟩
 refine (callsIn_wide.2 HCp.out).mono ?_
 rintro z X3 ⟨a3, m3, c3, rfl, own3, b3⟩
 have HDp : Hid (Rd X3 (.slice a3 m3 c3) bs) := own3.rd HBy.out.1 (by have := own3.1; rw [HBy.out.2] at this; omega)
 have HB3 := Lib.hid b3
 have hTab3 : Tab X3 := ((HTab.out.later HB1.out).later HB2.out).later b3
 have HOp := Lib.hid (open_any (HIn.out.2.2.later b3) hTab3)
 clear own3 b3 HCp hTab3
 gi_wp2_with fail
 refine ⟨trivial, ?_⟩
 refine (callsIn_wide.2 HOp.out).mono ?_
 rintro z X4 ⟨b4, hop⟩
 have HB4 := Lib.hid b4
 clear b4 HOp
 by_cases h0 : opE bs = 0
 case neg =>
  as_aux_lemma =>
   rcases hop with ⟨-, rfl⟩ | ⟨h, -⟩
   case inr => exact absurd h h0
   obtain ⟨er, her⟩ : ∃ er, er = opE bs := ⟨_, rfl⟩
   rw [← her]
   obtain ⟨Y4, hY4, bY4, sY4, c9⟩ := new1 X4 (.pointer none) 58
   have HRo := Lib.hid (refOpen5_any ((HDp.out.later HB4.out).later bY4))
   have HY4 := Lib.hid hY4
   have HC9 := Lib.hid c9
   have HBY4 := Lib.hid bY4
   clear hY4 c9 bY4
   gi_wp2_with fail
   rw [← HY4.out]
   clear HY4
   refine ⟨trivial, ?_⟩
   refine (callsIn_wide.2 HRo.out).mono ?_
   rintro z X5 ⟨b5, ⟨-, rfl⟩ | ⟨h, -⟩⟩
   case inr => exact absurd h h0
   rw [← her]
   have her0 : ¬ er = 0 := by rw [her]; exact h0
   have her0i : ¬ (er : Int) = 0 := by omega
   have her0b : ((er : Int) != 0) = true := by simp; omega
   have her0c : ((er : Int) == 0) = false := by simp; omega
   obtain ⟨Y5, hY5, bY5, sY5, c11⟩ := new1 X5 (.slice none 0 0) 22
   have HY5 := Lib.hid hY5
   have hB45 : Below X4.heap.size X4 Y5 := (HBY4.out.trans (b5.mono HBY4.out.size)).trans (bY5.mono (by have := HBY4.out.size; have := b5.size; omega))
   have hB4Y : Below Y4.heap.size Y4 Y5 := b5.trans (bY5.mono b5.size)
   have hB35 : Below X3.heap.size X3 Y5 := HB4.out.trans (hB45.mono HB4.out.size)
   have hB25 : Below X2.heap.size X2 Y5 := HB3.out.trans (hB35.mono HB3.out.size)
   have hB02 : Below X0.heap.size X0 X2 := HB1.out.trans (HB2.out.mono HB1.out.size)
   have HInt := Lib.hid (intact5_any (HIn.out.1.later hB25) (HDp.out.later hB35) (by rw [HBy.out.2]; exact hn1))
   have HB05 := Lib.hid (hB02.trans (hB25.mono hB02.size))
   have HB4Y := Lib.hid hB4Y
   have c9y : (X5.alloc (.cells #[.slice none 0 0] 22)).cell? ⟨X4.heap.size, 0, none⟩ = some (.pointer none) := by rw [← hY5]; exact (HC9.out.later hB4Y).cell
   clear hY5 bY5 c11 hB25 hB35 hB45 hB4Y hB02 b5 HRo HDp hgb her h0
   gi_wp2_with fail
   rw [← HY5.out]
   clear HY5
   refine ⟨trivial, ?_⟩
   refine (callsIn_wide.2 HInt.out).mono ?_
   rintro z X6 ⟨rfl, b6⟩
   have hB06 : Below X0.heap.size X0 X6 := HB05.out.trans (b6.mono HB05.out.size)
   have rc := (HC6.out.later hB06).cell
   have rf := (HC6.out.later hB06).fz
   have hBl : Below W.heap.size W (X6.setCell ⟨W.heap.size + 1, 0, none⟩ (.bool true)) := (HA0.out.trans (hB06.mono HA0.out.size)).setCell (p := ⟨W.heap.size + 1, 0, none⟩) (by show W.heap.size ≤ W.heap.size + 1; omega) (.bool true)
   have hR : (X6.setCell ⟨W.heap.size + 1, 0, none⟩ (.bool true)).cell? ⟨W.heap.size + 1, 0, none⟩ = some (.bool true) := ((HC6.out.later hB06).set (.bool true)).cell
   have HLv := Lib.hid (And.intro hR hBl)
   clear hB06 hR hBl b6 HInt
   gi_wp2
   exact ⟨.bool true, by simp [results, Tryz.results4, go_sem, HLv.out.1], rfl, HLv.out.2⟩
 case pos =>
  as_aux_lemma =>
   rcases hop with ⟨h, -⟩ | ⟨-, g, b, ne, ce, np, cp, rfl, hk⟩
   case inl => exact absurd h0 h
   obtain ⟨Y4, hY4, bY4, sY4, c9⟩ := new1 X4 (.pointer (some ⟨g, 0, none⟩)) 58
   have HRo := Lib.hid (refOpen5_any ((HDp.out.later HB4.out).later bY4))
   have HY4 := Lib.hid hY4
   have HK := Lib.hid hk
   have HC9 := Lib.hid c9
   have HBY4 := Lib.hid bY4
   clear hY4 hk c9 bY4
   gi_wp2_with fail
   rw [← HY4.out]
   clear HY4
   refine ⟨trivial, ?_⟩
   refine (callsIn_wide.2 HRo.out).mono ?_
   rintro z X5 ⟨b5, ⟨h, -⟩ | ⟨-, a5, cap, zs, rfl, hw, hL, hn⟩⟩
   case inl => exact absurd h0 h
   have hne0 : zs ≠ [] := fun h => hL.some_ (by rw [h]; rfl)
   obtain ⟨bz, oz, ham⟩ : ∃ bz oz, a5 = some ⟨bz, oz, none⟩ := by
    rcases hw.rd.at_ with k | ⟨bz, oz, k, -⟩
    ·exact absurd k hne0
    ·exact ⟨bz, oz, k⟩
   subst ham
   obtain ⟨mz, hmz⟩ : ∃ mz, zs.length = mz := ⟨_, rfl⟩
   rw [hmz]
   obtain ⟨Y5, hY5, bY5, sY5, c11⟩ := new1 X5 (.slice (some ⟨bz, oz, none⟩) mz cap) 22
   have HY5 := Lib.hid hY5
   have hB25 : Below X2.heap.size X2 Y5 := ((HB3.out.trans (HB4.out.mono HB3.out.size)).trans ((HBY4.out.trans (b5.mono HBY4.out.size)).trans (bY5.mono (by have := HBY4.out.size; have := b5.size; omega)) |>.mono (by have := HB3.out.size; have := HB4.out.size; omega)))
   have hB35 : Below X3.heap.size X3 Y5 := HB4.out.trans (((HBY4.out.trans (b5.mono HBY4.out.size)).trans (bY5.mono (by have := HBY4.out.size; have := b5.size; omega))).mono HB4.out.size)
   have hB45 : Below X4.heap.size X4 Y5 := (HBY4.out.trans (b5.mono HBY4.out.size)).trans (bY5.mono (by have := HBY4.out.size; have := b5.size; omega))
   have hB4Y : Below Y4.heap.size Y4 Y5 := b5.trans (bY5.mono b5.size)
   have hB02 : Below X0.heap.size X0 X2 := HB1.out.trans (HB2.out.mono HB1.out.size)
   have HInt := Lib.hid (intact5_any (HIn.out.1.later hB25) (HDp.out.later hB35) (by rw [HBy.out.2]; exact hn1))
   have hlens : X0.heap.size ≤ X1.heap.size ∧ X1.heap.size ≤ gb ∧ gb < X2.heap.size ∧ X2.heap.size ≤ X3.heap.size ∧ X3.heap.size ≤ X4.heap.size ∧ X4.heap.size < Y4.heap.size ∧ Y4.heap.size ≤ X5.heap.size ∧ X5.heap.size < Y5.heap.size := ⟨HB1.out.size, hgb.1, hgb.2, HB3.out.size, HB4.out.size, by omega, b5.size, by omega⟩
   have HWl := Lib.hid hw
   have HLa := Lib.hid (And.intro hL (And.intro hne0 hmz))
   have HC11 := Lib.hid c11
   have HBs := Lib.hid (And.intro hB25 (And.intro hB45 (And.intro hB4Y (And.intro hB02 bY5))))
   have HCnt := Lib.hid hn
   have c9y : (X5.alloc (.cells #[.slice (some ⟨bz, oz, none⟩) mz cap] 22)).cell? ⟨X4.heap.size, 0, none⟩ = some (.pointer (some ⟨g, 0, none⟩)) := by rw [← hY5]; exact (HC9.out.later hB4Y).cell
   clear hY5 bY5 c11 hw hL hne0 hmz hn hB25 hB35 hB45 hB4Y hB02 b5 HRo HDp hgb
   gi_wp2_with fail
   rw [← HY5.out]
   clear HY5
   refine ⟨trivial, ?_⟩
   refine (callsIn_wide.2 HInt.out).mono ?_
   rintro z X6 ⟨rfl, b6⟩
   have HB6 := Lib.hid b6
   obtain ⟨Y6, hY6, bY6, sY6, hFu, c13⟩ : ∃ Y6, Y6 = (X6.alloc (.cells #[.slice none 0 0, .slice none 0 0, .int .i64 0] 38)).alloc (.cells #[.pointer (some ⟨X6.heap.size, 0, none⟩)] 34) ∧ Below X6.heap.size X6 Y6 ∧ Y6.heap.size = X6.heap.size + 2 ∧ FuB Y6 X6.heap.size (fun k => k = X6.heap.size) ∧ Cell1B Y6 (X6.heap.size + 1) (.pointer (some ⟨X6.heap.size, 0, none⟩)) 34 := by
    refine ⟨_, rfl, ((Below.refl X6.heap.size X6).alloc (Nat.le_refl _) _).alloc (by simp) _, by simp, fu_new ((Below.heap_alloc _ _ _ (by simp)).trans (World.alloc_heap_new X6 _)), ?_⟩
    have := heap_alloc_new (X6.alloc (.cells #[.slice none 0 0, .slice none 0 0, .int .i64 0] 38)) (.cells #[.pointer (some ⟨X6.heap.size, 0, none⟩)] 34)
    rwa [World.size_alloc] at this
   have hs6 : Y5.heap.size ≤ X6.heap.size := b6.size
   have hou6 : Own Y6 X1.heap.size (.slice (some ⟨gb, 0, none⟩) n1 cb2) n1 bs := (((HIn.out.2.1.later HBs.out.1)).later b6).later bY6
   have HTk := Lib.hid (take_any hFu hou6 (fun k hk h => by have h' : k = X6.heap.size := h; have := ob_eq hk; omega) (by omega))
   have c13y : ((X6.alloc (.cells #[.slice none 0 0, .slice none 0 0, .int .i64 0] 38)).alloc (.cells #[.pointer (some ⟨X6.heap.size, 0, none⟩)] 34)).cell? ⟨X6.heap.size + 1, 0, none⟩ = some (.pointer (some ⟨X6.heap.size, 0, none⟩)) := by rw [← hY6]; exact c13.cell
   have HC13 := Lib.hid c13
   have HBY6 := Lib.hid bY6
   have HY6 := Lib.hid hY6
   clear b6 HInt hY6 hFu c13 bY6 hou6
   gi_wp2_with fail
   rw [← HY6.out]
   clear HY6
   refine ⟨trivial, ?_⟩
   refine (callsIn_wide.2 HTk.out).mono ?_
   rintro z X7 ⟨⟨vz, rfl⟩, fu7, f7⟩
   have hB07 : Below X0.heap.size X0 X7 := by
    have h2 := HBs.out.2.2.2.1
    have h25 := h2.trans (HBs.out.1.mono h2.size)
    have h26 := h25.trans (HB6.out.mono h25.size)
    have h27 := h26.trans (HBY6.out.mono h26.size)
    refine h27.trans (f7.belowB (fun k h => ?_) h27.size)
    rcases h with h | h
    ·omega
    ·have := ob_eq h; omega
   obtain ⟨gF, hgF⟩ : ∃ gF, gF = X6.heap.size := ⟨_, rfl⟩
   obtain ⟨FO, hFO⟩ : ∃ FO : Nat → Prop, FO = (fun k => k = X6.heap.size ∨ (Value.slice (some ⟨gb, 0, none⟩) n1 cb2).ownBlock = some k ∨ (Y6.heap.size ≤ k ∧ k < X7.heap.size)) := ⟨_, rfl⟩
   obtain ⟨I, hI⟩ : ∃ I : Nat → Prop, I = (fun k => k = W.heap.size ∨ k = W.heap.size + 1 ∨ (X3.heap.size ≤ k ∧ k < X6.heap.size) ∨ k = X6.heap.size + 1) := ⟨_, rfl⟩
   have hlo : ∀ k, FO k → X1.heap.size ≤ k ∧ k < X7.heap.size := by
    have hs7 : Y6.heap.size ≤ X7.heap.size := f7.size
    intro k h
    rw [hFO] at h
    rcases h with h | h | h
    ·omega
    ·have := ob_eq h; omega
    ·omega
   have hIF : ∀ k, I k → ¬ FO k ∧ k < X7.heap.size := by
    have hs7 : Y6.heap.size ≤ X7.heap.size := f7.size
    intro k h
    rw [hI] at h
    refine ⟨fun h' => ?_, by rcases h with h | h | h | h <;> omega⟩
    rw [hFO] at h'
    rcases h' with h' | h' | h'
    ·rcases h with h | h | h | h <;> omega
    ·have := ob_eq h'; rcases h with h | h | h | h <;> omega
    ·rcases h with h | h | h | h <;> omega
   have hRX : RX X7 I W.heap.size (W.heap.size + 1) X4.heap.size X5.heap.size (X6.heap.size + 1) X6.heap.size stop g (rstOf bs) b ne ce np cp (entsOf bs) (placesOf5 bs) bz oz cap zs := by
    have hLk := HK.out
    have hk0 : Lk X4 0 g (rstOf bs) (kvL zs).length b ne ce (entsOf bs) (placesOf5 bs) np cp := by
     rw [kvL_len, HCnt.out]
     exact ⟨hLk.box, hLk.ents, hLk.pls, Nat.zero_le _, Nat.zero_le _, hLk.ne⟩
    have b46 : Below X4.heap.size X4 Y6 := by
     have h1 := HBs.out.2.1
     have h2 := h1.trans (HB6.out.mono h1.size)
     exact h2.trans (HBY6.out.mono h2.size)
    have b56 : Below X5.heap.size X5 Y6 := by
     have h1 := HBs.out.2.2.2.2
     have h2 := h1.trans (HB6.out.mono h1.size)
     exact h2.trans (HBY6.out.mono h2.size)
    have b5Y : Below Y5.heap.size Y5 Y6 := HB6.out.trans (HBY6.out.mono HB6.out.size)
    have b4Y : Below Y4.heap.size Y4 Y6 := HBs.out.2.2.1.trans (b5Y.mono HBs.out.2.2.1.size)
    have b06 : Below X0.heap.size X0 Y6 := HBs.out.2.2.2.1.trans ((HBs.out.1.trans (b5Y.mono HBs.out.1.size)).mono HBs.out.2.2.2.1.size)
    have hgx : g < X4.heap.size := (Array.getElem?_eq_some_iff.1 hLk.box).1
    have hEn : entsOf bs ≠ [] := by
     intro h
     have := HLa.out.1.few
     rw [h] at this
     exact HLa.out.1.some_ (List.eq_nil_of_length_eq_zero (by simpa using this))
    have hbx : b < X4.heap.size := World.block_lt_of_cell? _ _ (rd_cell hLk.ents 0 (by rw [(rd_lens hLk.ents).1]; exact List.length_pos_iff.2 hEn)).1
    have hw := HWl.out
    have hrx : RX Y6 I W.heap.size (W.heap.size + 1) X4.heap.size X5.heap.size (X6.heap.size + 1) X6.heap.size stop g (rstOf bs) b ne ce np cp (entsOf bs) (placesOf5 bs) bz oz cap zs := by
     have hmz := HLa.out.2.2
     refine ⟨HLa.out.1, ⟨hk0.box.later b46, hk0.ents.later b46, hk0.pls.later b46, hk0.bg, hk0.bb, hk0.ne⟩, hw.rd.later b56, hw.ck, ?_, ?_, ?_, ?_, HC5.out.later b06, HC6.out.later b06, HC9.out.later b4Y, ?_, HC13.out, ?_, ?_, ?_, ?_, ?_⟩
     ·rw [hI]; have := hLk.bg; exact .inr (.inr (.inl ⟨by omega, by omega⟩))
     ·rw [hI]; have := hLk.bb; exact .inr (.inr (.inl ⟨by omega, by omega⟩))
     ·intro k h; rw [hI]; have := hw.ad k h; exact .inr (.inr (.inl ⟨by omega, by omega⟩))
     ·intro e he k h; rw [hI]; have := hw.es e he k h; exact .inr (.inr (.inl ⟨by omega, by omega⟩))
     ·rw [hmz]; exact HC11.out.later b5Y
     ·rw [hI]; exact .inl rfl
     ·rw [hI]; exact .inr (.inl rfl)
     ·rw [hI]; exact .inr (.inr (.inl ⟨by omega, by omega⟩))
     ·rw [hI]; exact .inr (.inr (.inl ⟨by omega, by omega⟩))
     ·rw [hI]; exact .inr (.inr (.inr rfl))
    refine hrx.fb f7 (fun k hk h => (hIF k hk).1 ?_)
    rw [hFO]
    rcases h with h | h
    ·exact .inl h
    ·exact .inr (.inl h)
   rw [← hFO, ← hgF] at fu7
   rw [← hgF] at hRX
   have HRX := Lib.hid hRX
   have HFu := Lib.hid fu7
   have HIF := Lib.hid hIF
   have HLo := Lib.hid hlo
   have HB07 := Lib.hid hB07
   have HCut := Lib.hid (cut5_any 5000 (HKey.out.later hB07))
   have hs17 : X1.heap.size ≤ X7.heap.size := by have := f7.size; omega
   rw [← hgF]
   clear hRX fu7 f7 hIF hlo hB07 HTk hFO hI hgF c13y c9y HIn HWl HC9 HC11 HC13 HBs HB6 HBY6 HK HTab HKey HB1 HB2 HB3 HB4 HBY4 HCnt HC5 HC6 sY4 sY5 sY6 hs6 h0
   gi_wp2_with fail
   refine ⟨trivial, ?_⟩
   refine (callsIn_wide.2 HCut.out).mono ?_
   rintro z X7a ⟨a8, n8, c8, rfl, rd8, hX7⟩
   subst hX7
   have hn8 : n8 ≤ 5000 := by have := (rd_lens rd8).1; rw [List.length_take] at this; omega
   have HLd := Lib.hid (laid5_any rd8 (by omega))
   obtain ⟨ky, hky⟩ : ∃ ky, ky = key.take 5000 := ⟨_, rfl⟩
   rw [← hky] at HLd rd8
   have hkl : ky.length = n8 := (rd_lens rd8).1.symm
   have HKy := Lib.hid (And.intro rd8.1 hkl)
   clear rd8 HCut hky hkl
   gi_wp2_with fail
   refine ⟨trivial, ?_⟩
   refine (callsIn_wide.2 HLd.out).mono ?_
   rintro z X8 ⟨u, rfl, hLu, b8⟩
   obtain ⟨gk, ck, rfl, hou⟩ := laid_own hLu
   rw [HKy.out.2] at hLu hou
   have hr8 : Rd X8 (.slice (some ⟨gk, 0, none⟩) n8 ck) ky := hLu.rd HKy.out.1 (by rw [HKy.out.2]; omega)
   have HKk := Lib.hid (And.intro hLu hr8)
   have HB8 := Lib.hid b8
   have HCp := Lib.hid (copied5_any hr8 (by rw [HKy.out.2]; omega))
   rw [HKy.out.2]
   clear hLu hou hr8 b8 HLd
   gi_wp2_with fail
   refine ⟨trivial, ?_⟩
   refine (callsIn_wide.2 HCp.out).mono ?_
   rintro z X9 ⟨a9, m9, c9, rfl, own9, b9⟩
   have hr9 : Rd X9 (.slice a9 m9 c9) ky := own9.rd HKy.out.1 (by have := own9.1; rw [HKy.out.2] at this; omega)
   have b79 : Below X7a.heap.size X7a X9 := HB8.out.trans (b9.mono HB8.out.size)
   have hR9 := HRX.out.later b79
   have HSk : Hid (∀ Z, Below X9.heap.size X9 Z → Calls Tryz.prog 30 #[.pointer (some ⟨g, 0, none⟩), .slice (some ⟨gk, 0, none⟩) n8 ck] Z fun e w' => (∃ n : Nat, e = .returned (.int .i64 (n : Int)) ∧ SkA (kvL zs) ky n) ∧ Below Z.heap.size Z w') := fun Z bz => seek_any (hR9.later bz).hL (hR9.later bz).hk ((HKk.out.2.later b9).later bz)
   have hmz17 : zs.length ≤ 131072 := by have h1 := hR9.hL.few; have h2 := hR9.hL.size; rw [kvL_len] at h1; omega
   have HRk : Hid (∀ Z, Below X9.heap.size X9 Z → Calls Tryz.prog 31 #[.slice (some ⟨bz, oz, none⟩) mz cap, .slice a9 m9 c9] Z fun e w' => (∃ n : Nat, e = .returned (.int .i64 (n : Int)) ∧ SkA (kvL zs) ky n) ∧ Below Z.heap.size Z w') := fun Z bz => by
    have h := refSeek5_any (hR9.later bz).hr hR9.ck hR9.hL.up (hr9.later bz) hmz17
    rw [HLa.out.2.2] at h
    exact h
   have HLn : Hid (∀ Z, Below X9.heap.size X9 Z → Calls Tryz.prog 29 #[.pointer (some ⟨g, 0, none⟩)] Z fun e w' => e = .returned (.int .i64 (mz : Int)) ∧ w' = Z) := fun Z bz => by
    have h := len5_any (hR9.later bz).hk.box
    rw [kvL_len, HLa.out.2.2] at h
    exact h
   have HIt : Hid (∀ Z, Below X9.heap.size X9 Z → Calls Tryz.prog 27 #[.slice (some ⟨gk, 0, none⟩) n8 ck, .slice a9 m9 c9] Z fun e w' => e = .returned (.bool true) ∧ Below Z.heap.size Z w') := fun Z bz => intact5_any ((HKk.out.1.later b9).later bz) (hr9.later bz) (by rw [HKy.out.2]; omega)
   have HBx : Hid (∀ Z, Below X9.heap.size X9 Z → Z.cell? ⟨X4.heap.size, 0, none⟩ = some (.pointer (some ⟨g, 0, none⟩)) ∧ Z.cell? ⟨X5.heap.size, 0, none⟩ = some (.slice (some ⟨bz, oz, none⟩) mz cap)) := fun Z bz => ⟨(hR9.later bz).c9.cell, by have := (hR9.later bz).c11.cell; rw [HLa.out.2.2] at this; exact this⟩
   have HB79 := Lib.hid b79
   have D0 : Below X9.heap.size X9 X9.drew := (Below.refl _ _).drew
   have k0 := HBx.out _ D0
   clear hR9 hr9 own9 b9 b79 HCp HKk HKy hmz17
   gi_wp2_with fail
   refine wpIn_wide.2 ?_
   go_region_held3 (fun w' => w'.cell? ⟨X4.heap.size, 0, none⟩ = some (.pointer (some ⟨g, 0, none⟩)) ∧ w'.cell? ⟨X5.heap.size, 0, none⟩ = some (.slice (some ⟨bz, oz, none⟩) mz cap)) (first | exact k0 | exact k1 | exact k2 | exact k3 | assumption) (first
    | (go_at_call 29; refine (HLn.out _ D0).mono ?_; rintro z w2 ⟨rfl, rfl⟩)
    | (go_at_call 30; refine (HSk.out _ D0).mono ?_; rintro z w3 ⟨⟨n1', rfl, s1⟩, b3⟩; have D1 := D0.trans (b3.mono D0.size); have k1 := HBx.out _ D1)
    | (go_at_call 31; refine (HRk.out _ D1).mono ?_; rintro z w4 ⟨⟨n2', rfl, s2⟩, b4⟩; have D2 := D1.trans (b4.mono D1.size); have k2 := HBx.out _ D2; obtain rfl := skA_one s1 s2)
    | (go_at_call 27; refine (HIt.out _ D2).mono ?_; rintro z w5 ⟨rfl, b5⟩; have D3 := D2.trans (b5.mono D2.size); have k3 := HBx.out _ D3))
   obtain ⟨Xt, hXt⟩ : ∃ Xt, Xt = w5 := ⟨_, rfl⟩
   rw [← hXt] at D3 ⊢
   have b7t : Below X7a.heap.size X7a Xt := HB79.out.trans (D3.mono HB79.out.size)
   obtain ⟨V, hV, bV, sV, ci, cc⟩ : ∃ V, V = (Xt.alloc (.cells #[.int .i64 0] 3)).alloc (.cells #[.pointer (some ⟨g, 0, none⟩)] 58) ∧ Below Xt.heap.size Xt V ∧ V.heap.size = Xt.heap.size + 2 ∧ Cell1B V Xt.heap.size (.int .i64 0) 3 ∧ Cell1B V (Xt.heap.size + 1) (.pointer (some ⟨g, 0, none⟩)) 58 := by
    refine ⟨_, rfl, ((Below.refl Xt.heap.size Xt).alloc (Nat.le_refl _) _).alloc (by simp) _, by simp, Cell1B.later (heap_alloc_new Xt _) ((Below.refl _ _).alloc (Nat.le_refl _) _), ?_⟩
    have := heap_alloc_new (Xt.alloc (.cells #[.int .i64 0] 3)) (.cells #[.pointer (some ⟨g, 0, none⟩)] 58)
    rwa [World.size_alloc] at this
   obtain ⟨Vq, hVq⟩ : ∃ Vq, Vq = Xt.alloc (.cells #[.int .i64 0] 3) := ⟨_, rfl⟩
   have bq : Below Xt.heap.size Xt Vq := by rw [hVq]; exact (Below.refl _ _).alloc (Nat.le_refl _) _
   have bqV : Below Vq.heap.size Vq V := by rw [hV, hVq]; exact (Below.refl _ _).alloc (Nat.le_refl _) _
   have sq : Vq.heap.size = Xt.heap.size + 1 := by rw [hVq]; simp
   have HVq := Lib.hid (And.intro bqV (And.intro (show Vq.heap.size + 1 = V.heap.size by omega) (And.intro (HRX.out.later (b7t.trans (bq.mono b7t.size))) (show ∀ k, FO k → k < Vq.heap.size from fun k h => by have := (HLo.out k h).2; have := b7t.size; omega))))
   clear hVq bq bqV sq
   have b7V : Below X7a.heap.size X7a V := b7t.trans (bV.mono b7t.size)
   have HRV := Lib.hid (HRX.out.later b7V)
   have hIV : ∀ k, I k → ¬ FO k ∧ k ≠ Xt.heap.size := fun k h => ⟨(HIF.out k h).1, by have := (HIF.out k h).2; have := b7t.size; omega⟩
   have hFi : ¬ FO Xt.heap.size := fun h => by have := (HLo.out _ h).2; have := b7t.size; omega
   have hR0 : RI V V gF Xt.heap.size FO 0 FO := ⟨HFu.out.later b7V, ci, Fb.refl _ _, fun k h => .inl h⟩
   have HB0V := Lib.hid (HB07.out.trans (b7V.mono HB07.out.size))
   have hlo2 : ∀ k, FO k → X0.heap.size ≤ k := fun k h => by have := (HLo.out k h).1; omega
   obtain ⟨gi, hgi⟩ : ∃ gi, gi = Xt.heap.size := ⟨_, rfl⟩
   have hgc : Xt.heap.size + 1 = gi + 1 := by omega
   rw [← hgi] at hIV hFi hR0
   rw [hgc] at cc
   have hgiV : gi + 2 = V.heap.size := by omega
   have hgi0 : X0.heap.size ≤ gi := by have := HB07.out.size; have := b7t.size; omega
   have hq : ∃ q : Nat, (stop = (q : Int) ∧ q < mz) ∨ (q = mz ∧ ¬ (0 ≤ stop ∧ stop < (mz : Int))) := by
    by_cases h : 0 ≤ stop ∧ stop < (mz : Int)
    ·exact ⟨stop.toNat, .inl ⟨by omega, by omega⟩⟩
    ·exact ⟨mz, .inr ⟨rfl, h⟩⟩
   obtain ⟨q, hq⟩ := hq
   have c9t := (HBx.out _ D3).1
   have c9u : (Xt.alloc (.cells #[.int .i64 0] 3)).cell? ⟨X4.heap.size, 0, none⟩ = some (.pointer (some ⟨g, 0, none⟩)) := by
    have h1 := ((HRX.out.later b7t).later ((Below.refl Xt.heap.size Xt).alloc (Nat.le_refl _) (.cells #[.int .i64 0] 3))).c9.cell
    exact h1
   have HV := Lib.hid hV
   have HCc := Lib.hid cc
   have HR0 := Lib.hid hR0
   have HIV := Lib.hid hIV
   have HFi := Lib.hid hFi
   have HLo2 := Lib.hid hlo2
   have HQ := Lib.hid hq
   clear hXt D0 D1 D2 D3 k0 k1 k2 k3 s1 s2 b3 b4 b5 HSk HRk HLn HIt HBx hV bV ci cc hR0 b7V b7t hIV hFi hlo2 hq HB79 HB8 HIF HLo HFu HRX hgc HB07 hs17 hlens sV
   gi_wp2_with fail
   refine ⟨trivial, ?_⟩
   refine (callsIn_wide.2 (all5_any (g := g))).mono ?_
   rintro z W7 ⟨rfl, rfl⟩
   gi_wp2_with fail
   rw [← HV.out, ← hgi]
   have HGi := Lib.hid hgi
   clear HV c9t c9u hgi
   have hgiV' : gi < V.heap.size := by omega
   have HFl : Hid (∀ k, FO k → k < V.heap.size) := HR0.out.fu.lt
   have hgV : g < V.heap.size := (Array.getElem?_eq_some_iff.1 HRV.out.hk.box).1
   have hEn : entsOf bs ≠ [] := by
    intro h
    have := HLa.out.1.few
    rw [h] at this
    exact HLa.out.1.some_ (List.eq_nil_of_length_eq_zero (by simpa using this))
   have hbV : b < V.heap.size := World.block_lt_of_cell? _ _ (rd_cell HRV.out.hk.ents 0 (by rw [(rd_lens HRV.out.hk.ents).1]; exact List.length_pos_iff.2 hEn)).1
   clear hEn
   refine range_e (M := Nat → Prop) (q := q) (sl := 17) rfl HRV.out.hL HRV.out.hk HCc.out hbV (fun st X => RI V X gF gi FO st.1.length st.2) (fun st X => RI V X gF gi FO (st.1.length - 1) st.2) (fun st k => st.2 k ∨ k = gi) FO (fun st X h => h.fb.size)
    (fun st X k h ho => by
     obtain ⟨o1, o2, o3, o4⟩ := h.ob HFl.out hgiV' ho
     exact ⟨o1, ⟨o4 g (HIV.out g HRV.out.ig).1 (HIV.out g HRV.out.ig).2 hgV, o4 b (HIV.out b HRV.out.ib).1 (HIV.out b HRV.out.ib).2 hbV⟩, o2, o3⟩)
    (fun st X Y C h f hc hB => h.st f hc hB) (fun st X Y C h f hc hB => h.st f hc hB)
    (fun st X k h ho => by
     obtain ⟨o1, o2, o3, o4⟩ := h.ob HFl.out hgiV' ho
     exact ⟨o1, o2, o3⟩) HR0.out ?assign ?body ?fin
   case assign =>
    intro l' x Z K hok hK
    obtain ⟨vr, fam, vq, ts, seq, kind, vv, row, qual, val⟩ := x
    obtain ⟨ar, nr, cr, rfl⟩ := rd_slice hok.1
    obtain ⟨aq, nq, cq, rfl⟩ := rd_slice hok.2.1
    obtain ⟨av, nv, cv, rfl⟩ := rd_slice hok.2.2
    have h := hK _ ((Below.refl _ _).alloc (Nat.le_refl _) (.cells (EntD.mk (.slice ar nr cr) fam (.slice aq nq cq) ts seq kind (.slice av nv cv) row qual val).cells 40)) (EBox.new Z _)
    simp only [EntD.cells, List.setIfInBounds_toArray, List.set_cons_zero, List.set_cons_succ] at h ⊢
    have Hh := Lib.hid h
    clear hK hok h
    gi_wp2
    exact Hh.out
   case body =>
    as_aux_lemma =>
     rintro l' pre F x Bx X ⟨rr, hrr⟩ hl' hri hBx bx hyg
     simp only at hri hyg
     simp only [List.setIfInBounds_toArray, List.set_cons_zero, List.set_cons_succ]
     obtain ⟨n, hn⟩ : ∃ n, n = pre.length := ⟨_, rfl⟩
     rw [← hn] at hri
     have hXs : V.heap.size + 2 ≤ X.heap.size := by have := (Array.getElem?_eq_some_iff.1 hrr).1; omega
     have hRx := hri.rx HRV.out HIV.out
     obtain ⟨⟨kv, hkv, hkx, hvx⟩, hxo, hxc⟩ := hyg.1
     rw [← hn] at hkv
     have hnl : n < zs.length := by
      have := (List.getElem?_eq_some_iff.1 hkv).1
      rwa [kvL_len] at this
     obtain ⟨y, hy⟩ : ∃ y, zs[n]? = some y := ⟨_, List.getElem?_eq_getElem hnl⟩
     have hym : y ∈ zs := List.mem_of_getElem? hy
     have hsame : EntD.Same x y := by
      have e := kvL_at hy
      rw [hkv] at e
      cases e
      exact same_key hxc (hRx.ck y hym) hkx hvx
     have hnm : n < mz := by rw [← HLa.out.2.2]; exact hnl
     have nc := hri.i_.cell
     have sc := hRx.c5.cell
     have HRi := Lib.hid hri
     have HN := Lib.hid hn
     by_cases hnq : n = q
     ·have hst : stop = (n : Int) := by
       rcases HQ.out with h | h
       ·rw [hnq]; exact h.1
       ·omega
      subst hst
      have HE : Hid (∀ J : Code → List EntD × (Nat → Prop) → World → Prop, J = (fun c st X => c = Code.exit 0 ∧ RI V X gF gi FO (st.1.length - 1) st.2) → RdF (J (Code.exit 0)) (fun (st : List EntD × (Nat → Prop)) k => st.2 k ∨ k = gi) xbE (fun k => F k ∨ k = gi) pre x X X) := fun J hJ => hJ ▸ ⟨F, ⟨rfl, by rw [List.length_append, ← HN.out]; exact HRi.out⟩, Fb.refl _ _, fun k h => .inl h⟩
      have hpq : pre.length = q := by rw [← HN.out]; exact hnq
      have HPq := Lib.hid hpq
      clear hri hRx hyg hkv hkx hvx hxo hxc hy hym hsame hrr bx hn hnq hl' hpq
      gi_wp2
      exact ⟨HPq.out, HE.out _ rfl⟩
     ·have hst : ¬ (n : Int) = stop := by
       rcases HQ.out with h | h
       ·have := h.1; omega
       ·intro e; exact h.2 ⟨by omega, by omega⟩
      have hcs : ∀ (j : Nat) u, y.cells.toList[j]? = some u → X.cell? ⟨bz, oz + n * 7 + j, none⟩ = some u := by
       rcases hRx.hr.at_ with k | ⟨b', o', e', hc'⟩
       ·exact absurd k HLa.out.2.1
       ·cases e'
        exact hc' n y hy
      have hnmi : (n : Int) < (mz : Int) := by omega
      have hn0 : (0 : Int) ≤ (n : Int) := by omega
      have d1 : decide ((mz : Int) ≤ (n : Int)) = false := by simp; omega
      have d2 : decide (mz ≤ n) = false := by simp; omega
      have hyo : EntD.Ok X y := hRx.hr.ok y hym
      have HSe : Hid (∀ Z, Below X.heap.size X Z → Calls Tryz.prog 33 #[.agg #[x.vr, .int .i64 x.fam, x.vq, .int .i64 x.ts, .int .i64 x.seq, .int .i64 x.kind, x.vv], .agg #[y.vr, .int .i64 y.fam, y.vq, .int .i64 y.ts, .int .i64 y.seq, .int .i64 y.kind, y.vv]] Z fun r w' => r = .returned (.bool true) ∧ Below Z.heap.size Z w') := fun Z b => by
       refine (se_any (hxo.later b) (hyo.later b)).mono ?_
       rintro r w' ⟨rfl, hb⟩
       rw [decide_eq_true hsame]
       exact ⟨rfl, hb⟩
      have wc : X.cell? ⟨X5.heap.size, 0, none⟩ = some (.slice (some ⟨bz, oz, none⟩) mz cap) := by have := hRx.c11.cell; rw [HLa.out.2.2] at this; exact this
      obtain ⟨c0, c1, c2', c3, c4, c5, c6⟩ := (⟨bx.vr, bx.fam, bx.vq, bx.ts, bx.seq, bx.kind, bx.vv⟩ : _ ∧ _ ∧ _ ∧ _ ∧ _ ∧ _ ∧ _)
      have e0 := hcs 0 _ rfl
      have e1 := hcs 1 _ rfl
      have e2 := hcs 2 _ rfl
      have e3 := hcs 3 _ rfl
      have e4 := hcs 4 _ rfl
      have e5 := hcs 5 _ rfl
      have e6 := hcs 6 _ rfl
      have D0 : Below X.heap.size X X.drew := (Below.refl _ _).drew
      have HYg := Lib.hid hyg
      have HBx := Lib.hid bx
      have HRr := Lib.hid hrr
      have HL' := Lib.hid hl'
      have HNq := Lib.hid hnq
      unfold EntD.cells
      simp only [Nat.add_zero] at e0
      have KS : Hid (∀ wx, Below X.heap.size X wx → wx.cell? ⟨gi, 0, none⟩ = some (.int .i64 (n : Int)) ∧ wx.cell? ⟨X5.heap.size, 0, none⟩ = some (.slice (some ⟨bz, oz, none⟩) mz cap) ∧ wx.cell? ⟨Bx, 0, none⟩ = some x.vr ∧ wx.cell? ⟨Bx, 1, none⟩ = some (.int .i64 x.fam) ∧ wx.cell? ⟨Bx, 2, none⟩ = some x.vq ∧ wx.cell? ⟨Bx, 3, none⟩ = some (.int .i64 x.ts) ∧ wx.cell? ⟨Bx, 4, none⟩ = some (.int .i64 x.seq) ∧ wx.cell? ⟨Bx, 5, none⟩ = some (.int .i64 x.kind) ∧ wx.cell? ⟨Bx, 6, none⟩ = some x.vv ∧ wx.cell? ⟨bz, oz + n * 7, none⟩ = some y.vr ∧ wx.cell? ⟨bz, oz + n * 7 + 1, none⟩ = some (.int .i64 y.fam) ∧ wx.cell? ⟨bz, oz + n * 7 + 2, none⟩ = some y.vq ∧ wx.cell? ⟨bz, oz + n * 7 + 3, none⟩ = some (.int .i64 y.ts) ∧ wx.cell? ⟨bz, oz + n * 7 + 4, none⟩ = some (.int .i64 y.seq) ∧ wx.cell? ⟨bz, oz + n * 7 + 5, none⟩ = some (.int .i64 y.kind) ∧ wx.cell? ⟨bz, oz + n * 7 + 6, none⟩ = some y.vv) := fun wx b =>
       ⟨(b.cell (World.block_lt_of_cell? _ _ nc)).trans nc, (b.cell (World.block_lt_of_cell? _ _ wc)).trans wc, (b.cell (World.block_lt_of_cell? _ _ c0)).trans c0, (b.cell (World.block_lt_of_cell? _ _ c1)).trans c1, (b.cell (World.block_lt_of_cell? _ _ c2')).trans c2', (b.cell (World.block_lt_of_cell? _ _ c3)).trans c3, (b.cell (World.block_lt_of_cell? _ _ c4)).trans c4, (b.cell (World.block_lt_of_cell? _ _ c5)).trans c5, (b.cell (World.block_lt_of_cell? _ _ c6)).trans c6, (b.cell (World.block_lt_of_cell? _ _ e0)).trans e0, (b.cell (World.block_lt_of_cell? _ _ e1)).trans e1, (b.cell (World.block_lt_of_cell? _ _ e2)).trans e2, (b.cell (World.block_lt_of_cell? _ _ e3)).trans e3, (b.cell (World.block_lt_of_cell? _ _ e4)).trans e4, (b.cell (World.block_lt_of_cell? _ _ e5)).trans e5, (b.cell (World.block_lt_of_cell? _ _ e6)).trans e6⟩
      clear hl' hnq hkv hkx hvx hxo hxc hy hym hsame hcs hyo bx hyg hri hRx hn hrr c0 c1 c2' c3 c4 c5 c6 e0 e1 e2 e3 e4 e5 e6 D0 wc d1 d2
      gi_wp2_with fail
      refine wpIn_eq ?Fr0 ?r1 ?r2
      case r1 => exact reads_r21 hnm KS.out HSe.out
      case r2 =>
       as_aux_lemma =>
        intro Y hbY
        clear nc sc KS HSe
        have hriY := HRi.out.later hbY
        have hygY := HYg.out.later hbY
        have hRxY := hriY.rx HRV.out HIV.out
        have hYs : V.heap.size + 2 ≤ Y.heap.size := by have := hbY.size; omega
        have HFe : Hid (Calls Tryz.prog 14 #[.pointer (some ⟨gF, 0, none⟩), .agg #[x.vr, .int .i64 x.fam, x.vq, .int .i64 x.ts, .int .i64 x.seq, .int .i64 x.kind, x.vv]] Y fun e w' => (∃ v, e = .returned v) ∧ FuB w' gF (fun k => F k ∨ x.blk k ∨ (Y.heap.size ≤ k ∧ k < w'.heap.size)) ∧ Fb Y w' (fun k => F k ∨ x.blk k)) := fentry_any hriY.fu hygY.e3 (fun k hk h => (hygY.xb hk).2.1 (.inl h))
        have fc := hRxY.c13.cell
        have bxY := HBx.out.later hbY
        obtain ⟨c0, c1, c2', c3, c4, c5, c6⟩ := (⟨bxY.vr, bxY.fam, bxY.vq, bxY.ts, bxY.seq, bxY.kind, bxY.vv⟩ : _ ∧ _ ∧ _ ∧ _ ∧ _ ∧ _ ∧ _)
        have hxlo : ∀ k, x.blk k → V.heap.size + 2 ≤ k := fun k hk => (hygY.xb hk).1
        have HXlo := Lib.hid hxlo
        have HRY := Lib.hid hriY
        have HbY := Lib.hid hbY
        clear hriY hygY hRxY bxY hxlo hbY
        gi_wp2_with fail
        refine ⟨trivial, ?_⟩
        refine (CallsIn.inRound l' (callsIn_wide.2 HFe.out)).mono ?_
        rintro z Y2 ⟨⟨vv, rfl⟩, fu2, f2⟩
        clear c0 c1 c2' c3 c4 c5 c6 fc HFe
        have hri2 := HRY.out.grow hYs fu2 f2 HXlo.out hgiV' HFi.out
        have hRx2 := hri2.rx HRV.out HIV.out
        have HEnd : Hid (∀ Y3, Below Y2.heap.size Y2 Y3 → RdF (fun (st : List EntD × (Nat → Prop)) X => RI V X gF gi FO st.1.length st.2) (fun st k => st.2 k ∨ k = gi) xbE (fun k => F k ∨ k = gi) pre x X (Y3.setCell ⟨gi, 0, none⟩ (.int .i64 ((n : Int) + 1)))) := fun Y3 b3 => ri_round HRi.out hXs HbY.out fu2 f2 HXlo.out hgiV' HFi.out b3 HN.out
        have HPq : Hid (pre.length ≠ q) := by unfold Hid; rw [← HN.out]; exact HNq.out
        have HWn : Hid (wrap64 ((n : Int) + 1) = (n : Int) + 1 ∧ IntKind.i64.wrap ((n : Int) + 1) = (n : Int) + 1) := ⟨wrap64I5 _ (by omega) (by have := HRV.out.hL.few; have := HRV.out.hL.size; have := HLa.out.2.2; rw [kvL_len] at *; omega), wrapI5 _ (by omega) (by have := HRV.out.hL.few; have := HRV.out.hL.size; have := HLa.out.2.2; rw [kvL_len] at *; omega)⟩
        have HR2 := Lib.hid hri2
        have HX2 := Lib.hid hRx2
        have HF2 := Lib.hid f2
        by_cases hn1 : n = 1
        ·as_aux_lemma =>
          subst hn1
          have HSm : Hid (∀ (x2 : EntD) (Z : World), EntD.Ok Z x2 → (∃ kv, (kvL zs)[0]? = some kv ∧ keyL x2 = kv.1 ∧ x2.val = kv.2) → checkS x2 = 0 → Below Y2.heap.size Y2 Z → ∃ y2 : EntD, (∀ (j : Nat) u, y2.cells.toList[j]? = some u → Z.cell? ⟨bz, oz + j, none⟩ = some u) ∧ ∀ Z', Below Z.heap.size Z Z' → Calls Tryz.prog 33 #[.agg #[x2.vr, .int .i64 x2.fam, x2.vq, .int .i64 x2.ts, .int .i64 x2.seq, .int .i64 x2.kind, x2.vv], .agg #[y2.vr, .int .i64 y2.fam, y2.vq, .int .i64 y2.ts, .int .i64 y2.seq, .int .i64 y2.kind, y2.vv]] Z' fun r w' => r = .returned (.bool true) ∧ Below Z'.heap.size Z' w') := by
           intro x2 Z hok ⟨kv2, hkv2, hk1, hk2⟩ hc2 hbZ
           have hlz : 0 < zs.length := by rw [HLa.out.2.2]; omega
           obtain ⟨y2, hy2⟩ : ∃ y2, zs[0]? = some y2 := ⟨_, List.getElem?_eq_getElem hlz⟩
           have hrz := HX2.out.later hbZ
           have hsame : EntD.Same x2 y2 := by
            have e := kvL_at hy2
            rw [hkv2] at e
            cases e
            exact same_key hc2 (hrz.ck y2 (List.mem_of_getElem? hy2)) hk1 hk2
           refine ⟨y2, ?_, fun Z' bz' => ?_⟩
           ·rcases hrz.hr.at_ with k | ⟨b', o', e', hc'⟩
            ·exact absurd k HLa.out.2.1
            ·cases e'
             intro j u hu
             have := hc' 0 y2 hy2 j u hu
             simpa using this
           ·refine (se_any (hok.later bz') ((hrz.hr.ok y2 (List.mem_of_getElem? hy2)).later bz')).mono ?_
            rintro r w' ⟨rfl, hb⟩
            rw [decide_eq_true hsame]
            exact ⟨rfl, hb⟩
          obtain ⟨Y3, hY3, bY3, sY3, cc3⟩ := new1 Y2 (.pointer (some ⟨g, 0, none⟩)) 58
          have hl3 : Y3.heap[l']? = some (.loop rr) := by
           have hlx : l' < X.heap.size := (Array.getElem?_eq_some_iff.1 HRr.out).1
           have h1 : Y.heap[l']? = some (.loop rr) := (HbY.out.block l' hlx).trans HRr.out
           have h2 : Y2.heap[l']? = some (.loop rr) := (HF2.out.block l' (by have := HbY.out.size; omega) (fun h => by
            rcases h with h | h
            ·exact (HRi.out.ob HFl.out hgiV' (.inl h)).2.2.1 HL'.out
            ·have := HXlo.out _ h; have := HL'.out; omega)).trans h1
           exact (bY3.block l' (Array.getElem?_eq_some_iff.1 h2).1).trans h2
          have HX3 := Lib.hid (hRx2.later bY3)
          have HY3 := Lib.hid hY3
          have HC3 := Lib.hid cc3
          have HB3 := Lib.hid bY3
          have HL3 := Lib.hid hl3
          have nc := hri2.i_.cell
          have pc := hRx2.c9.cell
          have hbV3 : b < Y3.heap.size := by have := HR2.out.fb.size; omega
          have HbV3 := Lib.hid hbV3
          clear hri2 hRx2 fu2 f2 hY3 bY3 sY3 cc3 hl3 hbV3
          gi_wp2_with fail
          refine ⟨trivial, ?_⟩
          refine (CallsIn.inRound l' (callsIn_wide.2 (all5_any (g := g)))).mono ?_
          rintro z W8 ⟨rfl, rfl⟩
          clear nc pc
          gi_wp2_with fail
          rw [← HY3.out]
          clear HY3
          refine range_en (M := Unit) (q := 0) (sl := 18) HL3.out rfl HX3.out.hL HX3.out.hk HC3.out HbV3.out (fun st Z => st.1 = [] ∧ Below Y3.heap.size Y3 Z) (fun st Z => Below Y3.heap.size Y3 Z) (fun _ _ => False) () (fun st Z h => h.2.size) (fun _ _ _ _ h => h.elim) (fun st Z Z' C h f hc hB => ⟨h.1, h.2.trans (f.belowB hB h.2.size)⟩) (fun st Z Z' C h f hc hB => h.trans (f.belowB hB h.size)) (fun _ _ _ _ h => h.elim) ⟨rfl, Below.refl _ _⟩ ?assign2 ?body2 ?fin2
          case assign2 =>
           intro l2 x2 Z K hok hK
           obtain ⟨vr, fam, vq, ts, seq, kind, vv, row, qual, val⟩ := x2
           obtain ⟨ar, nr, cr, rfl⟩ := rd_slice hok.1
           obtain ⟨aq, nq, cq, rfl⟩ := rd_slice hok.2.1
           obtain ⟨av, nv, cv, rfl⟩ := rd_slice hok.2.2
           have h := hK _ ((Below.refl _ _).alloc (Nat.le_refl _) (.cells (EntD.mk (.slice ar nr cr) fam (.slice aq nq cq) ts seq kind (.slice av nv cv) row qual val).cells 40)) (EBox.new Z _)
           simp only [EntD.cells, List.setIfInBounds_toArray, List.set_cons_zero, List.set_cons_succ] at h ⊢
           have Hh := Lib.hid h
           clear hK hok h
           gi_wp2
           exact Hh.out
          case body2 =>
           as_aux_lemma =>
            rintro l2 pre2 mm2 x2 B2 Z hr2 hl2 ⟨hp2, hbZ⟩ hB2 bx2 hyg2
            simp only at hp2 hyg2
            subst hp2
            simp only [List.setIfInBounds_toArray, List.set_cons_zero, List.set_cons_succ]
            have hb2Z : Below Y2.heap.size Y2 Z := HB3.out.trans (hbZ.mono HB3.out.size)
            obtain ⟨y2, hcs2, hse2⟩ := HSm.out x2 Z hyg2.1.2.1 hyg2.1.1 hyg2.1.2.2 hb2Z
            have nc2 := (HR2.out.later hb2Z).i_.cell
            have wc2 : Z.cell? ⟨X5.heap.size, 0, none⟩ = some (.slice (some ⟨bz, oz, none⟩) mz cap) := by have := (HX2.out.later hb2Z).c11.cell; rw [HLa.out.2.2] at this; exact this
            obtain ⟨c0, c1, c2', c3, c4, c5, c6⟩ := (⟨bx2.vr, bx2.fam, bx2.vq, bx2.ts, bx2.seq, bx2.kind, bx2.vv⟩ : _ ∧ _ ∧ _ ∧ _ ∧ _ ∧ _ ∧ _)
            have e0 := hcs2 0 _ rfl
            have e1 := hcs2 1 _ rfl
            have e2 := hcs2 2 _ rfl
            have e3 := hcs2 3 _ rfl
            have e4 := hcs2 4 _ rfl
            have e5 := hcs2 5 _ rfl
            have e6 := hcs2 6 _ rfl
            simp only [Nat.add_zero] at e0
            have KS2 : Hid (∀ wx, Below Z.heap.size Z wx → wx.cell? ⟨gi, 0, none⟩ = some (.int .i64 ((1 : Nat) : Int)) ∧ wx.cell? ⟨X5.heap.size, 0, none⟩ = some (.slice (some ⟨bz, oz, none⟩) mz cap) ∧ wx.cell? ⟨B2, 0, none⟩ = some x2.vr ∧ wx.cell? ⟨B2, 1, none⟩ = some (.int .i64 x2.fam) ∧ wx.cell? ⟨B2, 2, none⟩ = some x2.vq ∧ wx.cell? ⟨B2, 3, none⟩ = some (.int .i64 x2.ts) ∧ wx.cell? ⟨B2, 4, none⟩ = some (.int .i64 x2.seq) ∧ wx.cell? ⟨B2, 5, none⟩ = some (.int .i64 x2.kind) ∧ wx.cell? ⟨B2, 6, none⟩ = some x2.vv ∧ wx.cell? ⟨bz, oz, none⟩ = some y2.vr ∧ wx.cell? ⟨bz, oz + 1, none⟩ = some (.int .i64 y2.fam) ∧ wx.cell? ⟨bz, oz + 2, none⟩ = some y2.vq ∧ wx.cell? ⟨bz, oz + 3, none⟩ = some (.int .i64 y2.ts) ∧ wx.cell? ⟨bz, oz + 4, none⟩ = some (.int .i64 y2.seq) ∧ wx.cell? ⟨bz, oz + 5, none⟩ = some (.int .i64 y2.kind) ∧ wx.cell? ⟨bz, oz + 6, none⟩ = some y2.vv) := fun wx b =>
             ⟨(b.cell (World.block_lt_of_cell? _ _ nc2)).trans nc2, (b.cell (World.block_lt_of_cell? _ _ wc2)).trans wc2, (b.cell (World.block_lt_of_cell? _ _ c0)).trans c0, (b.cell (World.block_lt_of_cell? _ _ c1)).trans c1, (b.cell (World.block_lt_of_cell? _ _ c2')).trans c2', (b.cell (World.block_lt_of_cell? _ _ c3)).trans c3, (b.cell (World.block_lt_of_cell? _ _ c4)).trans c4, (b.cell (World.block_lt_of_cell? _ _ c5)).trans c5, (b.cell (World.block_lt_of_cell? _ _ c6)).trans c6, (b.cell (World.block_lt_of_cell? _ _ e0)).trans e0, (b.cell (World.block_lt_of_cell? _ _ e1)).trans e1, (b.cell (World.block_lt_of_cell? _ _ e2)).trans e2, (b.cell (World.block_lt_of_cell? _ _ e3)).trans e3, (b.cell (World.block_lt_of_cell? _ _ e4)).trans e4, (b.cell (World.block_lt_of_cell? _ _ e5)).trans e5, (b.cell (World.block_lt_of_cell? _ _ e6)).trans e6⟩
            have HSe2 := Lib.hid hse2
            have HbZ := Lib.hid hbZ
            unfold EntD.cells
            clear hcs2 hse2 nc2 wc2 c0 c1 c2' c3 c4 c5 c6 e0 e1 e2 e3 e4 e5 e6 hyg2 bx2 hr2 hl2 hbZ hb2Z
            gi_wp2_with fail
            refine wpIn_eq ?Fr1 ?q1 ?q2
            case q1 => exact reads_r27 hnm KS2.out HSe2.out
            case q2 =>
             as_aux_lemma =>
              intro Z2 hbZ2
              have HE2 : Hid (∀ J : Code → List EntD × Unit → World → Prop, J = (fun c st Z => c = Code.exit 2 ∧ Below Y3.heap.size Y3 Z) → RdF (J (Code.exit 2)) (fun (st : List EntD × Unit) k => False) xbE (fun k => False) [] x2 Z Z2) := fun J hJ => hJ ▸ ⟨(), ⟨rfl, HbZ.out.trans (hbZ2.mono HbZ.out.size)⟩, Fb.of_below hbZ2, fun k h => h.elim⟩
              clear hbZ2 KS2 HSe2 HbZ
              gi_wp2
              exact ⟨rfl, HE2.out _ rfl⟩
          case fin2 =>
           as_aux_lemma =>
            intro xs2 mm2 Z hz
            have hb2Z : Below Y2.heap.size Y2 Z := by
             have h3 : Below Y3.heap.size Y3 Z := by
              rcases hz with h | h
              ·exact h.2.2
              ·exact h.2
             exact HB3.out.trans (h3.mono HB3.out.size)
            have nc := (HR2.out.later hb2Z).i_.cell
            have nf := (HR2.out.later hb2Z).i_.fz
            have HFin := Lib.hid (HEnd.out Z hb2Z)
            have hwn := HWn.out.1
            have hwn2 := HWn.out.2
            clear hz hb2Z HEnd
            gi_wp2
            exact ⟨HPq.out, HFin.out⟩
        ·as_aux_lemma =>
          have hn1i : ¬ (n : Int) = 1 := by omega
          have hn1b : ((n : Int) == 1) = false := by simp; omega
          have hn1d : decide ((n : Int) = 1) = false := by simp; omega
          have nc := hri2.i_.cell
          have nf := hri2.i_.fz
          have hwn := HWn.out.1
          have hwn2 := HWn.out.2
          have HFin := Lib.hid (HEnd.out Y2 (Below.refl _ _))
          clear hri2 hRx2 fu2 f2 HEnd HWn HR2 HX2 HF2 HRi HbY HRY HBx HYg
          gi_wp2
          exact ⟨HPq.out, HFin.out⟩
   case fin =>
    as_aux_lemma =>
     intro D xs F X hD hcase hdf
     obtain ⟨n, hri, hnn⟩ : ∃ n : Nat, RI V X gF gi FO n F ∧ (n = mz ∨ (n : Int) = stop ∧ n < mz) := by
      rcases hcase with ⟨⟨h1, h2⟩, h3⟩ | ⟨⟨h1, h2⟩, h3⟩
      ·refine ⟨mz, ?_, .inl rfl⟩
       have e : xs.length = mz := by rw [h1, kvL_len, HLa.out.2.2]
       rw [← e]
       exact h3
      ·have hqm : q < mz := by rw [kvL_len, HLa.out.2.2] at h2; exact h2
       rcases HQ.out with h | h
       ·refine ⟨q, ?_, .inr ⟨h.1.symm, hqm⟩⟩
        have e : xs.length - 1 = q := by omega
        rw [← e]
        exact h3
       ·omega
     rename_i K1 hK1
     refine hK1 _ _ ?_
     clear hK1
     refine wpIn_seq_k (fun K2 hK2 => ?_)
     have HK2 := Lib.hid hK2
     have HRi := Lib.hid hri
     have hRx := hri.rx HRV.out HIV.out
     have nc := hri.i_.cell
     have wc : X.cell? ⟨X5.heap.size, 0, none⟩ = some (.slice (some ⟨bz, oz, none⟩) mz cap) := by have := hRx.c11.cell; rw [HLa.out.2.2] at this; exact this
     have sc := hRx.c5.cell
     have HD := Lib.hid (And.intro hD hdf)
     clear hK2 hri hRx hcase hD hdf
     have hs6 : W.heap.size + 1 < X0.heap.size := by omega
     have HEnd : Hid (∀ (A : Array Value) (D2 : Nat) (Z : World), Fb X Z (fun k => F k ∨ k = gi ∨ k = W.heap.size + 1) → Cell1B Z (W.heap.size + 1) (.bool true) 4 → X.heap.size ≤ D2 → Z.heap[D2]? = some (.deferred (some [])) → (Z.putObj D2 (.deferred none)).heap[D]? = some (.deferred (some [])) ∧ ((Z.putObj D2 (.deferred none)).putObj D (.deferred none)).cell? ⟨W.heap.size + 1, 0, none⟩ = some (.bool true) ∧ Below W.heap.size W ((Z.putObj D2 (.deferred none)).putObj D (.deferred none))) := fun A D2 Z hf hc hD2 hdf2 => reads_fin HA0.out HB0V.out HRi.out HFl.out HLo2.out hgi0 hgiV' hs6 HD.out.1 HD.out.2 hf hc hD2 hdf2
     have hriq : RI Vq X gF gi FO n F := ⟨HRi.out.fu, HRi.out.i_, (Fb.of_below HVq.out.1).trans HRi.out.fb, fun k h => (HRi.out.new k h).imp_right (fun h => by have := HVq.out.2.1; omega)⟩
     have hXs : Vq.heap.size + 2 ≤ X.heap.size := by have h1 := (Array.getElem?_eq_some_iff.1 HD.out.2).1; have := HVq.out.2.1; have := HD.out.1; omega
     have HGo := Lib.hid (And.intro hriq (And.intro hXs (show gi < Vq.heap.size by have := HVq.out.2.1; omega)))
     clear hriq hXs hs6
     rcases hnn with hnn | ⟨hst, hlt⟩
     ·subst hnn
      gi_wp2
      refine HK2.out _ _ ?_
      refine reads_loop HVq.out.2.2.1 HIV.out HGo.out.1 HGo.out.2.1 HLa.out.2.2 HGo.out.2.2 HFi.out HVq.out.2.2.2 ?_
      intro A D2 Z hA hf hc hD2 hdf2
      obtain ⟨e1, e2, e3⟩ := HEnd.out A D2 Z hf hc hD2 hdf2
      refine ⟨by simp, .inl ⟨_, _, rfl, run_takeDeferred hdf2, ?_⟩⟩
      refine ⟨by simp, .inl ⟨_, _, rfl, run_takeDeferred e1, ?_⟩⟩
      exact ⟨.bool true, by simp [results, Tryz.results4, go_sem, hA, e2], rfl, e3⟩
     ·have hne : ¬ (n : Int) = (mz : Int) := by omega
      subst hst
      gi_wp2
      refine HK2.out _ _ ?_
      refine reads_loop HVq.out.2.2.1 HIV.out HGo.out.1 HGo.out.2.1 HLa.out.2.2 HGo.out.2.2 HFi.out HVq.out.2.2.2 ?_
      intro A D2 Z hA hf hc hD2 hdf2
      obtain ⟨e1, e2, e3⟩ := HEnd.out A D2 Z hf hc hD2 hdf2
      refine ⟨by simp, .inl ⟨_, _, rfl, run_takeDeferred hdf2, ?_⟩⟩
      refine ⟨by simp, .inl ⟨_, _, rfl, run_takeDeferred e1, ?_⟩⟩
      exact ⟨.bool true, by simp [results, Tryz.results4, go_sem, hA, e2], rfl, e3⟩
theorem blockReads_walk2 {W : World} {vb vk : Value} {bs0 key : List Nat} {stop : Int} (hb : Rd W vb bs0) (hkey : Rd W vk key) (ht : Tab W) :
  Calls Tryz.prog 4 #[vb, vk, .int .i64 stop] W fun x w' => x = .returned (.bool true) ∧ Below W.heap.size W w' := by
 obtain ⟨ak, kn, kc, rfl⟩ := rd_slice hkey
 exact blockReads_walk hb hkey ht
end Go.Proofs.YtchebhafabhabaaGreatDoor

namespace Go.Proofs.YtchebhafabhabaaGreatDoor
open Go.ChangeShapes Go.WideShapes Go.ChangeAt Go.RowKit
set_option linter.unusedVariables false

theorem own_knob : ownKnob Tryz.prog.godebug = none := by kernel_rfl
theorem laid_out : laidOutB Tryz.prog = true := by kernel_rfl
theorem g_tab : Tryz.prog.globalNamed "strata/wire.halves" = some 0 := by kernel_rfl
theorem g_tab_type : (Tryz.prog.globals[0]?).map (·.type) = some 128 := by kernel_rfl
theorem und_tab : Tryz.prog.underlying 128 = some (.array 16 98) := by kernel_rfl
theorem und_u32 : Tryz.prog.underlying 98 = some (.int .u32) := by kernel_rfl
theorem und_int : Tryz.prog.underlying 3 = some (.int .i64) := by kernel_rfl
theorem und_bool : Tryz.prog.underlying 4 = some .bool := by kernel_rfl
theorem cells_tab : Tryz.prog.cellsOf 128 = 16 := by kernel_rfl
theorem cells_u32 : Tryz.prog.cellsOf 98 = 1 := by kernel_rfl
theorem cells_byte : Tryz.prog.cellsOf 5 = 1 := by kernel_rfl
theorem tab_of {W : World} (h : laidMetH Tryz.prog Rows.blockBuildsRow.laid W) : Tab W := by
 have t : Lib.TabIs Tryz.prog W "strata/wire.halves" .u32 [0, 274646895, 549293790, 820201905, 1098587580, 1361435347, 1640403810, 1905808397, 2197175160, 2460548119, 2722870694, 2987750089, 3280807620, 3553878443, 3811616794, 4084100981] :=
  Lib.tabIs_of_head (rest := []) g_tab g_tab_type und_tab und_u32 cells_u32 cells_tab h
 intro i hi
 have := t.cell g_tab i (by simpa using hi)
 rw [this]
 have key : ∀ j, j < 16 → ([0, 274646895, 549293790, 820201905, 1098587580, 1361435347, 1640403810, 1905808397, 2197175160, 2460548119, 2722870694, 2987750089, 3280807620, 3553878443, 3811616794, 4084100981] : List Int).getD j 0 = ((tab.getD j 0 : Nat) : Int) := by decide
 rw [key i hi]

theorem bulk_pos {H : Type} (d : DataW H) : 1 ≤ Rows.uptoBulk d := by
 cases d with
 | lit l => cases l <;> simp [Rows.uptoBulk]
 | nil => simp [Rows.uptoBulk]
 | ptr d => simp [Rows.uptoBulk]
 | slice elems spare => simp [Rows.uptoBulk]
 | agg parts => simp [Rows.uptoBulk]
 | iface t d => simp [Rows.uptoBulk]
 | map entries => simp [Rows.uptoBulk]
 | held h => simp [Rows.uptoBulk]
theorem bulk_len {H : Type} (l : List (DataW H)) : l.length ≤ Rows.uptoBulkAll l := by
 induction l with
 | nil => simp [Rows.uptoBulkAll]
 | cons x r ih => have := bulk_pos x; simp only [Rows.uptoBulkAll, List.length_cons]; omega

theorem open_bytes {H : Type} {enc : TypeId × Value → H} {W : World} {v : Value} {d : DataW H} {p : List MemPlace} {base : Nat} {held : Bool} (h : DataW.Trod enc Tryz.prog W base (fun _ => true) held 36 v d p) (hs : ∃ a n c, v = .slice a n c) :
  ∃ bs : List Nat, (bs.length ≤ 281474976710656 → Rd W v bs) ∧ bs.length + 1 ≤ Rows.uptoBulk d ∧ (bs = [] ∨ ∃ elems spare, d = .slice elems spare ∧ elems.length = bs.length) := by
 obtain ⟨a, n, c, rfl⟩ := hs
 obtain ⟨fuel, hf⟩ := h
 rcases open_ints und_bytes und_byte cells_byte hf with ⟨hcs, hx⟩ | ⟨x, l, c', zs, hcs, _, hl, hm, hz, hx, hcell, hwz⟩
 ·simp [Value.cells] at hcs
  obtain ⟨rfl, rfl, rfl⟩ := hcs
  refine ⟨[], fun _ => Rd.nil W, ?_, .inl rfl⟩
  have := bulk_pos d
  simpa using this
 ·simp [Value.cells] at hcs
  obtain ⟨rfl, rfl, rfl⟩ := hcs
  simp only [if_true] at hz
  simp only [Prod.mk.injEq] at hx
  obtain ⟨rfl, _⟩ := hx
  have hby : ∀ i, i < zs.length → 0 ≤ zs.getD i 0 ∧ zs.getD i 0 < 256 := by
   intro i hi
   have hmem : zs.getD i 0 ∈ zs := by simp [List.getD, List.getElem?_eq_getElem hi]
   have := bounds_u8 (hwz _ hmem)
   omega
  refine ⟨(zs.take n).map Int.toNat, fun hlen => ⟨?_, some x, c, ?_, ?_, hm, hlen, ?_, ?_⟩, ?_, .inr ⟨_, _, rfl, by simp [lits]⟩⟩
  ·intro y hy
   simp only [List.mem_map] at hy
   obtain ⟨z, hz1, rfl⟩ := hy
   have := bounds_u8 (hwz z (List.mem_of_mem_take hz1))
   omega
  ·simp; omega
  ·simp; omega
  ·by_cases hc0 : c = 0
   ·exact .inl hc0
   ·right
    obtain ⟨b, off, spot⟩ := x
    have hc := hcell 0 (by omega)
    have hspot : spot = none := by simpa [Addr.add] using World.cell?_spot hc
    subst hspot
    exact ⟨b, off, rfl⟩
  ·by_cases hn0 : n = 0
   ·left; simp [hn0]
   ·right
    obtain ⟨b, off, spot⟩ := x
    have hc := hcell 0 (by omega)
    have hspot : spot = none := by simpa [Addr.add] using World.cell?_spot hc
    subst hspot
    refine ⟨b, off, rfl, fun i hi => ?_⟩
    have hin : i < n := by simp at hi; omega
    have hc := hcell i (by omega)
    have e : (⟨b, off, none⟩ : Addr).add i = ⟨b, off + i, none⟩ := by unfold Addr.add; split <;> simp_all
    rw [e] at hc
    rw [hc]
    have hb := hby i (by omega)
    have e2 : ((zs.take n).map Int.toNat).getD i 0 = (zs.getD i 0).toNat := by
     simp [List.getElem?_take_of_lt hin, List.getElem?_eq_getElem (show i < zs.length by omega)]
    rw [e2, Int.toNat_of_nonneg hb.1]
  ·have h1 := bulk_len (H := H) (lits .u8 (zs.take n))
   simp only [Rows.uptoBulk]
   simp [lits] at h1 ⊢
   omega

theorem reach_bytes {H : Type} {ts : List TypeId} {ds gs : List (DataW H)} (h : (DataW.weightsEach Tryz.prog ts (ds ++ gs)).all (fun x => decide (x ≤ reachBytes)) = true) (j : Nat) (ht : ts[j]? = some 36) {d : DataW H} (hd : ds[j]? = some d) {bs : List Nat} (hx : bs = [] ∨ ∃ elems spare, d = .slice elems spare ∧ elems.length = bs.length) : bs.length ≤ 140737488351232 := by
 rcases hx with rfl | ⟨elems, spare, rfl, hl⟩
 ·simp
 ·have hd2 : (ds ++ gs)[j]? = some (.slice elems spare) := by
   rw [List.getElem?_append_left (List.getElem?_eq_some_iff.1 hd).1]
   exact hd
  have := sized_slice h ht hd2 und_bytes
  rw [show Tryz.prog.bytesOf 5 = 1 by kernel_rfl] at this
  unfold reachBytes at this
  omega

end Go.Proofs.YtchebhafabhabaaGreatDoor
