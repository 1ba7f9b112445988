import Derived.Test.YtlkhphhmhffdjaaK11
set_option linter.unusedSimpArgs false
set_option linter.unusedVariables false
namespace Go.Proofs.Ytlkhphhmhffdjaa
open Go.RowKit Go.MapKept Go.Sort
variable {w w' W X : World} {O O' : Nat → Prop} {dB rB : Nat} {d r : Dk4}
section
variable {P : Program} {ops : Array Oper} {Q : Exit → Act → World → Prop} {md : Region.Mode} {S : World → Prop} {E : Nat → Bool}
theorem AnyE.duo {i j : Nat} {oi oj : Oper} {fuel : Nat} {listed : Array Bool} {a : Act} {w : World} (hi : ops[i]? = some oi) (hj : ops[j]? = some oj) (hr : Region.ready md ops listed = [i, j]) (hwi : Region.wanted oi (yielded ops a.tmps) = true) (hwj : Region.wanted oj (yielded ops a.tmps) = true)
  (h1 : ∀ K : Act → World → Prop, Hid (∀ a' w', ((E i = true → S w') ∧ AnyE P md ops Q S E fuel (listed.setIfInBounds i true) a' w') → K a' w') → Oper.wp P oi a w K Q)
  (h2 : ∀ K : Act → World → Prop, Hid (∀ a' w', ((E j = true → S w') ∧ AnyE P md ops Q S E fuel (listed.setIfInBounds j true) a' w') → K a' w') → Oper.wp P oj a w K Q) : AnyE P md ops Q S E (fuel + 1) listed a w :=
 ⟨fun k => (by rw [hr] at k; cases k), fun m hm => by
  rw [hr] at hm
  rcases List.mem_cons.1 hm with rfl | hm
  ·exact wpOp_step hi (fun K' hK => by rw [if_pos hwi]; exact h1 K' hK)
  ·obtain rfl : m = j := by simpa using hm
   exact wpOp_step hj (fun K' hK => by rw [if_pos hwj]; exact h2 K' hK)⟩
end
def renameR (r : Dk4) (s t : ByteArray) : Int × Dk4 :=
 if rdyN r.down [s, t] ≠ 0 then (rdyN r.down [s, t], r)
 else match atP r.fs s with
  | none => (42, r)
  | some v => actP r false (insP (delP (delP r.fs s) t) (t, v)) (setCt r.c 3 (wrap64 (r.c 3 + 1)))
theorem rdy_two {down : Bool} {s t : ByteArray} : rdyN down [s, t] = if rdyN down [s] ≠ 0 then rdyN down [s] else rdyN down [t] := by
 cases down with
 | true => rfl
 | false =>
  unfold rdyN chkN
  by_cases h1 : DkName s <;> by_cases h2 : DkName t <;> simp [h1, h2]
theorem pair_mem {α : Type} {R : α → α → Prop} (hs : ∀ a b, R a b → R b a) {l : List α} (h : l.Pairwise R) {x y : α} (hx : x ∈ l) (hy : y ∈ l) (hne : x ≠ y) : R x y := by
 obtain ⟨i, hi⟩ := List.getElem?_of_mem hx
 obtain ⟨j, hj⟩ := List.getElem?_of_mem hy
 obtain ⟨li, ei⟩ := List.getElem?_eq_some_iff.1 hi
 obtain ⟨lj, ej⟩ := List.getElem?_eq_some_iff.1 hj
 have pw := List.pairwise_iff_getElem.1 h
 rcases Nat.lt_trichotomy i j with z | z | z
 ·have := pw i j li lj z
  rw [ei, ej] at this
  exact this
 ·subst z
  rw [hi] at hj
  cases hj
  exact absurd rfl hne
 ·have := pw j i lj li z
  rw [ei, ej] at this
  exact hs _ _ this
theorem fbox_set {fb : Nat} {x y z : Value} (h : w.heap[fb]? = some (.cells #[x, y, z] 60 (0, 0))) (a b c : Value) : (((w.setCell ⟨fb, 0, none⟩ a).setCell ⟨fb, 1, none⟩ b).setCell ⟨fb, 2, none⟩ c).heap[fb]? = some (.cells #[a, b, c] 60 (0, 0)) := by
 have h1 : (w.setCell ⟨fb, 0, none⟩ a).heap[fb]? = some (.cells #[a, y, z] 60 (0, 0)) := by rw [heap_setCell_same w fb 0 _ _ _ h]; simp
 have h2 : ((w.setCell ⟨fb, 0, none⟩ a).setCell ⟨fb, 1, none⟩ b).heap[fb]? = some (.cells #[a, b, z] 60 (0, 0)) := by rw [heap_setCell_same _ fb 1 _ _ _ h1]; simp
 rw [heap_setCell_same _ fb 2 _ _ _ h2]
 simp
theorem ok_ren {s t : ByteArray} {v : List Nat × Nat} (ok : r.Ok) (h : atP r.fs s = some v) (ht : DkName t) : FsOk r.cap (insP (delP (delP r.fs s) t) (t, v)) := by
 refine (fsOk_ren ok h ht).perm ?_
 have n1 := delP_nod (s := s) ok.nod
 refine (setP_perm n1).trans ?_
 rw [← delP_filter n1]
 exact (insP_perm _ _).symm
theorem srt_del {s : ByteArray} {l : List PF} (h : Srt l) : Srt (delP l s) := by
 rw [delP_filter h.nod]
 exact List.Pairwise.sublist List.filter_sublist h
theorem srt_ren {s t : ByteArray} {v : List Nat × Nat} {l : List PF} (h : Srt l) : Srt (insP (delP (delP l s) t) (t, v)) := by
 refine insP_srt (srt_del (srt_del h)) (fun p hp => ?_)
 rw [delP_filter (srt_del h).nod] at hp
 simpa using (List.mem_filter.1 hp).2
theorem rn_go {w0 w3 V w5 w6 w8 : World} {O O5 O6 O8 : Nat → Prop} {fb : Nat} {t : ByteArray} (g3 : Go4 w0 w3 O O) (b : Below w3.heap.size w3 V) (g5 : Go4 V w5 O O5) (g6 : Go4 w5 w6 O5 O6) (lt : ∀ i, O i → i < w3.heap.size) (hfb : w3.heap.size ≤ fb) (g8 : Go4 (w6.setCell ⟨fb, 0, none⟩ (.string t)) w8 O6 O8) : Go4 w0 w8 O O8 := by
 have ga := ((Go4.of_below (O := O) b).trans g5).trans g6
 have gs : Go4 w6 (w6.setCell ⟨fb, 0, none⟩ (.string t)) (fun i => O6 i ∨ i = fb) (fun i => O6 i ∨ i = fb) := Go4.of_set (a := ⟨fb, 0, none⟩) (O := fun i => O6 i ∨ i = fb) (.inr rfl) _
 have szs : (w6.setCell ⟨fb, 0, none⟩ (.string t)).heap.size = w6.heap.size := by simp [World.setCell]
 refine g3.trans ⟨g8.os.trans ga.os, g8.tape.trans ga.tape, g8.output.trans ga.output, Nat.le_trans ga.size (by have := g8.size; rw [szs] at this; exact this), fun i hi ho => ?_, fun i hi => ?_⟩
 ·have n6 : ¬ O6 i := fun z => (ga.new i z).elim ho (fun q => by omega)
  rw [g8.block i (by rw [szs]; exact Nat.lt_of_lt_of_le hi ga.size) n6, heap_setCell_other _ _ _ _ (show i ≠ fb by omega)]
  exact ga.block i hi ho
 ·rcases g8.new i hi with z | z
  ·exact ga.new i z
  ·rw [szs] at z
   exact .inr (Nat.le_trans ga.size z)
set_option maxRecDepth 100000 in
set_option maxHeartbeats 8000000 in
theorem rRename_any {s t : ByteArray} (h : RD w O rB r) : Calls Try.prog 26 #[.pointer (some ⟨rB, 0, none⟩), .string s, .string t] w (AnsR w O rB (renameR r s t)) := by
 have h9 := h
 obtain ⟨⟨ok, srt⟩, a, n, k, l, hm, hl⟩ := h
 have hR : ∃ R, R = renameR r s t := ⟨_, rfl⟩
 obtain ⟨R, hR⟩ := hR
 rw [← hR]
 have hn : n = r.fs.length := by rw [← hl, List.length_map]; exact hm.row.len
 have HM := Lib.hid (And.intro hm (And.intro hl hn))
 have HOK := Lib.hid (And.intro ok srt)
 have H9 := Lib.hid h9
 unfold renameR at hR
 rw [rdy_two] at hR
 have hq : ∃ q, q = rdyN r.down [s] := ⟨_, rfl⟩
 obtain ⟨q, hq⟩ := hq
 have hq2 : ∃ q2, q2 = rdyN r.down [t] := ⟨_, rfl⟩
 obtain ⟨q2, hq2⟩ := hq2
 have HASK := Lib.hid (rAsked_any hm s)
 have HASK2 := Lib.hid (rAsked_any hm t)
 rw [← hq] at HASK hR
 rw [← hq2] at HASK2 hR
 have hth := rThere_any hm s
 rw [hl] at hth
 have HTH := Lib.hid hth
 have HQ := Lib.hid hq
 have HQ2 := Lib.hid hq2
 have HR := Lib.hid hR
 clear ok srt hm hl hn h9 hq hq2 hR hth
 by_cases h0 : q = 0
 ·subst h0
  have hdn := rdy_dn HQ.out.symm
  have HDN := Lib.hid hdn
  clear hdn
  by_cases h02 : q2 = 0
  ·subst h02
   have hth0 : reaR r.down r.fs s = if (atP r.fs s).isSome then 0 else 42 := by unfold reaR; rw [if_pos HQ.out.symm]
   cases hv : atP r.fs s with
   | none =>
    have hRR : R = (42, r) := by rw [HR.out, if_neg (by simp), hv]
    have hth := HTH.out
    rw [hth0, hv] at hth
    simp only [Option.isSome_none, Bool.false_eq_true, if_false] at hth
    have HT := Lib.hid hth
    subst hRR
    clear hth hth0 hv
    go_enter Try.func26, Try.ntmps26
    go_wp2_with fail
    refine HASK.out.mono ?_
    rintro e w2 ⟨rfl, rfl⟩
    go_wp2_with fail
    refine HASK2.out.mono ?_
    rintro e w2 ⟨rfl, rfl⟩
    go_wp2_with fail
    refine HT.out.mono ?_
    rintro e w2 ⟨rfl, rfl⟩
    go_wp2
    go_ret
    exact ⟨rfl, O, H9.out, Go4.refl _ _⟩
   | some v =>
    have hRR : R = actP r false (insP (delP (delP r.fs s) t) (t, v)) (setCt r.c 3 (wrap64 (r.c 3 + 1))) := by rw [HR.out, if_neg (by simp), hv]
    have hth := HTH.out
    rw [hth0, hv] at hth
    simp only [Option.isSome_some, if_true] at hth
    have HT := Lib.hid hth
    have HV := Lib.hid hv
    clear hth hth0 hv
    by_cases ha : r.arm = 1
    ·rw [actP_1 ha] at hRR
     simp only [Bool.false_eq_true, if_false] at hRR
     have hla := rLast_any HM.out.1 HOK.out.1.arm0 HOK.out.1.arm1
     rw [ha, lastP_1] at hla
     have HLA := Lib.hid hla
     subst hRR
     clear ha hla
     go_enter Try.func26, Try.ntmps26
     go_wp2_with fail
     refine HASK.out.mono ?_
     rintro e w2 ⟨rfl, rfl⟩
     go_wp2_with fail
     refine HASK2.out.mono ?_
     rintro e w2 ⟨rfl, rfl⟩
     go_wp2_with fail
     refine HT.out.mono ?_
     rintro e w2 ⟨rfl, rfl⟩
     go_wp2_with fail
     refine HLA.out.mono ?_
     rintro e w3 ⟨rfl, h3, g3⟩
     have H3 := Lib.hid (And.intro h3 g3)
     clear h3 g3
     go_wp2
     go_ret
     exact ⟨rfl, O, ⟨⟨HOK.out.1.mk2 HOK.out.1.fs (by decide) (by decide) true r.c, HOK.out.2⟩, _, _, _, _, H3.out.1, HM.out.2.1⟩, H3.out.2⟩
    ·have hA1 : ∃ A1, A1 = if 0 < r.arm then r.arm - 1 else 0 := ⟨_, rfl⟩
     obtain ⟨A1, hA1⟩ := hA1
     have hl2 := actP_n (torn := false) (f := insP (delP (delP r.fs s) t) (t, v)) (x := setCt r.c 3 (wrap64 (r.c 3 + 1))) ha HOK.out.1.arm0 HDN.out
     rw [← hA1] at hl2
     rw [hl2.2] at hRR
     have HLAST := Lib.hid (And.intro hl2.1 (And.intro ha hA1))
     have HA1 : Hid (0 ≤ A1 ∧ A1 ≤ 9223372036854775807) := by
      have h0 := HOK.out.1.arm0
      have h1 := HOK.out.1.arm1
      rw [hA1]
      unfold Hid
      split <;> omega
     subst hRR
     clear hA1 hl2 ha
     have hla := rLast_any HM.out.1 HOK.out.1.arm0 HOK.out.1.arm1
     rw [HLAST.out.1] at hla
     have HLA := Lib.hid hla
     clear hla
     have hidx : ∃ i, idxP (l.map (·.1)) s = some i := by
      cases hi : idxP (l.map (·.1)) s with
      | some i => exact ⟨i, rfl⟩
      | none =>
       have := (idxP_none hi).1
       rw [HM.out.2.1, HV.out] at this
       cases this
     obtain ⟨i, hi⟩ := hidx
     have e2 : idxI (l.map (·.1)) s = (i : Int) := by unfold idxI; rw [hi]
     obtain ⟨v2, hi1, hi2, _⟩ := idxP_some hi
     rw [HM.out.2.1, HV.out] at hi2
     cases hi2
     rw [List.getElem?_map] at hi1
     obtain ⟨x, hx, ex⟩ := Option.map_eq_some_iff.1 hi1
     have hset := setP_idx (v := v) hi
     rw [HM.out.2.1] at hset
     have HI := Lib.hid (And.intro hset ex)
     have HX := Lib.hid hx
     have hin : i < n := by have := (List.getElem?_eq_some_iff.1 hx).1; have := HM.out.1.row.len; omega
     have i1 : (i : Int) < (n : Int) := by omega
     have i2 : (0 : Int) ≤ (i : Int) := by omega
     clear hi hi1 hset hx
     have E2 := Lib.hid e2
     have hvx : v = (x.1.2.1, x.1.2.2) := by rw [HI.out.2]
     have HVX0 := Lib.hid hvx
     clear e2 hvx
     go_enter Try.func26, Try.ntmps26
     go_wp2_with fail
     refine HASK.out.mono ?_
     rintro e w2 ⟨rfl, rfl⟩
     go_wp2_with fail
     refine HASK2.out.mono ?_
     rintro e w2 ⟨rfl, rfl⟩
     go_wp2_with fail
     refine HT.out.mono ?_
     rintro e w2 ⟨rfl, rfl⟩
     go_wp2_with fail
     refine HLA.out.mono ?_
     rintro e w3 ⟨rfl, h3, g3⟩
     have H3 := Lib.hid (And.intro h3 g3)
     clear h3 g3
     have hat2 := H3.out.1.row.at_ HX.out
     obtain ⟨g, hag, _, cx0, cx1, cx2⟩ := hat2
     subst hag
     have lg := World.block_lt_of_cell? _ _ cx0
     simp only at lg
     obtain ⟨xa, xc, hxv⟩ := (H3.out.1.dat x (List.mem_of_getElem? HX.out)).form
     have hnx : ∃ nx, nx = x.1.2.1.length := ⟨_, rfl⟩
     obtain ⟨nx, hnx⟩ := hnx
     have hxs : ∃ xs, xs = x.1.2.2 := ⟨_, rfl⟩
     obtain ⟨xs, hxs⟩ := hxs
     rw [hxv, ← hnx] at cx1
     rw [← hnx] at hxv
     rw [← hxs] at cx2
     have hnm : x.1.1 = s := by rw [HI.out.2]
     rw [hnm] at cx0
     have CN := Lib.hid cx0
     have CX := Lib.hid cx1
     have CS := Lib.hid cx2
     have HVX : Hid (((t, x.1.2.1, xs) : PF) = (t, v)) := by rw [HVX0.out, hxs]; rfl
     have HXV := Lib.hid (And.intro hxv hnx)
     clear hnm cx0 cx1 cx2 hxv hnx hxs
     go_upto_region 10 with fail
     have BD : Below w3.heap.size w3 w3.drew := (Below.refl _ _).drew
     refine wp_region_noPanic ?_
     refine wp_region_anyE (S := fun wx => Below w3.heap.size w3 wx) (E := fun j => true) (by kernel_rfl) ?_
     have hHeld : Below w3.heap.size w3 w3.drew := BD
     have HB := Lib.hid BD
     have hZ0 : ∃ z, z = w3.drew := ⟨_, rfl⟩
     obtain ⟨Z0, hZ0⟩ := hZ0
     rw [← hZ0] at HB hHeld ⊢
     clear hZ0 BD
     refine AnyE.take (i := 0) (.pointer (some ⟨rB, 0, none⟩)) rfl (by kernel_rfl) (by kernel_rfl) (by kernel_rfl) (by kernel_rfl) (fun _ _ _ h => h) (.inl ⟨by kernel_rfl, fun wy hy => by (go_simp; done)⟩) hHeld ?_
     try simp only [Act.put, List.setIfInBounds_toArray, List.set_cons_zero, List.set_cons_succ]
     refine AnyE.take (i := 1) (.pointer (some ⟨rB, 0, none⟩)) rfl (by kernel_rfl) (by kernel_rfl) (by kernel_rfl) (by kernel_rfl) (fun _ _ _ h => h) (.inl ⟨by kernel_rfl, fun wy hy => by (go_simp; done)⟩) hHeld ?_
     try simp only [Act.put, List.setIfInBounds_toArray, List.set_cons_zero, List.set_cons_succ]
     refine AnyE.take (i := 2) (.pointer (some ⟨rB, 1, none⟩)) rfl (by kernel_rfl) (by kernel_rfl) (by kernel_rfl) (by kernel_rfl) (fun _ _ _ h => h) (.inl ⟨by kernel_rfl, fun wy hy => by (go_simp; done)⟩) hHeld ?_
     try simp only [Act.put, List.setIfInBounds_toArray, List.set_cons_zero, List.set_cons_succ]
     refine AnyE.take (i := 3) (.slice (some ⟨g, 0, none⟩) n k) rfl (by kernel_rfl) (by kernel_rfl) (by kernel_rfl) (by kernel_rfl) (fun _ _ _ h => h) (.inl ⟨by kernel_rfl, fun wy hy => by (have q0 := (H3.out.1.below hy).box.cells.2.1; go_simp; done)⟩) hHeld ?_
     try simp only [Act.put, List.setIfInBounds_toArray, List.set_cons_zero, List.set_cons_succ]
     refine AnyE.take (i := 4) (.pointer (some ⟨rB, 0, none⟩)) rfl (by kernel_rfl) (by kernel_rfl) (by kernel_rfl) (by kernel_rfl) (fun _ _ _ h => h) (.inl ⟨by kernel_rfl, fun wy hy => by (go_simp; done)⟩) hHeld ?_
     try simp only [Act.put, List.setIfInBounds_toArray, List.set_cons_zero, List.set_cons_succ]
     refine AnyE.take (i := 5) (.string s) rfl (by kernel_rfl) (by kernel_rfl) (by kernel_rfl) (by kernel_rfl) (fun _ _ _ h => h) (.inl ⟨by kernel_rfl, fun wy hy => by (go_simp; done)⟩) hHeld ?_
     try simp only [Act.put, List.setIfInBounds_toArray, List.set_cons_zero, List.set_cons_succ]
     refine AnyE.duo (i := 6) (j := 9) rfl rfl (by kernel_rfl) (by kernel_rfl) (by kernel_rfl) (fun KK hK => ?_) (fun KK hK => ?_)
     ·have hat := rAt_any (H3.out.1.below HB.out) s
      rw [E2.out] at hat
      have HAT := Lib.hid hat
      clear hat
      go_simp
      go_at_call 41
      refine HAT.out.mono ?_
      rintro e9 Z1 ⟨rfl, hz1⟩
      rw [hz1] at *
      clear hz1 HAT
      go_wp2_with fail
      refine hK.out _ _ ⟨fun _ => hHeld, ?_⟩
      clear hK
      try simp only [Act.put, List.setIfInBounds_toArray, List.set_cons_zero, List.set_cons_succ]
      refine AnyE.take (i := 7) (.pointer (some ⟨g, i * 3, none⟩)) rfl (by kernel_rfl) (by kernel_rfl) (by kernel_rfl) (by kernel_rfl) (fun _ _ _ h => h) (.inl ⟨by kernel_rfl, fun wy hy => by (go_simp; done)⟩) hHeld ?_
      try simp only [Act.put, List.setIfInBounds_toArray, List.set_cons_zero, List.set_cons_succ]
      refine AnyE.take (i := 8) (.agg #[.string s, .slice xa nx xc, .int .i64 (xs : Int)]) rfl (by kernel_rfl) (by kernel_rfl) (by kernel_rfl) (by kernel_rfl) (fun _ _ _ h => h) (.inl ⟨by kernel_rfl, fun wy hy => by (have q0 := (hy.cell (p := ⟨g, i * 3, none⟩) lg).trans CN.out; have q1 := (hy.cell (p := ⟨g, i * 3 + 1, none⟩) lg).trans CX.out; have q2 := (hy.cell (p := ⟨g, i * 3 + 2, none⟩) lg).trans CS.out; go_simp; done)⟩) hHeld ?_
      try simp only [Act.put, List.setIfInBounds_toArray, List.set_cons_zero, List.set_cons_succ]
      refine AnyE.one (i := 9) rfl (by kernel_rfl) (by kernel_rfl) (fun KK hK => ?_)
      go_simp
      have bA : Below Z0.heap.size Z0 (Z0.alloc (.cells #[.string ⟨#[]⟩, .slice none 0 0, .int .i64 0] 60)) := (Below.refl _ _).alloc (Nat.le_refl _) _
      have cA : (Z0.alloc (.cells #[.string ⟨#[]⟩, .slice none 0 0, .int .i64 0] 60)).heap[Z0.heap.size]? = some (.cells #[.string ⟨#[]⟩, .slice none 0 0, .int .i64 0] 60) := heap_alloc_new _ _
      have hfb : ∃ fb, fb = Z0.heap.size := ⟨_, rfl⟩
      obtain ⟨fb, hfb⟩ := hfb
      have hV : ∃ V, V = Z0.alloc (.cells #[.string ⟨#[]⟩, .slice none 0 0, .int .i64 0] 60) := ⟨_, rfl⟩
      obtain ⟨Z3, hV⟩ := hV
      rw [← hV] at bA cA ⊢
      have hfw : w3.heap.size ≤ fb := by rw [hfb]; exact HB.out.size
      rw [← hfb] at cA ⊢
      have HB := Lib.hid (HB.out.trans (bA.mono HB.out.size))
      have HFB := Lib.hid (And.intro hfw cA)
      clear bA cA hV hfb hfw
      have hHeld := HB.out
      refine hK.out _ _ ⟨fun _ => hHeld, ?_⟩
      clear hK
      try simp only [Act.put, List.setIfInBounds_toArray, List.set_cons_zero, List.set_cons_succ]
      refine AnyE.one (i := 10) rfl (by kernel_rfl) (by kernel_rfl) (fun KK hK => ?_)
      have f0 : Z3.frozen? ⟨fb, 0, none⟩ = false := by simp [World.frozen?, HFB.out.2]
      have f1 : Z3.frozen? ⟨fb, 1, none⟩ = false := by simp [World.frozen?, HFB.out.2]
      have f2 : Z3.frozen? ⟨fb, 2, none⟩ = false := by simp [World.frozen?, HFB.out.2]
      have x0 : Z3.cell? ⟨fb, 0, none⟩ = some (.string ⟨#[]⟩) := by simp [World.cell?, HFB.out.2]
      have x1 : Z3.cell? ⟨fb, 1, none⟩ = some (.slice none 0 0) := by simp [World.cell?, HFB.out.2]
      have x2 : Z3.cell? ⟨fb, 2, none⟩ = some (.int .i64 0) := by simp [World.cell?, HFB.out.2]
      go_simp
      have hq := fbox_set (HFB.out.2) (.string s) (.slice xa nx xc) (.int .i64 (xs : Int))
      have hV : ∃ V, V = ((Z3.setCell ⟨fb, 0, none⟩ (.string s)).setCell ⟨fb, 1, none⟩ (.slice xa nx xc)).setCell ⟨fb, 2, none⟩ (.int .i64 (xs : Int)) := ⟨_, rfl⟩
      obtain ⟨V, hV⟩ := hV
      have hbV : Below w3.heap.size w3 V := by rw [hV]; exact ((HB.out.setCell (p := ⟨fb, 0, none⟩) HFB.out.1 _).setCell (p := ⟨fb, 1, none⟩) HFB.out.1 _).setCell (p := ⟨fb, 2, none⟩) HFB.out.1 _
      rw [← hV] at hq ⊢
      have HB := Lib.hid hbV
      have HFV := Lib.hid hq
      clear hV hq hbV f0 f1 f2 x0 x1 x2
      have hHeld := HB.out
      refine hK.out _ _ ⟨fun _ => hHeld, ?_⟩
      clear hK
      try simp only [Act.put, List.setIfInBounds_toArray, List.set_cons_zero, List.set_cons_succ]
      refine AnyE.done (by kernel_rfl) (NoPanic.normal ?_) _
      clear hHeld
      go_simp
      go_step
      have H4 := Lib.hid (H3.out.1.below HB.out)
      have hov := H4.out.dat x (List.mem_of_getElem? HX.out)
      rw [HXV.out.1] at hov
      have HOV := Lib.hid hov
      have NFB : Hid (¬ O fb) := fun z => by have := H3.out.1.lt fb z; have := HFB.out.1; omega
      have lfb : fb < V.heap.size := (Array.getElem?_eq_some_iff.1 HFV.out).1
      clear hov
      go_wp2_with fail
      refine (rDrop_any H4.out (by have := HM.out.2.2; have := HOK.out.1.cnt; omega) s).mono ?_
      rintro e w5 ⟨rfl, O5, a5, n5, k5, ⟨h5, g5⟩, s5, u5⟩
      have H5 := Lib.hid (And.intro h5 (And.intro g5 (And.intro s5 u5)))
      have NFB5 : Hid (¬ O5 fb) := fun z => (g5.new fb z).elim NFB.out (fun q => by omega)
      have HFV5 : Hid (w5.heap[fb]? = some (.cells #[.string s, .slice xa nx xc, .int .i64 (xs : Int)] 60 (0, 0))) := (u5 fb lfb (fun e => NFB.out (by rw [e]; exact H4.out.orb))).trans HFV.out
      have lfb5 : fb < w5.heap.size := Nat.lt_of_lt_of_le lfb g5.size
      have n5l : n5 ≤ 1000 := by
       have h1 := h5.row.len
       have h2 := List.length_filter_le (fun y : PF × Value => decide (y.1.1 ≠ s)) l
       have h3 := HM.out.1.row.len
       have h4 := HM.out.2.2
       have h6 := HOK.out.1.cnt
       unfold dropR at h1
       omega
      clear h5 g5 s5 u5
      go_wp2_with fail
      refine (rDrop_any H5.out.1 n5l t).mono ?_
      rintro e w6 ⟨rfl, O6, a6, n6, k6, ⟨h6, g6⟩, s6, u6⟩
      have NFB6 : Hid (¬ O6 fb) := fun z => (g6.new fb z).elim NFB5.out (fun q => by omega)
      have HFV6 : Hid (w6.heap[fb]? = some (.cells #[.string s, .slice xa nx xc, .int .i64 (xs : Int)] 60 (0, 0))) := (u6 fb lfb5 (fun e => NFB5.out (by rw [e]; exact H5.out.1.orb))).trans HFV5.out
      have n6l : n6 ≤ 1000 := by
       have h1 := h6.row.len
       have h2 := List.length_filter_le (fun y : PF × Value => decide (y.1.1 ≠ t)) (dropR l s)
       have h3 := H5.out.1.row.len
       unfold dropR at h1
       unfold dropR at h3 h2
       omega
      have ov6 : OwnO w6 O6 (.slice xa nx xc) x.1.2.1 := HOV.out.kept (fun q hq => by
       have hb := HOV.out.blk q hq
       have hne : q ≠ rB := H4.out.neDat (List.mem_of_getElem? HX.out) (by rw [HXV.out.1]; exact hq)
       have l1 := H4.out.lt q hb
       exact ⟨(u6 q (Nat.lt_of_lt_of_le l1 H5.out.2.1.size) hne).trans (H5.out.2.2.2 q l1 hne), s6 q (H5.out.2.2.1 q hb)⟩)
      have hap6 : ∀ y ∈ dropR (dropR l s) t, ∀ q, y.2.ownBlock = some q → (Value.slice xa nx xc).ownBlock ≠ some q := fun y hy q hyq hxq => by
       have hy1 := List.mem_filter.1 (List.mem_filter.1 hy).1
       have hne : y ≠ x := fun e => by
        have := hy1.2
        rw [e, HI.out.2] at this
        simp at this
       exact pair_mem (fun a b (z : ∀ g, a.2.ownBlock = some g → b.2.ownBlock ≠ some g) g h1 h2 => z g h2 h1) H4.out.nod hy1.1 (List.mem_of_getElem? HX.out) hne q hyq (by rw [HXV.out.1]; exact hxq)
      have H6 := Lib.hid (And.intro h6 (And.intro g6 (And.intro ov6 hap6)))
      have x0 : w6.cell? ⟨fb, 0, none⟩ = some (.string s) := by simp [World.cell?, HFV6.out]
      have x1 : w6.cell? ⟨fb, 1, none⟩ = some (.slice xa nx xc) := by simp [World.cell?, HFV6.out]
      have x2 : w6.cell? ⟨fb, 2, none⟩ = some (.int .i64 (xs : Int)) := by simp [World.cell?, HFV6.out]
      have f0 : w6.frozen? ⟨fb, 0, none⟩ = false := by simp [World.frozen?, HFV6.out]
      have h7 := h6.kept (w' := w6.setCell ⟨fb, 0, none⟩ (.string t)) (fun i hi => heap_setCell_other _ _ _ _ (fun e => NFB6.out (by have e2 : i = fb := e; rw [← e2]; exact hi))) (by simp [World.setCell])
      have ov7 : OwnO (w6.setCell ⟨fb, 0, none⟩ (.string t)) O6 (.slice xa nx xc) x.1.2.1 := ov6.kept (fun q hq => ⟨heap_setCell_other _ _ _ _ (fun e => NFB6.out (by have e2 : q = fb := e; rw [← e2]; exact ov6.blk q hq)), ov6.blk q hq⟩)
      have H7 := Lib.hid (And.intro h7 ov7)
      clear h6 g6 s6 u6 ov6 hap6 h7 ov7
      go_wp2_with fail
      refine (rPut_any (s := t) (y := xs) (bs := x.1.2.1) H7.out.1 n6l H7.out.2 H6.out.2.2.2).mono ?_
      rintro e w8 ⟨rfl, O8, a8, n8, k8, l8, h8, hl8, g8⟩
      have H8 := Lib.hid (And.intro h8 hl8)
      have hg3 := rn_go H3.out.2 HB.out H5.out.2.1 H6.out.2.1 (H3.out.1.lt) HFB.out.1 (t := t) g8
      have HG := Lib.hid hg3
      have c4 := h8.box.cells.2.2.2.2.1
      have c7 := h8.box.cells.2.2.2.2.2.2.2.1
      have z4 := h8.box.fz 4
      have z7 := h8.box.fz 7
      have HO := Lib.hid h8.orb
      clear h8 hl8 g8 hg3 x0 x1 x2 f0
      go_wp2
      go_ret
      refine ⟨rfl, O8, ⟨⟨HOK.out.1.mk2 (ok_ren HOK.out.1 HV.out (rdy_name HQ2.out.symm t (by simp))) HA1.out.1 HA1.out.2 false _, ?_⟩, a8, n8, k8, l8, ?_, ?_⟩, HG.out.trans ((Go4.of_set (a := ⟨rB, 4, none⟩) HO.out _).trans (Go4.of_set (a := ⟨rB, 7, none⟩) HO.out _))⟩
      ·exact srt_ren HOK.out.2
      ·have := (H8.out.1.setCt 0 (by decide) (wrap64 (r.c 0 + 1))).setCt 3 (by decide) (wrap64 (r.c 3 + 1))
       rw [ct_swap (by decide)] at this
       simp only [ct_0 (c := r.c) (k := 3) (y := wrap64 (r.c 3 + 1)) (by decide)]
       exact this
      ·simp only
       rw [H8.out.2, dropR_map, dropR_map, HM.out.2.1, delP_filter (delP_nod HOK.out.2.nod), delP_filter HOK.out.2.nod, HVX.out]
     ·go_simp
      have bA : Below Z0.heap.size Z0 (Z0.alloc (.cells #[.string ⟨#[]⟩, .slice none 0 0, .int .i64 0] 60)) := (Below.refl _ _).alloc (Nat.le_refl _) _
      have cA : (Z0.alloc (.cells #[.string ⟨#[]⟩, .slice none 0 0, .int .i64 0] 60)).heap[Z0.heap.size]? = some (.cells #[.string ⟨#[]⟩, .slice none 0 0, .int .i64 0] 60) := heap_alloc_new _ _
      have hfb : ∃ fb, fb = Z0.heap.size := ⟨_, rfl⟩
      obtain ⟨fb, hfb⟩ := hfb
      have hV : ∃ V, V = Z0.alloc (.cells #[.string ⟨#[]⟩, .slice none 0 0, .int .i64 0] 60) := ⟨_, rfl⟩
      obtain ⟨Z3, hV⟩ := hV
      rw [← hV] at bA cA ⊢
      have hfw : w3.heap.size ≤ fb := by rw [hfb]; exact HB.out.size
      rw [← hfb] at cA ⊢
      have HB := Lib.hid (HB.out.trans (bA.mono HB.out.size))
      have HFB := Lib.hid (And.intro hfw cA)
      clear bA cA hV hfb hfw
      have hHeld := HB.out
      refine hK.out _ _ ⟨fun _ => hHeld, ?_⟩
      clear hK
      try simp only [Act.put, List.setIfInBounds_toArray, List.set_cons_zero, List.set_cons_succ]
      refine AnyE.one (i := 6) rfl (by kernel_rfl) (by kernel_rfl) (fun KK hK => ?_)
      have hat := rAt_any (H3.out.1.below HB.out) s
      rw [E2.out] at hat
      have HAT := Lib.hid hat
      clear hat
      go_simp
      go_at_call 41
      refine HAT.out.mono ?_
      rintro e9 Z1 ⟨rfl, hz1⟩
      rw [hz1] at *
      clear hz1 HAT
      go_wp2_with fail
      refine hK.out _ _ ⟨fun _ => hHeld, ?_⟩
      clear hK
      try simp only [Act.put, List.setIfInBounds_toArray, List.set_cons_zero, List.set_cons_succ]
      refine AnyE.take (i := 7) (.pointer (some ⟨g, i * 3, none⟩)) rfl (by kernel_rfl) (by kernel_rfl) (by kernel_rfl) (by kernel_rfl) (fun _ _ _ h => h) (.inl ⟨by kernel_rfl, fun wy hy => by (go_simp; done)⟩) hHeld ?_
      try simp only [Act.put, List.setIfInBounds_toArray, List.set_cons_zero, List.set_cons_succ]
      refine AnyE.take (i := 8) (.agg #[.string s, .slice xa nx xc, .int .i64 (xs : Int)]) rfl (by kernel_rfl) (by kernel_rfl) (by kernel_rfl) (by kernel_rfl) (fun _ _ _ h => h) (.inl ⟨by kernel_rfl, fun wy hy => by (have q0 := (hy.cell (p := ⟨g, i * 3, none⟩) lg).trans CN.out; have q1 := (hy.cell (p := ⟨g, i * 3 + 1, none⟩) lg).trans CX.out; have q2 := (hy.cell (p := ⟨g, i * 3 + 2, none⟩) lg).trans CS.out; go_simp; done)⟩) hHeld ?_
      try simp only [Act.put, List.setIfInBounds_toArray, List.set_cons_zero, List.set_cons_succ]
      refine AnyE.one (i := 10) rfl (by kernel_rfl) (by kernel_rfl) (fun KK hK => ?_)
      have f0 : Z3.frozen? ⟨fb, 0, none⟩ = false := by simp [World.frozen?, HFB.out.2]
      have f1 : Z3.frozen? ⟨fb, 1, none⟩ = false := by simp [World.frozen?, HFB.out.2]
      have f2 : Z3.frozen? ⟨fb, 2, none⟩ = false := by simp [World.frozen?, HFB.out.2]
      have x0 : Z3.cell? ⟨fb, 0, none⟩ = some (.string ⟨#[]⟩) := by simp [World.cell?, HFB.out.2]
      have x1 : Z3.cell? ⟨fb, 1, none⟩ = some (.slice none 0 0) := by simp [World.cell?, HFB.out.2]
      have x2 : Z3.cell? ⟨fb, 2, none⟩ = some (.int .i64 0) := by simp [World.cell?, HFB.out.2]
      go_simp
      have hq := fbox_set (HFB.out.2) (.string s) (.slice xa nx xc) (.int .i64 (xs : Int))
      have hV : ∃ V, V = ((Z3.setCell ⟨fb, 0, none⟩ (.string s)).setCell ⟨fb, 1, none⟩ (.slice xa nx xc)).setCell ⟨fb, 2, none⟩ (.int .i64 (xs : Int)) := ⟨_, rfl⟩
      obtain ⟨V, hV⟩ := hV
      have hbV : Below w3.heap.size w3 V := by rw [hV]; exact ((HB.out.setCell (p := ⟨fb, 0, none⟩) HFB.out.1 _).setCell (p := ⟨fb, 1, none⟩) HFB.out.1 _).setCell (p := ⟨fb, 2, none⟩) HFB.out.1 _
      rw [← hV] at hq ⊢
      have HB := Lib.hid hbV
      have HFV := Lib.hid hq
      clear hV hq hbV f0 f1 f2 x0 x1 x2
      have hHeld := HB.out
      refine hK.out _ _ ⟨fun _ => hHeld, ?_⟩
      clear hK
      try simp only [Act.put, List.setIfInBounds_toArray, List.set_cons_zero, List.set_cons_succ]
      refine AnyE.done (by kernel_rfl) (NoPanic.normal ?_) _
      clear hHeld
      go_simp
      go_step
      have H4 := Lib.hid (H3.out.1.below HB.out)
      have hov := H4.out.dat x (List.mem_of_getElem? HX.out)
      rw [HXV.out.1] at hov
      have HOV := Lib.hid hov
      have NFB : Hid (¬ O fb) := fun z => by have := H3.out.1.lt fb z; have := HFB.out.1; omega
      have lfb : fb < V.heap.size := (Array.getElem?_eq_some_iff.1 HFV.out).1
      clear hov
      go_wp2_with fail
      refine (rDrop_any H4.out (by have := HM.out.2.2; have := HOK.out.1.cnt; omega) s).mono ?_
      rintro e w5 ⟨rfl, O5, a5, n5, k5, ⟨h5, g5⟩, s5, u5⟩
      have H5 := Lib.hid (And.intro h5 (And.intro g5 (And.intro s5 u5)))
      have NFB5 : Hid (¬ O5 fb) := fun z => (g5.new fb z).elim NFB.out (fun q => by omega)
      have HFV5 : Hid (w5.heap[fb]? = some (.cells #[.string s, .slice xa nx xc, .int .i64 (xs : Int)] 60 (0, 0))) := (u5 fb lfb (fun e => NFB.out (by rw [e]; exact H4.out.orb))).trans HFV.out
      have lfb5 : fb < w5.heap.size := Nat.lt_of_lt_of_le lfb g5.size
      have n5l : n5 ≤ 1000 := by
       have h1 := h5.row.len
       have h2 := List.length_filter_le (fun y : PF × Value => decide (y.1.1 ≠ s)) l
       have h3 := HM.out.1.row.len
       have h4 := HM.out.2.2
       have h6 := HOK.out.1.cnt
       unfold dropR at h1
       omega
      clear h5 g5 s5 u5
      go_wp2_with fail
      refine (rDrop_any H5.out.1 n5l t).mono ?_
      rintro e w6 ⟨rfl, O6, a6, n6, k6, ⟨h6, g6⟩, s6, u6⟩
      have NFB6 : Hid (¬ O6 fb) := fun z => (g6.new fb z).elim NFB5.out (fun q => by omega)
      have HFV6 : Hid (w6.heap[fb]? = some (.cells #[.string s, .slice xa nx xc, .int .i64 (xs : Int)] 60 (0, 0))) := (u6 fb lfb5 (fun e => NFB5.out (by rw [e]; exact H5.out.1.orb))).trans HFV5.out
      have n6l : n6 ≤ 1000 := by
       have h1 := h6.row.len
       have h2 := List.length_filter_le (fun y : PF × Value => decide (y.1.1 ≠ t)) (dropR l s)
       have h3 := H5.out.1.row.len
       unfold dropR at h1
       unfold dropR at h3 h2
       omega
      have ov6 : OwnO w6 O6 (.slice xa nx xc) x.1.2.1 := HOV.out.kept (fun q hq => by
       have hb := HOV.out.blk q hq
       have hne : q ≠ rB := H4.out.neDat (List.mem_of_getElem? HX.out) (by rw [HXV.out.1]; exact hq)
       have l1 := H4.out.lt q hb
       exact ⟨(u6 q (Nat.lt_of_lt_of_le l1 H5.out.2.1.size) hne).trans (H5.out.2.2.2 q l1 hne), s6 q (H5.out.2.2.1 q hb)⟩)
      have hap6 : ∀ y ∈ dropR (dropR l s) t, ∀ q, y.2.ownBlock = some q → (Value.slice xa nx xc).ownBlock ≠ some q := fun y hy q hyq hxq => by
       have hy1 := List.mem_filter.1 (List.mem_filter.1 hy).1
       have hne : y ≠ x := fun e => by
        have := hy1.2
        rw [e, HI.out.2] at this
        simp at this
       exact pair_mem (fun a b (z : ∀ g, a.2.ownBlock = some g → b.2.ownBlock ≠ some g) g h1 h2 => z g h2 h1) H4.out.nod hy1.1 (List.mem_of_getElem? HX.out) hne q hyq (by rw [HXV.out.1]; exact hxq)
      have H6 := Lib.hid (And.intro h6 (And.intro g6 (And.intro ov6 hap6)))
      have x0 : w6.cell? ⟨fb, 0, none⟩ = some (.string s) := by simp [World.cell?, HFV6.out]
      have x1 : w6.cell? ⟨fb, 1, none⟩ = some (.slice xa nx xc) := by simp [World.cell?, HFV6.out]
      have x2 : w6.cell? ⟨fb, 2, none⟩ = some (.int .i64 (xs : Int)) := by simp [World.cell?, HFV6.out]
      have f0 : w6.frozen? ⟨fb, 0, none⟩ = false := by simp [World.frozen?, HFV6.out]
      have h7 := h6.kept (w' := w6.setCell ⟨fb, 0, none⟩ (.string t)) (fun i hi => heap_setCell_other _ _ _ _ (fun e => NFB6.out (by have e2 : i = fb := e; rw [← e2]; exact hi))) (by simp [World.setCell])
      have ov7 : OwnO (w6.setCell ⟨fb, 0, none⟩ (.string t)) O6 (.slice xa nx xc) x.1.2.1 := ov6.kept (fun q hq => ⟨heap_setCell_other _ _ _ _ (fun e => NFB6.out (by have e2 : q = fb := e; rw [← e2]; exact ov6.blk q hq)), ov6.blk q hq⟩)
      have H7 := Lib.hid (And.intro h7 ov7)
      clear h6 g6 s6 u6 ov6 hap6 h7 ov7
      go_wp2_with fail
      refine (rPut_any (s := t) (y := xs) (bs := x.1.2.1) H7.out.1 n6l H7.out.2 H6.out.2.2.2).mono ?_
      rintro e w8 ⟨rfl, O8, a8, n8, k8, l8, h8, hl8, g8⟩
      have H8 := Lib.hid (And.intro h8 hl8)
      have hg3 := rn_go H3.out.2 HB.out H5.out.2.1 H6.out.2.1 (H3.out.1.lt) HFB.out.1 (t := t) g8
      have HG := Lib.hid hg3
      have c4 := h8.box.cells.2.2.2.2.1
      have c7 := h8.box.cells.2.2.2.2.2.2.2.1
      have z4 := h8.box.fz 4
      have z7 := h8.box.fz 7
      have HO := Lib.hid h8.orb
      clear h8 hl8 g8 hg3 x0 x1 x2 f0
      go_wp2
      go_ret
      refine ⟨rfl, O8, ⟨⟨HOK.out.1.mk2 (ok_ren HOK.out.1 HV.out (rdy_name HQ2.out.symm t (by simp))) HA1.out.1 HA1.out.2 false _, ?_⟩, a8, n8, k8, l8, ?_, ?_⟩, HG.out.trans ((Go4.of_set (a := ⟨rB, 4, none⟩) HO.out _).trans (Go4.of_set (a := ⟨rB, 7, none⟩) HO.out _))⟩
      ·exact srt_ren HOK.out.2
      ·have := (H8.out.1.setCt 0 (by decide) (wrap64 (r.c 0 + 1))).setCt 3 (by decide) (wrap64 (r.c 3 + 1))
       rw [ct_swap (by decide)] at this
       simp only [ct_0 (c := r.c) (k := 3) (y := wrap64 (r.c 3 + 1)) (by decide)]
       exact this
      ·simp only
       rw [H8.out.2, dropR_map, dropR_map, HM.out.2.1, delP_filter (delP_nod HOK.out.2.nod), delP_filter HOK.out.2.nod, HVX.out]
  ·have b2 : (q2 == 0) = false := by simpa using h02
   have n2 : (q2 != 0) = true := by simp [h02]
   have hRR : R = (q2, r) := by
    rw [HR.out]
    simp [h02]
   subst hRR
   go_enter Try.func26, Try.ntmps26
   go_wp2_with fail
   refine HASK.out.mono ?_
   rintro e w2 ⟨rfl, rfl⟩
   go_wp2_with fail
   refine HASK2.out.mono ?_
   rintro e w2 ⟨rfl, rfl⟩
   go_wp2
   go_ret
   exact ⟨rfl, O, H9.out, Go4.refl _ _⟩
 ·have b0 : (q == 0) = false := by simpa using h0
  have n0 : (q != 0) = true := by simp [h0]
  have hRR : R = (q, r) := by
   rw [HR.out]
   simp [h0]
  subst hRR
  go_enter Try.func26, Try.ntmps26
  go_wp2_with fail
  refine HASK.out.mono ?_
  rintro e w2 ⟨rfl, rfl⟩
  go_wp2
  go_ret
  exact ⟨rfl, O, H9.out, Go4.refl _ _⟩
end Go.Proofs.Ytlkhphhmhffdjaa

namespace Go.Proofs.Ytlkhphhmhffdjaa
open Go.RowKit Go.MapKept Go.Sort
variable {w w' W X : World} {O O' : Nat → Prop} {dB : Nat} {d : Dk4}
def readD (d : Dk4) (s : ByteArray) (x y : Int) : Int × List Nat :=
 if reaE d s ≠ 0 then (reaE d s, [])
 else if x < 0 ∨ y < 0 ∨ ((((atP d.fs s).getD ([], 0)).1.length : Nat) : Int) < x ∨ ((((atP d.fs s).getD ([], 0)).1.length : Nat) : Int) - x < y then (43, [])
 else (0, (((atP d.fs s).getD ([], 0)).1.drop x.toNat).take y.toNat)
def Dk4.red (d : Dk4) (b : Bool) : Dk4 := if b = true then { d with c := setCt d.c 5 (wrap64 (d.c 5 + 1)) } else d
theorem Rd.mid {w : World} {a : Option Addr} {n cap : Nat} {bs : List Nat} (h : Rd w (.slice a n cap) bs) (i m : Nat) (hm : i + m ≤ n) : Rd w (.slice (if cap = i then a else a.map (fun x => x.add i)) m (cap - i)) ((bs.drop i).take m) := by
 obtain ⟨h1, a0, cap0, h2, h3, h4, h5, h6, h7⟩ := h
 simp only [Value.slice.injEq] at h2
 obtain ⟨rfl, rfl, rfl⟩ := h2
 have hl : ((bs.drop i).take m).length = m := by rw [List.length_take, List.length_drop]; omega
 have ha : ∀ b off, (⟨b, off, none⟩ : Addr).add i = ⟨b, off + i, none⟩ := fun b off => by unfold Addr.add; split <;> simp_all
 refine ⟨fun x hx => h1 x (List.mem_of_mem_drop (List.mem_of_mem_take hx)), _, cap - i, by rw [hl], by rw [hl]; omega, Nat.le_trans (Nat.sub_le _ _) h4, by rw [hl]; omega, ?_, ?_⟩
 ·by_cases hc : cap = i
  ·exact .inl (by omega)
  ·rcases h6 with h6 | ⟨b, off, rfl⟩
   ·exact .inl (by omega)
   ·exact .inr ⟨b, off + i, by rw [if_neg hc, Option.map_some, ha]⟩
 ·by_cases hm0 : m = 0
  ·exact .inl (by rw [hm0]; simp)
  rcases h7 with rfl | ⟨b, off, rfl, hc⟩
  ·exact absurd hm (by simp; omega)
  ·refine .inr ⟨b, off + i, by rw [if_neg (by omega), Option.map_some, ha], fun k hk => ?_⟩
   rw [hl] at hk
   rw [Nat.add_assoc, hc (i + k) (by omega)]
   simp [List.getD_eq_getElem?_getD, List.getElem?_take_of_lt hk]
set_option maxRecDepth 100000 in
set_option maxHeartbeats 4000000 in
theorem read_any {s : ByteArray} {x y : Int} (hD : Dsk w O dB d) (hx : x ≤ 9223372036854775807) (hy : y ≤ 9223372036854775807) : Calls Try.prog 67 #[.pointer (some ⟨dB, 0, none⟩), .string s, .int .i64 x, .int .i64 y] w fun e w' =>
  ∃ v, e = .returned (.tuple #[v, .int .i64 (readD d s x y).1]) ∧ w'.ownsRow w.heap.size 5 1 v (readD d s x y).2.length (bv (readD d s x y).2) ∧ Dsk w' O dB (d.red (decide ((readD d s x y).1 = 0))) ∧ Go4 w w' O O := by
 have HD := Lib.hid hD
 obtain ⟨ok, mb, fl, hM, hfl⟩ := hD
 obtain ⟨es, clock, hm⟩ := hM.map
 obtain ⟨R, hR⟩ : ∃ R, R = readD d s x y := ⟨_, rfl⟩
 rw [← hR]
 unfold readD at hR
 have HRC := Lib.hid (reach_any hM.box hm s)
 obtain ⟨rp, hrp⟩ : ∃ rp, rp = ptrO (reaN d.down (fl.map fun f => (f.nm, f.b)) s).1 := ⟨_, rfl⟩
 obtain ⟨rc, hrc⟩ : ∃ rc, rc = (reaN d.down (fl.map fun f => (f.nm, f.b)) s).2 := ⟨_, rfl⟩
 rw [← hrp, ← hrc] at HRC
 have hrc2 : rc = reaE d s := hrc.trans (reaN_eq hfl)
 rw [← hrc2] at hR
 have HRR := Lib.hid hR
 have HRP := Lib.hid (And.intro hrp hrc2)
 have HM := Lib.hid (And.intro hM (And.intro ok hfl))
 clear hrp hrc hrc2 hm hM hfl ok hR
 go_enter Try.func67, Try.ntmps67
 go_wp2_with fail
 refine HRC.out.mono ?_
 rintro e w2 ⟨rfl, b2⟩
 have HB2 := Lib.hid b2
 clear b2 HRC
 by_cases h0 : rc = 0
 ·have hR := HRR.out
  rw [if_neg (by simp [h0])] at hR
  obtain ⟨hr, f, hf, hp, ha⟩ := reaN_ok (s := s) HM.out.2.2 (HRP.out.2.symm.trans h0)
  rw [ha] at hR
  simp only [Option.getD_some] at hR
  have hrp : rp = .pointer (some ⟨f.b, 0, none⟩) := by rw [HRP.out.1]; unfold ptrO; exact congrArg (fun o => Value.pointer (Option.map (fun b => (⟨b, 0, none⟩ : Addr)) o)) hp
  subst hrp
  have M2 := HM.out.1.below HB2.out
  have hfil := M2.fil f (atF_mem hf).1
  obtain ⟨a, c, hv⟩ := hfil.2.1.form
  have bx0 := hfil.1
  rw [hv] at bx0
  have hl : f.dat.length ≤ 67108864 := by
   have h1 := totP_mem ha
   have h2 := HM.out.2.1.tot
   have h3 := HM.out.2.1.cap1
   simp only at h1
   omega
  obtain ⟨n, hn⟩ : ∃ n, n = f.dat.length := ⟨_, rfl⟩
  rw [← hn] at bx0 hR hv hl
  have c0 := bx0.cells.1
  have HF := Lib.hid (And.intro hfil (And.intro hv hn))
  have HF2 := Lib.hid (And.intro hf (And.intro hp ha))
  have HR := Lib.hid hR
  have HM2 := Lib.hid M2
  clear hfil hv hn hf hp ha hR M2 hr HRP HRR
  subst h0
  by_cases x0 : x < 0
  ·have hR := HR.out
   rw [if_pos (.inl x0)] at hR
   subst hR
   go_wp2
   go_ret2
   exact ⟨_, rfl, World.ownsRow_nil .., HD.out.below HB2.out, Go4.of_below HB2.out⟩
  by_cases y0 : y < 0
  ·have hR := HR.out
   rw [if_pos (.inr (.inl y0))] at hR
   subst hR
   go_wp2
   go_ret2
   exact ⟨_, rfl, World.ownsRow_nil .., HD.out.below HB2.out, Go4.of_below HB2.out⟩
  by_cases x1 : (n : Int) < x
  ·have hR := HR.out
   rw [if_pos (.inr (.inr (.inl x1)))] at hR
   subst hR
   go_wp2
   go_ret2
   exact ⟨_, rfl, World.ownsRow_nil .., HD.out.below HB2.out, Go4.of_below HB2.out⟩
  by_cases y1 : (n : Int) - x < y
  ·have hR := HR.out
   rw [if_pos (.inr (.inr (.inr y1)))] at hR
   subst hR
   go_wp2
   go_ret2
   exact ⟨_, rfl, World.ownsRow_nil .., HD.out.below HB2.out, Go4.of_below HB2.out⟩
  have hR := HR.out
  rw [if_neg (by omega)] at hR
  subst hR
  obtain ⟨i, rfl⟩ : ∃ i : Nat, x = i := ⟨x.toNat, by omega⟩
  obtain ⟨m, rfl⟩ : ∃ m : Nat, y = m := ⟨y.toNat, by omega⟩
  have him : i + m ≤ n := by omega
  have hrd := (HF.out.1.2.1.rd (by have := HF.out.2.2; omega))
  rw [HF.out.2.1] at hrd
  have hnc : n ≤ c := by
   obtain ⟨_, a1, c1, h2, h3, _⟩ := hrd
   simp only [Value.slice.injEq] at h2
   obtain ⟨_, rfl, rfl⟩ := h2
   exact h3
  clear hrd
  have M3 : Hid (DskM (w2.setCell ⟨dB, 9, none⟩ (.int .i64 (wrap64 (d.c 5 + 1)))) O dB mb fl d.cap d.arm d.down (setCt d.c 5 (wrap64 (d.c 5 + 1)))) := Lib.hid (HM2.out.setCt 5 (by decide) _)
  have HOK2 := Lib.hid (HM.out.2.1.mk2 HM.out.2.1.fs HM.out.2.1.arm0 HM.out.2.1.arm1 d.down (setCt d.c 5 (wrap64 (d.c 5 + 1))))
  have hrd := ((M3.out.fil f (atF_mem HF2.out.1).1).2.1.rd (by have := HF.out.2.2; omega))
  rw [HF.out.2.1] at hrd
  have HRD := Lib.hid (hrd.mid i m him)
  have hic : i + m ≤ c := by omega
  have hl2 : ((f.dat.drop i).take m).length = m := by rw [List.length_take, List.length_drop]; have := HF.out.2.2; omega
  have HL2 := Lib.hid hl2
  clear hrd hl2
  have BX := HM2.out.box
  have c9 := BX.cells.2.2.2.2.2.2.2.2.2
  have z9 := BX.fz 9
  clear BX
  by_cases hci : c = i
  ·rw [if_pos hci] at HRD
   subst hci
   obtain rfl : m = 0 := by omega
   rw [Nat.sub_self] at HRD
   go_wp2_with fail
   refine (bclone_any HRD.out (by rw [HL2.out]; omega)).mono ?_
   rintro e w4 ⟨v, rfl, hv, b4⟩
   have HV := Lib.hid (And.intro hv b4)
   clear hv b4
   go_wp2
   go_ret2
   refine ⟨v, rfl, ?_, ?_, ?_⟩
   ·have hq := ownsRow_less (B' := w.heap.size) HV.out.1 (by have := HB2.out.size; simp [World.setCell]; omega)
    first | exact hq | (simp only [List.length_take, List.length_drop] at hq; exact hq) | (simp at hq ⊢; exact hq)
   ·exact ⟨HOK2.out, mb, fl, M3.out.below HV.out.2, HM.out.2.2⟩
   ·exact (Go4.of_below HB2.out).trans ((Go4.of_set HM2.out.odb _).trans (Go4.of_below HV.out.2))
  ·rw [if_neg hci] at HRD
   go_wp2_with fail
   refine (bclone_any HRD.out (by rw [HL2.out]; omega)).mono ?_
   rintro e w4 ⟨v, rfl, hv, b4⟩
   have HV := Lib.hid (And.intro hv b4)
   clear hv b4
   go_wp2
   go_ret2
   refine ⟨v, rfl, ?_, ?_, ?_⟩
   ·have hq := ownsRow_less (B' := w.heap.size) HV.out.1 (by have := HB2.out.size; simp [World.setCell]; omega)
    first | exact hq | (simp only [List.length_take, List.length_drop] at hq; exact hq) | (simp at hq ⊢; exact hq)
   ·exact ⟨HOK2.out, mb, fl, M3.out.below HV.out.2, HM.out.2.2⟩
   ·exact (Go4.of_below HB2.out).trans ((Go4.of_set HM2.out.odb _).trans (Go4.of_below HV.out.2))
 ·have hR := HRR.out
  rw [if_pos h0] at hR
  have HR := Lib.hid hR
  clear hR HRR
  go_wp2
  go_ret2
  have hR := HR.out
  subst hR
  refine ⟨_, rfl, World.ownsRow_nil .., ?_, Go4.of_below HB2.out⟩
  have hd : decide (rc = 0) = false := decide_eq_false h0
  simp only [hd]
  exact HD.out.below HB2.out
end Go.Proofs.Ytlkhphhmhffdjaa

namespace Go.Proofs.Ytlkhphhmhffdjaa
open Go.RowKit Go.MapKept Go.Sort
variable {w w' W X : World} {O O' : Nat → Prop} {dB rB : Nat} {d r : Dk4}
theorem wpl_dapp {w : World} {ops : Array Oper} {rest : List Oper} {o : Oper} {a : Act} {Q : Exit → Act → World → Prop} (hgd : o.guard = none) (s x : Operand)
  (ho : o.op = .call { callee := .builtin .append, args := #[s, x], argTypes := #[27, 27] })
  {B n : Nat} {v src : Value} {xs bs : List Nat} (hs : a.eval s = v) (hown : Own w B v n xs) (hx : a.eval x = src) (hrd : Rd w src bs) (hbytes : n + bs.length ≤ 140737488355328) (hB : B ≤ w.heap.size)
  (h : ∀ a' c' w', Own w' B (.slice a' (n + bs.length) c') (n + bs.length) (xs ++ bs) → Below B w w' → wpList Try.prog ops Q rest (a.put o.dst (.slice a' (n + bs.length) c')) w') :
  wpList Try.prog ops Q (o :: rest) a w := by
 refine wpList_plain hgd fun K hK => ?_
 refine dstep_append s x ho hs hown hx hrd hbytes hB (fun a' c' w' h1 h2 h3 => ?_)
 exact hK _ _ (h a' c' w' h1 ((Below.refl B w).grown h2 hB (fun k hk => (hown.2.lt k hk).1)))
set_option maxRecDepth 100000 in
set_option maxHeartbeats 8000000 in
theorem rCopied_any {v : Value} {bs : List Nat} (hr : Rd w v bs) (h47 : bs.length ≤ 140737488355328) :
  Calls Try.prog 35 #[v] w fun e w' => ∃ a c, e = .returned (.slice a bs.length c) ∧ w'.ownsRow w.heap.size 5 1 (.slice a bs.length c) bs.length (bv bs) ∧ Below w.heap.size w w' := by
 have HR := Lib.hid hr
 have h9 := hr
 obtain ⟨_, ab, cb, hv, _⟩ := h9
 have hn : ∃ nb, nb = bs.length := ⟨_, rfl⟩
 obtain ⟨nb, hn⟩ := hn
 rw [← hn] at hv
 subst hv
 have HN := Lib.hid hn
 have H47 := Lib.hid h47
 clear hn hr h47
 have ow : Own w w.heap.size (.slice none 0 0) 0 [] := ⟨rfl, rfl, .inl ⟨rfl, rfl⟩⟩
 have HO := Lib.hid ow
 clear ow
 go_enter Try.func35, Try.ntmps35
 go_wp2_with (at_builtin; refine wpl_dapp rfl _ _ rfl (B := w.heap.size) (n := 0) (v := .slice none 0 0) (xs := []) (bs := bs) rfl HO.out rfl HR.out (by have := H47.out; omega) (Nat.le_refl _) ?_; intro a5 c5 w5 r5 b5; refine Hid.out ?_)
 refine Lib.hid ?_
 simp only [Nat.zero_add, List.nil_append] at r5
 have HR5 := Lib.hid (And.intro r5 b5)
 clear r5 b5
 go_wp2
 go_ret
 refine ⟨a5, c5, rfl, ?_, HR5.out.2⟩
 have := HR5.out.1.2
 simpa using this
set_option maxRecDepth 100000 in
set_option maxHeartbeats 8000000 in
theorem rNew_any {n : Int} (h0 : 0 ≤ n) (h1 : n ≤ 67108864) (w : World) : Calls Try.prog 19 #[.int .i64 n] w fun e w' => ∃ O rB, e = .returned (.tuple #[.pointer (some ⟨rB, 0, none⟩), .int .i64 0]) ∧ RD w' O rB (newD n) ∧ Below w.heap.size w w' ∧ ∀ i, O i → w.heap.size ≤ i := by
 have i0 : decide (n < 0) = false := by simp; omega
 have i1 : decide ((67108864 : Int) < n) = false := by simp; omega
 have i2 : ¬ n < 0 := by omega
 have i3 : ¬ (67108864 : Int) < n := by omega
 have HO := Lib.hid (newD_ok h0 h1)
 clear h0 h1
 go_enter Try.func19, Try.ntmps19
 go_wp2
 go_ret2
 refine ⟨fun i => i = w.heap.size, w.heap.size, rfl, ⟨⟨HO.out, List.Pairwise.nil⟩, none, 0, 0, [], ⟨?_, FRow.nil _ _, fun g hg => (by cases hg), fun x hx => (by cases hx), List.Pairwise.nil, rfl, fun i hi => (by simp; omega)⟩, rfl⟩, (Below.refl _ _).alloc (Nat.le_refl _) _, fun i hi => by omega⟩
 unfold RBox newD
 exact heap_alloc_new _ _
theorem rNew_bad {n : Int} (h : n < 0 ∨ 67108864 < n) (w : World) : Calls Try.prog 19 #[.int .i64 n] w fun e w' => e = .returned (.tuple #[.pointer none, .int .i64 1]) ∧ w' = w := by
 by_cases h0 : n < 0
 ·go_enter Try.func19, Try.ntmps19
  go_wp2
  go_ret2
  exact ⟨rfl, rfl⟩
 ·have h1 : (67108864 : Int) < n := h.elim (fun z => absurd z h0) id
  go_enter Try.func19, Try.ntmps19
  go_wp2
  go_ret2
  exact ⟨rfl, rfl⟩
set_option maxRecDepth 100000 in
set_option maxHeartbeats 8000000 in
theorem rArm_any (h : RD w O rB r) (n : Int) (hn : n ≤ 9223372036854775807) : Calls Try.prog 62 #[.pointer (some ⟨rB, 0, none⟩), .int .i64 n] w fun e w' => e = .returned (.tuple #[]) ∧ RD w' O rB (armD r n) ∧ Go4 w w' O O := by
 have h9 := h
 obtain ⟨⟨ok, srt⟩, a, m, k, l, hm, hl⟩ := h
 have c2 := hm.box.cells.2.2.1
 have c3 := hm.box.cells.2.2.2.1
 have z3 := hm.box.fz 3
 have HM := Lib.hid (And.intro hm hl)
 have HOK := Lib.hid (And.intro ok srt)
 have H9 := Lib.hid h9
 have HN := Lib.hid hn
 clear hm hl ok srt h9 hn
 unfold armD
 by_cases hd : r.down = true
 ·rw [hd] at c2
  rw [if_pos hd]
  clear hd
  by_cases h0 : n < 0
  ·go_enter Try.func62, Try.ntmps62
   go_wp2
   go_end0
   exact ⟨rfl, H9.out, Go4.refl _ _⟩
  ·go_enter Try.func62, Try.ntmps62
   go_wp2
   go_end0
   exact ⟨rfl, H9.out, Go4.refl _ _⟩
 ·have hd2 : r.down = false := by simpa using hd
  rw [hd2] at c2
  rw [if_neg hd]
  have HD := Lib.hid hd2
  have fin : ∀ m : Int, m = max n 0 → RD (w.setCell ⟨rB, 3, none⟩ (.int .i64 m)) O rB { r with arm := max n 0 } ∧ Go4 w (w.setCell ⟨rB, 3, none⟩ (.int .i64 m)) O O := fun m hm => by
   subst hm
   exact ⟨⟨⟨HOK.out.1.mk2 HOK.out.1.fs (by have := HN.out; omega) (by have := HN.out; omega) r.down r.c, HOK.out.2⟩, a, _, k, l, HM.out.1.setArm _, HM.out.2⟩, Go4.of_set (a := ⟨rB, 3, none⟩) HM.out.1.orb _⟩
  have HF := Lib.hid fin
  clear hd hd2 fin
  by_cases h0 : n < 0
  ·go_enter Try.func62, Try.ntmps62
   go_wp2
   go_end0
   exact ⟨rfl, (HF.out 0 (by omega)).1, (HF.out 0 (by omega)).2⟩
  ·go_enter Try.func62, Try.ntmps62
   go_wp2
   go_end0
   exact ⟨rfl, (HF.out n (by omega)).1, (HF.out n (by omega)).2⟩
set_option maxRecDepth 100000 in
set_option maxHeartbeats 8000000 in
theorem rFree_any (h : RD w O rB r) : Calls Try.prog 13 #[.pointer (some ⟨rB, 0, none⟩)] w fun e w' => e = .returned (.int .i64 (r.cap - (totP r.fs : Int))) ∧ Below w.heap.size w w' := by
 obtain ⟨⟨ok, srt⟩, a, m, k, l, hm, hl⟩ := h
 have HM := Lib.hid (And.intro hm hl)
 have HOK := Lib.hid (And.intro ok srt)
 have hT : ∃ T, T = totP r.fs := ⟨_, rfl⟩
 obtain ⟨T, hT⟩ := hT
 rw [← hT]
 have HT := Lib.hid hT
 have hb : 0 ≤ r.cap - (T : Int) ∧ r.cap ≤ 67108864 := by have h1 := ok.tot; have h2 := ok.cap1; omega
 clear hm hl ok srt hT
 go_enter Try.func13, Try.ntmps13
 go_upto_region 1 with fail
 have BD : Below w.heap.size w w.drew := (Below.refl _ _).drew
 refine wp_region_noPanic ?_
 refine wp_region_anyE (S := fun wx => Below w.heap.size w wx) (E := fun j => true) (by kernel_rfl) ?_
 have hHeld : Below w.heap.size w w.drew := BD
 have HB := Lib.hid BD
 have hZ0 : ∃ z, z = w.drew := ⟨_, rfl⟩
 obtain ⟨Z0, hZ0⟩ := hZ0
 rw [← hZ0] at HB hHeld ⊢
 clear hZ0 BD
 refine AnyE.take (i := 0) (.pointer (some ⟨rB, 0, none⟩)) rfl (by kernel_rfl) (by kernel_rfl) (by kernel_rfl) (by kernel_rfl) (fun _ _ _ h => h) (.inl ⟨by kernel_rfl, fun wy hy => by (go_simp; done)⟩) hHeld ?_
 try simp only [Act.put, List.setIfInBounds_toArray, List.set_cons_zero, List.set_cons_succ]
 refine AnyE.take (i := 1) (.pointer (some ⟨rB, 0, none⟩)) rfl (by kernel_rfl) (by kernel_rfl) (by kernel_rfl) (by kernel_rfl) (fun _ _ _ h => h) (.inl ⟨by kernel_rfl, fun wy hy => by (go_simp; done)⟩) hHeld ?_
 try simp only [Act.put, List.setIfInBounds_toArray, List.set_cons_zero, List.set_cons_succ]
 refine AnyE.take (i := 2) (.pointer (some ⟨rB, 0, none⟩)) rfl (by kernel_rfl) (by kernel_rfl) (by kernel_rfl) (by kernel_rfl) (fun _ _ _ h => h) (.inl ⟨by kernel_rfl, fun wy hy => by (go_simp; done)⟩) hHeld ?_
 try simp only [Act.put, List.setIfInBounds_toArray, List.set_cons_zero, List.set_cons_succ]
 refine AnyE.take (i := 3) (.int .i64 r.cap) rfl (by kernel_rfl) (by kernel_rfl) (by kernel_rfl) (by kernel_rfl) (fun _ _ _ h => h) (.inl ⟨by kernel_rfl, fun wy hy => by (have q0 := (HM.out.1.below hy).box.cells.1; go_simp; done)⟩) hHeld ?_
 try simp only [Act.put, List.setIfInBounds_toArray, List.set_cons_zero, List.set_cons_succ]
 refine AnyE.take (i := 4) (.pointer (some ⟨rB, 0, none⟩)) rfl (by kernel_rfl) (by kernel_rfl) (by kernel_rfl) (by kernel_rfl) (fun _ _ _ h => h) (.inl ⟨by kernel_rfl, fun wy hy => by (go_simp; done)⟩) hHeld ?_
 try simp only [Act.put, List.setIfInBounds_toArray, List.set_cons_zero, List.set_cons_succ]
 refine AnyE.one (i := 5) rfl (by kernel_rfl) (by kernel_rfl) (fun KK hK => ?_)
 go_simp
 go_at_call 36
 have hus := rUsed_any (HM.out.1.below HB.out) (by rw [HM.out.2]; have h1 := HOK.out.1.tot; have h2 := HOK.out.1.cap1; omega)
 rw [HM.out.2, ← HT.out] at hus
 refine hus.mono ?_
 rintro e9 Z1 ⟨rfl, hz1⟩
 rw [hz1] at *
 clear hz1 hus
 go_wp2_with fail
 refine hK.out _ _ ⟨fun _ => hHeld, ?_⟩
 clear hK
 try simp only [Act.put, List.setIfInBounds_toArray, List.set_cons_zero, List.set_cons_succ]
 refine AnyE.take (i := 6) (.int .i64 (r.cap - (T : Int))) rfl (by kernel_rfl) (by kernel_rfl) (by kernel_rfl) (by kernel_rfl) (fun _ _ _ h => h) (.inl ⟨by kernel_rfl, fun wy hy => by (go_simp; exact IntWalk.i64_in _ ⟨by omega, by omega⟩)⟩) hHeld ?_
 try simp only [Act.put, List.setIfInBounds_toArray, List.set_cons_zero, List.set_cons_succ]
 refine AnyE.one (i := 7) rfl (by kernel_rfl) (by kernel_rfl) (fun KK hK => ?_)
 go_simp
 refine hK.out _ _ ⟨fun _ => hHeld, ?_⟩
 clear hK
 try simp only [Act.put, List.setIfInBounds_toArray, List.set_cons_zero, List.set_cons_succ]
 refine AnyE.done (by kernel_rfl) (NoPanic.normal ?_) _
 clear hHeld
 go_simp
 go_step
 go_wp2
 go_ret
 exact ⟨rfl, HB.out⟩
def sizeD (d : Dk4) (s : ByteArray) : Int × Int := if reaE d s ≠ 0 then (0, reaE d s) else ((((atP d.fs s).getD ([], 0)).1.length : Int), 0)
end Go.Proofs.Ytlkhphhmhffdjaa
