import Derived.Test.YthpdlclgiggekaaCell19
namespace Go.Proofs.Ythpdlclgiggekaa
open Go.RowKit
set_option linter.unusedVariables false

theorem firstNZ_zero : ∀ (l : List Int), firstNZ l = 0 → ∀ x ∈ l, x = 0
  | [], _ => fun x hx => by simp at hx
  | y :: r, h => fun x hx => by
    unfold firstNZ at h
    by_cases hy : y = 0
    · rw [if_pos hy] at h
      rcases List.mem_cons.1 hx with rfl | hx
      · exact hy
      · exact firstNZ_zero r h x hx
    · rw [if_neg hy] at h
      exact absurd h hy
theorem cmpI_zero {a b : Int} (h : cmpI a b = 0) : a = b := by
  unfold cmpI at h
  split at h
  · cases h
  · split at h
    · cases h
    · omega
theorem dif_self {xs : List Nat} {c : Int} (h : Dif xs xs c) : c = 0 := by
  rcases h with ⟨h, _⟩ | ⟨_, p, x, y, r, s, e1, e2, hx⟩ | ⟨_, p, x, y, r, s, e1, e2, hx⟩
  · exact h
  · rw [e1] at e2
    have := List.append_cancel_left e2
    simp at this
    omega
  · rw [e1] at e2
    have := List.append_cancel_left e2
    simp at this
    omega
theorem key_same {a b : EntD} (ha : checkS a = 0) (hb : checkS b = 0) (h : keyL a = keyL b) : a.fam = b.fam ∧ a.ts = b.ts ∧ a.seq = b.seq ∧ a.kind = b.kind ∧ a.row = b.row ∧ a.qual = b.qual := by
  have d := key_dif ha hb
  rw [h] at d
  have z := firstNZ_zero _ (dif_self d)
  refine ⟨cmpI_zero (z _ ?_), (cmpI_zero (z (cmpI b.ts a.ts) ?_)).symm, (cmpI_zero (z (cmpI b.seq a.seq) ?_)).symm, cmpI_zero (z _ ?_), ordC_eq _ _ (z _ ?_), ordC_eq _ _ (z _ ?_)⟩ <;> simp [cmpsS]
theorem keyL_len2 {e : EntD} (hc : checkS e = 0) : (keyL e).length ≤ 1048 := by
  obtain ⟨f1, f, f3, _, t, s, k, _⟩ := check_facts hc
  rw [keyL_parts]
  have l1 := ordL_len e.row
  have l2 := ordL_len e.qual
  have c1 : e.row.count 0 ≤ e.row.length := List.count_le_length
  have c2 : e.qual.count 0 ≤ e.qual.length := List.count_le_length
  split <;> simp [be8] <;> omega
theorem pack_trip {e : EntD} (hc : checkS e = 0) (A H : List Nat) : bytesR ((A ++ packL e) ++ H) A.length 1048 = (keyL e, A.length + (bytesL (keyL e)).length, 0) ∧ bytesR ((A ++ packL e) ++ H) (A.length + (bytesL (keyL e)).length) 4096 = (e.val, A.length + (packL e).length, 0) := by
  have l1 := keyL_len2 hc
  have l2 := (check_facts hc).2.2.2.2.2.2.2.1
  constructor
  · have := bytes_trip (keyL e) (by omega) 1048 l1 A (bytesL e.val ++ H)
    have e1 : (A ++ packL e) ++ H = A ++ (bytesL (keyL e) ++ (bytesL e.val ++ H)) := by simp [packL]
    rw [e1]; exact this
  · have := bytes_trip e.val (by omega) 4096 l2 (A ++ bytesL (keyL e)) H
    have e1 : (A ++ packL e) ++ H = (A ++ bytesL (keyL e)) ++ (bytesL e.val ++ H) := by simp [packL]
    rw [e1]
    simp only [List.length_append] at this ⊢
    rw [this]
    simp [packL]
    omega
theorem packL_len {e : EntD} (hc : checkS e = 0) : (packL e).length ≤ 6000 := by
  have l1 := keyL_len2 hc
  have l2 := (check_facts hc).2.2.2.2.2.2.2.1
  have := bytesL_le (keyL e)
  have := bytesL_le e.val
  simp only [packL, List.length_append]
  omega
theorem packL_bys {e : EntD} (hr : Bys e.row) (hq : Bys e.qual) (hv : Bys e.val) (hc : checkS e = 0) : Bys (packL e) := by
  have l1 := keyL_len2 hc
  have l2 := (check_facts hc).2.2.2.2.2.2.2.1
  exact Bys.app (bytesL_bys (keyL_bys hr hq hc) (by omega)) (bytesL_bys hv (by omega))

set_option maxRecDepth 100000 in
set_option maxHeartbeats 8000000 in
theorem back_bad {e : EntD} {w : World} {an aa ah : Option Addr} {mn cn ma ca mh ch : Nat} {ns : List Nat} (hok : EntD.Ok w e) (hn : Rd w (.slice an mn cn) ns) (hl : ns.length ≤ 140737488351232) (hc : checkS e ≠ 0) :
    Calls Try.prog 6 #[.agg e.cells, .slice aa ma ca, .slice ah mh ch, .slice an mn cn] w fun r w' => r = .returned (.bool true) ∧ Below w.heap.size w w' := by
  obtain ⟨⟨K, Q1, F1⟩, k1⟩ : ∃ x, bytesR ns 0 1048 = x := ⟨_, rfl⟩
  obtain ⟨⟨V, Q2, F2⟩, k2⟩ : ∃ x, bytesR ns Q1 4096 = x := ⟨_, rfl⟩
  have HQ : Hid (bytesR ns 0 1048 = (K, Q1, F1) ∧ bytesR ns Q1 4096 = (V, Q2, F2)) := ⟨k1, k2⟩
  have HN : Hid (Rd w (.slice an mn cn) ns) := hn
  have HL : Hid (ns.length ≤ 140737488351232) := hl
  have HE : Hid (EntD.Ok w e ∧ checkS e ≠ 0) := ⟨hok, hc⟩
  have A1 := (Below.refl w.heap.size w).alloc (Nat.le_refl _) (.cells e.cells 35)
  have b1 := EBox.new w e
  have HX : Hid (_ ∧ _) := ⟨b1, A1⟩
  clear k1 k2 hn hl hok hc A1 b1
  simp only [EntD.cells] at HX ⊢
  go_enter Try.func6, Try.ntmps6
  go_wp2_with fail
  refine (told_any _).mono ?_
  rintro r w1 ⟨rfl, hb1⟩
  have B1 := HX.out.2.trans (hb1.mono HX.out.2.size)
  have bx1 : Hid (EBox w1 w.heap.size e) := HX.out.1.later hb1
  clear HX hb1
  obtain ⟨z0, z1, z2, z3, z4, z5, z6⟩ := bx1.out.cells7
  obtain ⟨C, hC⟩ : ∃ C, C = checkS e := ⟨_, rfl⟩
  have c2 := key_bad (HE.out.1.later B1) HE.out.2
  rw [← hC] at c2
  have HC2 : Hid (Calls _ _ _ _ _) := c2
  have HCC : Hid (C = checkS e) := hC
  have hC0 : ¬ ((C : Int) = 0) := by have := HE.out.2; rw [← hC] at this; omega
  have hCb : ((C : Int) == 0) = false := by simpa using hC0
  clear c2 hC
  simp only [EntD.cells] at HC2
  go_wp2_with fail
  refine HC2.out.mono ?_
  rintro r w2 ⟨rfl, hb2⟩
  have B2 := B1.trans (hb2.mono B1.size)
  have bx2 : Hid (EBox w2 w.heap.size e) := bx1.out.later hb2
  clear HC2 hb2 B1 bx1 z0 z1 z2 z3 z4 z5 z6
  obtain ⟨z0, z1, z2, z3, z4, z5, z6⟩ := bx2.out.cells7
  have c3 := check_any (HE.out.1.later B2)
  rw [← HCC.out] at c3
  have HC3 : Hid (Calls _ _ _ _ _) := c3
  clear c3
  simp only [EntD.cells] at HC3
  go_wp2_with fail
  refine HC3.out.mono ?_
  rintro r w3 ⟨rfl, hb3⟩
  have BT := B2.trans (hb3.mono B2.size)
  clear HC3 hb3 B2 z0 z1 z2 z3 z4 z5 z6 bx2 HE HCC
  go_wp2_with fail
  refine (parse_any (HN.out.later BT) (by have := HL.out; omega)).mono ?_
  rintro e wa ⟨hba, hp⟩
  have BA := BT.trans (hba.mono BT.size)
  clear hba BT
  rcases hp with ⟨D, hc, hv, hk, hbr, hbq, hvv, rfl, o1, B, hB, o2, _⟩ | ⟨hno, rfl⟩
  · obtain ⟨vr, fam, vq, ts, sq, kd, vv, row, qual, val⟩ := D
    simp only at hv hbr hbq hvv o1 o2
    subst hv hvv
    obtain ⟨ar, cr, rfl⟩ := own_form o1.2
    obtain ⟨aq, cq, rfl⟩ := own_form o2.2
    have okD : EntD.Ok wa ⟨.slice ar row.length cr, fam, .slice aq qual.length cq, ts, sq, kd, .slice none 0 0, row, qual, []⟩ := ⟨o1.rd hbr (by have := (check_facts hc).1.2; simp only at this; omega), o2.rd hbq (by have := (check_facts hc).2.2.1; simp only at this; omega), Rd.nil _⟩
    have A2 := (Below.refl wa.heap.size wa).alloc (Nat.le_refl _) (.cells (EntD.cells ⟨.slice ar row.length cr, fam, .slice aq qual.length cq, ts, sq, kd, .slice none 0 0, row, qual, []⟩) 35)
    have b2 := EBox.new wa ⟨.slice ar row.length cr, fam, .slice aq qual.length cq, ts, sq, kd, .slice none 0 0, row, qual, []⟩
    have c2 := key_ok (okD.later A2) hc
    rw [hk] at c2
    have HX2 : Hid (_ ∧ _ ∧ Calls _ _ _ _ _) := ⟨b2, A2, c2⟩
    clear hc hk hbr hbq o1 o2 hB A2 b2 c2 okD
    simp only [EntD.cells] at HX2 ⊢
    go_wp2_with fail
    refine HX2.out.2.2.mono ?_
    rintro e wb ⟨ab, mb, cb, rfl, ownb, hbb⟩
    have hbab := HX2.out.2.1.trans (hbb.mono HX2.out.2.1.size)
    have BB := BA.trans (hbab.mono BA.size)
    have rb := ownb.rd HN.out.1 (by rw [ownb.1]; have := HL.out; omega)
    have xb := (HX2.out.1.later hbb)
    have HXB : Hid (EBox wb wa.heap.size _) := xb
    clear HX2 hbb hbab ownb xb BA
    go_wp2_with fail
    refine (alike_same rb (HN.out.later BB)).mono ?_
    rintro e wb2 ⟨rfl, hb3⟩
    have xv := (HXB.out.later hb3).vv
    simp only at xv
    have BB3 := BB.trans (hb3.mono BB.size)
    clear BB hb3 rb HXB
    have BB := BB3
    clear BB3
    go_wp2_with fail
    refine (unpack_any (k := 0) (HN.out.later BB) (Nat.zero_le _) (by have := HL.out; omega) HQ.out.1 HQ.out.2).mono ?_
    rintro e wc ⟨hbc, hu⟩
    have BC := BB.trans (hbc.mono BB.size)
    clear hbc BB
    rcases hu with ⟨D2, h1, h2, h3, h4, h5, h6, h7, rfl, ok2⟩ | ⟨E, hE, rfl, _⟩
    · have HBK : Hid (packL D2 = ns.take Q2 ∧ 1 ≤ Q2 ∧ Q2 ≤ ns.length) := by
        have k1 := HQ.out.1
        have k2 := HQ.out.2
        rw [h1] at k1
        rw [h2] at k2
        obtain ⟨b1, b2, b3, _⟩ := bytes_back HN.out.1 (Nat.zero_le _) k1
        obtain ⟨b4, b5, b6, _⟩ := bytes_back HN.out.1 b3 k2
        refine ⟨?_, by omega, b6⟩
        unfold packL
        rw [h5, h4, b1, b4, seg_join (Nat.zero_le _) (Nat.le_of_lt b5) b6, List.drop_zero]
      have HOK : Hid (EntD.Ok wc D2 ∧ checkS D2 = 0) := ⟨ok2, h3⟩
      obtain ⟨ar, mr, cr, e1⟩ := rd_slice ok2.1
      obtain ⟨aq, mq, cq, e2⟩ := rd_slice ok2.2.1
      obtain ⟨av, mv, cv, e3⟩ := rd_slice ok2.2.2
      clear h1 h2 h3 h4 h5 h6 h7 ok2
      obtain ⟨vr, fam, vq, ts, sq, kd, vv, row, qual, val⟩ := D2
      simp only at e1 e2 e3
      subst e1 e2 e3
      have A3 := (Below.refl wc.heap.size wc).alloc (Nat.le_refl _) (.cells (EntD.cells ⟨.slice ar mr cr, fam, .slice aq mq cq, ts, sq, kd, .slice av mv cv, row, qual, val⟩) 35)
      have c3 := pack_ok (HOK.out.1.later A3) HOK.out.2
      have HC3 : Hid (_ ∧ Calls _ _ _ _ _) := ⟨A3, c3⟩
      clear A3 c3 HOK
      simp only [EntD.cells] at HC3 ⊢
      go_wp2_with fail
      refine HC3.out.2.mono ?_
      rintro e wd ⟨ad, md, cd, rfl, ownd, hbd⟩
      have hbcd := HC3.out.1.trans (hbd.mono HC3.out.1.size)
      have BD := BC.trans (hbcd.mono BC.size)
      rw [HBK.out.1] at ownd
      obtain rfl : md = Q2 := by rw [ownd.1, List.length_take]; have := HBK.out.2.2; omega
      have rd := ownd.rd (fun x hx => HN.out.1 x (List.mem_of_mem_take hx)) (by have := HBK.out.2.2; have := HL.out; omega)
      have hmn : mn = ns.length := (rd_lens HN.out).1
      have hcn := (rd_lens HN.out).2.1
      rcases rd_some HN.out with ⟨_, h0, _⟩ | ⟨bn, fn, en⟩
      · have := HBK.out.2; omega
      subst en
      have ra := (HN.out.later BD).upto md (by have := HBK.out.2.2; omega)
      have i1 : (md : Int) ≤ (mn : Int) := by have := HBK.out.2.2; omega
      have i2 : (md : Int) ≤ (cn : Int) := by omega
      have i3 : (0 : Int) ≤ (md : Int) := by omega
      clear HC3 hbd hbcd BC ownd hmn HQ
      go_wp2_with fail
      refine (alike_same rd ra).mono ?_
      rintro e we ⟨rfl, hbe⟩
      go_wp2
      go_ret
      exact ⟨by simp, BD.trans (hbe.mono BD.size)⟩
    · have hE' : ¬ ((E : Int) = 0) := by omega
      have hEb : ((E : Int) != 0) = true := by simp; omega
      have A3 := (Below.refl wc.heap.size wc).alloc (Nat.le_refl _) (.cells #[.slice none 0 0, .int .i64 0, .slice none 0 0, .int .i64 0, .int .i64 0, .int .i64 0, .slice none 0 0] 35)
      go_wp2
      go_ret
      exact ⟨rfl, BC.trans (A3.mono BC.size)⟩
  · have BB0 := BA.trans (((Below.refl wa.heap.size wa).alloc (Nat.le_refl _) (.cells #[.slice none 0 0, .int .i64 0, .slice none 0 0, .int .i64 0, .int .i64 0, .int .i64 0, .slice none 0 0] 35)).mono BA.size)
    have BB := BB0
    clear BB0 BA hno
    go_wp2_with fail
    refine (unpack_any (k := 0) (HN.out.later BB) (Nat.zero_le _) (by have := HL.out; omega) HQ.out.1 HQ.out.2).mono ?_
    rintro e wc ⟨hbc, hu⟩
    have BC := BB.trans (hbc.mono BB.size)
    clear hbc BB
    rcases hu with ⟨D2, h1, h2, h3, h4, h5, h6, h7, rfl, ok2⟩ | ⟨E, hE, rfl, _⟩
    · have HBK : Hid (packL D2 = ns.take Q2 ∧ 1 ≤ Q2 ∧ Q2 ≤ ns.length) := by
        have k1 := HQ.out.1
        have k2 := HQ.out.2
        rw [h1] at k1
        rw [h2] at k2
        obtain ⟨b1, b2, b3, _⟩ := bytes_back HN.out.1 (Nat.zero_le _) k1
        obtain ⟨b4, b5, b6, _⟩ := bytes_back HN.out.1 b3 k2
        refine ⟨?_, by omega, b6⟩
        unfold packL
        rw [h5, h4, b1, b4, seg_join (Nat.zero_le _) (Nat.le_of_lt b5) b6, List.drop_zero]
      have HOK : Hid (EntD.Ok wc D2 ∧ checkS D2 = 0) := ⟨ok2, h3⟩
      obtain ⟨ar, mr, cr, e1⟩ := rd_slice ok2.1
      obtain ⟨aq, mq, cq, e2⟩ := rd_slice ok2.2.1
      obtain ⟨av, mv, cv, e3⟩ := rd_slice ok2.2.2
      clear h1 h2 h3 h4 h5 h6 h7 ok2
      obtain ⟨vr, fam, vq, ts, sq, kd, vv, row, qual, val⟩ := D2
      simp only at e1 e2 e3
      subst e1 e2 e3
      have A3 := (Below.refl wc.heap.size wc).alloc (Nat.le_refl _) (.cells (EntD.cells ⟨.slice ar mr cr, fam, .slice aq mq cq, ts, sq, kd, .slice av mv cv, row, qual, val⟩) 35)
      have c3 := pack_ok (HOK.out.1.later A3) HOK.out.2
      have HC3 : Hid (_ ∧ Calls _ _ _ _ _) := ⟨A3, c3⟩
      clear A3 c3 HOK
      simp only [EntD.cells] at HC3 ⊢
      go_wp2_with fail
      refine HC3.out.2.mono ?_
      rintro e wd ⟨ad, md, cd, rfl, ownd, hbd⟩
      have hbcd := HC3.out.1.trans (hbd.mono HC3.out.1.size)
      have BD := BC.trans (hbcd.mono BC.size)
      rw [HBK.out.1] at ownd
      obtain rfl : md = Q2 := by rw [ownd.1, List.length_take]; have := HBK.out.2.2; omega
      have rd := ownd.rd (fun x hx => HN.out.1 x (List.mem_of_mem_take hx)) (by have := HBK.out.2.2; have := HL.out; omega)
      have hmn : mn = ns.length := (rd_lens HN.out).1
      have hcn := (rd_lens HN.out).2.1
      rcases rd_some HN.out with ⟨_, h0, _⟩ | ⟨bn, fn, en⟩
      · have := HBK.out.2; omega
      subst en
      have ra := (HN.out.later BD).upto md (by have := HBK.out.2.2; omega)
      have i1 : (md : Int) ≤ (mn : Int) := by have := HBK.out.2.2; omega
      have i2 : (md : Int) ≤ (cn : Int) := by omega
      have i3 : (0 : Int) ≤ (md : Int) := by omega
      clear HC3 hbd hbcd BC ownd hmn HQ
      go_wp2_with fail
      refine (alike_same rd ra).mono ?_
      rintro e we ⟨rfl, hbe⟩
      go_wp2
      go_ret
      exact ⟨by simp, BD.trans (hbe.mono BD.size)⟩
    · have hE' : ¬ ((E : Int) = 0) := by omega
      have hEb : ((E : Int) != 0) = true := by simp; omega
      have A3 := (Below.refl wc.heap.size wc).alloc (Nat.le_refl _) (.cells #[.slice none 0 0, .int .i64 0, .slice none 0 0, .int .i64 0, .int .i64 0, .int .i64 0, .slice none 0 0] 35)
      go_wp2
      go_ret
      exact ⟨rfl, BC.trans (A3.mono BC.size)⟩

end Go.Proofs.Ythpdlclgiggekaa
