import Derived.Test.YtjcpjpjccoeakaaJ12
import Derived.Test.YtjcpjpjccoeakaaCell18
namespace Go.Proofs.Ytjcpjpjccoeakaa
open Go.RowKit
set_option linter.unusedVariables false

theorem Own.far {w w' : World} {B m : Nat} {v : Value} {o : Option Nat} {xs : List Nat} (h : Own w B v m xs) (k : w.grownBy w' o) (hne : ∀ g, o = some g → v.ownBlock ≠ some g) : Own w' B v m xs := by
  refine ⟨h.1, h.2.1, ?_⟩
  rcases h.2.2 with h2 | ⟨g, cap, cur, h3, h4, h5, h6⟩
  · exact .inl h2
  · refine .inr ⟨g, cap, cur, h3, h4, ?_, h6⟩
    rw [k.block g (Array.getElem?_eq_some_iff.1 h5).1 ?_]
    · exact h5
    · intro e
      exact hne g e.symm (by rw [h3]; rfl)
theorem Laid.far {w w' : World} {B : Nat} {u : Value} {o : Option Nat} {bs : List Nat} (h : Laid w B u bs) (k : w.grownBy w' o) (hne : ∀ g, o = some g → u.ownBlock ≠ some g) : Laid w' B u bs := by
  obtain ⟨g, c, rfl, h2, h3, h4⟩ := h
  exact ⟨g, c, rfl, h2, h3, h4.far k (fun x hx => hne x hx)⟩
theorem Marked.full {w0 w : World} {l : Value} {G mk : Nat} (h : Marked w0 w l G mk) : FullL w G mk := fun i hi => by
  obtain ⟨a, k, c, h1, h2, _⟩ := h.2 i hi
  exact ⟨a, k, c, h1, h2⟩
theorem Marked.far {w0 w w' : World} {l : Value} {G mk : Nat} {o : Option Nat} (h : Marked w0 w l G mk) (k : w.grownBy w' o) (ho : ∀ g, o = some g → g < w0.heap.size ∧ l.ownBlock ≠ some g) : FullL w' G mk := fun i hi => by
  obtain ⟨a, kk, c, h1, h2, h3⟩ := h.2 i hi
  refine ⟨a, kk, c, ?_, ?_⟩
  · refine k.cell h1 ?_
    intro e
    have := (ho G e.symm).1
    have := h.1
    omega
  · obtain ⟨q1, a', cap, q2, q3, q4, q5, q6, q7⟩ := h2
    refine ⟨q1, a', cap, q2, q3, q4, q5, q6, ?_⟩
    rcases q7 with q7 | ⟨b, off, rfl, hc⟩
    · exact .inl q7
    · refine .inr ⟨b, off, rfl, fun j hj => k.cell (hc j hj) ?_⟩
      intro e
      obtain ⟨e1, e2⟩ := ho b e.symm
      simp only [Value.slice.injEq] at q2
      rw [q2.1] at h3
      rcases h3 with h3 | h3
      · exact e2 (by rw [← h3]; rfl)
      · have := h3 b rfl
        omega
theorem below_grows {w wt w' : World} {v : Value} {B n : Nat} {xs : List Nat} (hb : Below w.heap.size w wt) (ho : Own wt B v n xs) (hB : w.heap.size ≤ B) (k : wt.grownBy w' v.ownBlock) : Below w.heap.size w w' :=
  hb.grown k hb.size (fun g hg => Nat.le_trans hB (ho.2.lt g hg).1)

open Classical in
noncomputable def startL (r : List Nat) : List Nat := if RowOk r then ordL r else []
open Classical in
noncomputable def behindL (r : List Nat) : List Nat := if RowOk r then ordL r ++ [255] else []
open Classical in
noncomputable def rowE (r : List Nat) : Nat := if RowOk r then 0 else 20
theorem startL_ok (r : List Nat) (h : Bys r) : Bys (startL r) ∧ (startL r).length ≤ 520 := by
  unfold startL
  split
  · rename_i k
    exact ⟨ordL_bys r h, by have := rowOk_ord k; omega⟩
  · exact ⟨by intro x hx; simp at hx, by simp⟩
theorem behindL_ok (r : List Nat) (h : Bys r) : Bys (behindL r) ∧ (behindL r).length ≤ 520 := by
  unfold behindL
  split
  · rename_i k
    exact ⟨Bys.app (ordL_bys r h) (fun x hx => by simp at hx; omega), by have := rowOk_ord k; simp; omega⟩
  · exact ⟨by intro x hx; simp at hx, by simp⟩
theorem start_any {v : Value} {bs : List Nat} {w : World} (hr : Rd w v bs) :
    Calls Try.prog 32 #[v] w fun e w' => ∃ a m c, e = .returned (.tuple #[.slice a m c, .int .i64 ((rowE bs : Nat) : Int)]) ∧ Own w' w.heap.size (.slice a m c) m (startL bs) ∧ Below w.heap.size w w' := by
  unfold rowE startL
  by_cases h : RowOk bs
  · rw [if_pos h, if_pos h]
    exact start_ok hr h
  · rw [if_neg h, if_neg h]
    refine (start_bad hr h).mono ?_
    rintro e w' ⟨rfl, rfl⟩
    exact ⟨none, 0, 0, rfl, own_nil _ _, Below.refl _ _⟩
theorem behind_any {v : Value} {bs : List Nat} {w : World} (hr : Rd w v bs) :
    Calls Try.prog 33 #[v] w fun e w' => ∃ a m c, e = .returned (.tuple #[.slice a m c, .int .i64 ((rowE bs : Nat) : Int)]) ∧ Own w' w.heap.size (.slice a m c) m (behindL bs) ∧ Below w.heap.size w w' := by
  unfold rowE behindL
  by_cases h : RowOk bs
  · rw [if_pos h, if_pos h]
    exact behind_ok hr h
  · rw [if_neg h, if_neg h]
    refine (behind_bad hr h).mono ?_
    rintro e w' ⟨rfl, rfl⟩
    exact ⟨none, 0, 0, rfl, own_nil _ _, Below.refl _ _⟩
theorem refStart_any {v : Value} {bs : List Nat} {w : World} (hr : Rd w v bs) :
    Calls Try.prog 34 #[v] w fun e w' => ∃ a m c, e = .returned (.tuple #[.slice a m c, .int .i64 ((rowE bs : Nat) : Int)]) ∧ Own w' w.heap.size (.slice a m c) m (startL bs) ∧ Below w.heap.size w w' := by
  unfold rowE startL
  by_cases h : RowOk bs
  · rw [if_pos h, if_pos h]
    exact refStart_ok hr h
  · rw [if_neg h, if_neg h]
    refine (refStart_bad hr h).mono ?_
    rintro e w' ⟨rfl, rfl⟩
    exact ⟨none, 0, 0, rfl, own_nil _ _, Below.refl _ _⟩
theorem refBehind_any {v : Value} {bs : List Nat} {w : World} (hr : Rd w v bs) :
    Calls Try.prog 35 #[v] w fun e w' => ∃ a m c, e = .returned (.tuple #[.slice a m c, .int .i64 ((rowE bs : Nat) : Int)]) ∧ Own w' w.heap.size (.slice a m c) m (behindL bs) ∧ Below w.heap.size w w' := by
  unfold rowE behindL
  by_cases h : RowOk bs
  · rw [if_pos h, if_pos h]
    exact refBehind_ok hr h
  · rw [if_neg h, if_neg h]
    refine (refBehind_bad hr h).mono ?_
    rintro e w' ⟨rfl, rfl⟩
    exact ⟨none, 0, 0, rfl, own_nil _ _, Below.refl _ _⟩
theorem alike_is {va vb : Value} {xs ys : List Nat} {w : World} (ha : Rd w va xs) (hb : Rd w vb ys) (h : xs = ys) :
    Calls Try.prog 29 #[va, vb] w fun e w' => e = .returned (.bool true) ∧ Below w.heap.size w w' := by
  subst h; exact alike_same ha hb
theorem alike_not {va vb : Value} {xs ys : List Nat} {w : World} (ha : Rd w va xs) (hb : Rd w vb ys) (h : xs ≠ ys) :
    Calls Try.prog 29 #[va, vb] w fun e w' => e = .returned (.bool false) ∧ Below w.heap.size w w' := by
  have k := alike_any ha hb
  rw [decide_eq_false h] at k
  exact k
theorem keyL_pos (e : EntD) : 1 ≤ (keyL e).length := by rw [keyL_parts]; simp; omega

set_option maxRecDepth 100000 in
set_option maxHeartbeats 16000000 in
theorem cellRows_walk {e : EntD} {v0 : Value} {r : List Nat} {w : World} (hr0 : Rd w v0 r) (hok : EntD.Ok w e) :
    Calls Try.prog 7 #[v0, .agg e.cells] w fun q w' => q = .returned (.bool true) ∧ Below w.heap.size w w' := by
  obtain ⟨x0, y0, z0, rfl⟩ := rd_slice hr0
  obtain ⟨L, hL⟩ : ∃ L, L = r.take 5000 := ⟨_, rfl⟩
  have hbL : Bys L := by rw [hL]; exact fun x hx => hr0.1 x (List.mem_of_mem_take hx)
  have hlL : L.length ≤ 5000 := by rw [hL]; simp; omega
  have HE : Hid (EntD.Ok w e) := hok
  have HL : Hid (L = r.take 5000 ∧ Bys L ∧ L.length ≤ 5000) := ⟨hL, hbL, hlL⟩
  have HR : Hid (Rd w (.slice x0 y0 z0) r) := hr0
  obtain ⟨S, hS⟩ : ∃ S, S = startL L := ⟨_, rfl⟩
  obtain ⟨T, hT⟩ : ∃ T, T = behindL L := ⟨_, rfl⟩
  obtain ⟨F, hF⟩ : ∃ F, F = rowE L := ⟨_, rfl⟩
  have HST : Hid (S = startL L ∧ T = behindL L ∧ F = rowE L) := ⟨hS, hT, hF⟩
  have HSB : Hid (Bys S ∧ S.length ≤ 520 ∧ Bys T ∧ T.length ≤ 520) := by
    rw [hS, hT]
    exact ⟨(startL_ok L hbL).1, (startL_ok L hbL).2, (behindL_ok L hbL).1, (behindL_ok L hbL).2⟩
  have C1 : Hid (∀ w v, Rd w v L → Calls Try.prog 32 #[v] w fun e w' => ∃ a m c, e = .returned (.tuple #[.slice a m c, .int .i64 (F : Int)]) ∧ Own w' w.heap.size (.slice a m c) m S ∧ Below w.heap.size w w') := fun w v h => by rw [hS, hF]; exact start_any h
  have C2 : Hid (∀ w v, Rd w v L → Calls Try.prog 33 #[v] w fun e w' => ∃ a m c, e = .returned (.tuple #[.slice a m c, .int .i64 (F : Int)]) ∧ Own w' w.heap.size (.slice a m c) m T ∧ Below w.heap.size w w') := fun w v h => by rw [hT, hF]; exact behind_any h
  have C3 : Hid (∀ w v, Rd w v L → Calls Try.prog 34 #[v] w fun e w' => ∃ a m c, e = .returned (.tuple #[.slice a m c, .int .i64 (F : Int)]) ∧ Own w' w.heap.size (.slice a m c) m S ∧ Below w.heap.size w w') := fun w v h => by rw [hS, hF]; exact refStart_any h
  have C4 : Hid (∀ w v, Rd w v L → Calls Try.prog 35 #[v] w fun e w' => ∃ a m c, e = .returned (.tuple #[.slice a m c, .int .i64 (F : Int)]) ∧ Own w' w.heap.size (.slice a m c) m T ∧ Below w.heap.size w w') := fun w v h => by rw [hT, hF]; exact refBehind_any h
  have A1 := (Below.refl w.heap.size w).alloc (Nat.le_refl _) (.cells e.cells 35)
  have b1 := EBox.new w e
  have HX : Hid (_ ∧ _) := ⟨b1, A1⟩
  clear A1 b1 hok hr0 hL hbL hlL hS hT hF
  simp only [EntD.cells] at HX ⊢
  go_enter Try.func7, Try.ntmps7
  go_wp2_with fail
  refine (laid_any (N := 5000) (HR.out.later HX.out.2) (by decide)).mono ?_
  rintro q w1 ⟨u, rfl, li1, hb1⟩
  rw [← HL.out.1] at li1
  have B1 := HX.out.2.trans (hb1.mono HX.out.2.size)
  have bx1 : Hid (EBox w1 w.heap.size e) := HX.out.1.later hb1
  obtain ⟨gi, ci, rfl, hci, hcm, ho⟩ := li1
  have li1 : Laid w1 _ (.slice (some ⟨gi, 0, none⟩) L.length ci) L := ⟨gi, ci, rfl, hci, hcm, ho⟩
  have hgi : gi < w1.heap.size := (ho.2.lt gi rfl).2
  clear HX hb1 ho
  obtain ⟨nL, hnL⟩ : ∃ n, n = L.length := ⟨_, rfl⟩
  rw [← hnL] at li1 ⊢
  have HNL : Hid (nL = L.length) := hnL
  clear hnL hci hcm
  go_wp2_with fail
  refine (copied_any (li1.rd HL.out.2.1 (by have := HL.out.2.2; omega)) (by have := HL.out.2.2; omega)).mono ?_
  rintro q w2 ⟨ad, md, cd, rfl, od2, hb2⟩
  have B2 := B1.trans (hb2.mono B1.size)
  have li2 := li1.later hb2
  have bx2 : Hid (EBox w2 w.heap.size e) := bx1.out.later hb2
  have hs2 : w1.heap.size ≤ w2.heap.size := hb2.size
  have hw2 : w.heap.size ≤ w2.heap.size := B2.size
  clear hb2 li1 B1 bx1
  go_wp2_with fail
  refine (C1.out _ _ (li2.rd HL.out.2.1 (by have := HL.out.2.2; omega))).mono ?_
  rintro q w3 ⟨xa, ms, cs, rfl, os3, hb3⟩
  have B3 := B2.trans (hb3.mono B2.size)
  have li3 := li2.later hb3
  have od3 := od2.later hb3
  have bx3 : Hid (EBox w3 w.heap.size e) := bx2.out.later hb3
  have hs3 : w2.heap.size ≤ w3.heap.size := hb3.size
  have ID : Hid (∀ g, (Value.slice ad md cd).ownBlock = some g → g < w2.heap.size) := fun g hg => (od2.2.lt g hg).2
  have IS : Hid (∀ g, (Value.slice xa ms cs).ownBlock = some g → w2.heap.size ≤ g ∧ g < w3.heap.size) := fun g hg => os3.2.lt g hg
  clear hb3 li2 od2 B2 bx2
  go_wp2_with fail
  refine (C2.out _ _ (li3.rd HL.out.2.1 (by have := HL.out.2.2; omega))).mono ?_
  rintro q w4 ⟨ab, mb, cb, rfl, ob4, hb4⟩
  have B4 := B3.trans (hb4.mono B3.size)
  have li4 := li3.later hb4
  have od4 := od3.later hb4
  have os4 := os3.later hb4
  have bx4 : Hid (EBox w4 w.heap.size e) := bx3.out.later hb4
  have hs4 : w3.heap.size ≤ w4.heap.size := hb4.size
  have IB : Hid (∀ g, (Value.slice ab mb cb).ownBlock = some g → w3.heap.size ≤ g ∧ g < w4.heap.size) := fun g hg => ob4.2.lt g hg
  clear hb4 li3 od3 os3 B3 bx3
  have rd4 := od4.rd HL.out.2.1 (by rw [od4.1]; have := HL.out.2.2; omega)
  go_wp2_with fail
  refine (C3.out _ _ rd4).mono ?_
  rintro q w5 ⟨aw, mw, cw, rfl, ow5, hb5⟩
  have B5 := B4.trans (hb5.mono B4.size)
  have li5 := li4.later hb5
  have od5 := od4.later hb5
  have os5 := os4.later hb5
  have ob5 := ob4.later hb5
  have rd5 := rd4.later hb5
  have bx5 : Hid (EBox w5 w.heap.size e) := bx4.out.later hb5
  have hs5 : w4.heap.size ≤ w5.heap.size := hb5.size
  have IW : Hid (∀ g, (Value.slice aw mw cw).ownBlock = some g → w4.heap.size ≤ g) := fun g hg => (ow5.2.lt g hg).1
  clear hb5 li4 od4 os4 ob4 rd4 B4 bx4
  go_wp2_with fail
  refine (C4.out _ _ rd5).mono ?_
  rintro q w6 ⟨av, mv, cv, rfl, ov6, hb6⟩
  have B6 := B5.trans (hb6.mono B5.size)
  have li6 := li5.later hb6
  have od6 := od5.later hb6
  have os6 := os5.later hb6
  have ob6 := ob5.later hb6
  have ow6 := ow5.later hb6
  have bx6 : Hid (EBox w6 w.heap.size e) := bx5.out.later hb6
  have hs6 : w5.heap.size ≤ w6.heap.size := hb6.size
  have IV : Hid (∀ g, (Value.slice av mv cv).ownBlock = some g → w5.heap.size ≤ g) := fun g hg => (ov6.2.lt g hg).1
  clear hb6 li5 od5 os5 ob5 ow5 rd5 B5 bx5
  go_wp2_with fail
  refine (told_any _).mono ?_
  rintro q w7 ⟨rfl, hb7⟩
  have B7 := B6.trans (hb7.mono B6.size)
  have bx7 : Hid (EBox w7 w.heap.size e) := bx6.out.later hb7
  have H7 : Hid (Laid w7 _ (.slice (some ⟨gi, 0, none⟩) nL ci) L ∧ Own w7 _ (.slice ad md cd) md L ∧ Own w7 w2.heap.size (.slice xa ms cs) ms S ∧ Own w7 w3.heap.size (.slice ab mb cb) mb T ∧ Own w7 w4.heap.size (.slice aw mw cw) mw S ∧ Own w7 w5.heap.size (.slice av mv cv) mv T) := ⟨li6.later hb7, od6.later hb7, os6.later hb7, ob6.later hb7, ow6.later hb7, ov6.later hb7⟩
  have hs7 : w6.heap.size ≤ w7.heap.size := hb7.size
  clear hb7 li6 od6 os6 ob6 ow6 ov6 B6 bx6
  have rdS : ∀ (wx : World) (B : Nat) (a : Option Addr) (m c : Nat), Own wx B (.slice a m c) m S → Rd wx (.slice a m c) S := fun wx B a m c h => h.rd HSB.out.1 (by rw [h.1]; have := HSB.out.2.1; omega)
  have rdT : ∀ (wx : World) (B : Nat) (a : Option Addr) (m c : Nat), Own wx B (.slice a m c) m T → Rd wx (.slice a m c) T := fun wx B a m c h => h.rd HSB.out.2.2.1 (by rw [h.1]; have := HSB.out.2.2.2; omega)
  have RDS := Lib.hid rdS
  have RDT := Lib.hid rdT
  clear rdS rdT
  go_wp2_with fail
  refine (alike_same (RDS.out _ _ _ _ _ H7.out.2.2.1) (RDS.out _ _ _ _ _ H7.out.2.2.2.2.1)).mono ?_
  rintro q w8 ⟨rfl, hb8⟩
  go_wp2_with fail
  refine (alike_same ((RDT.out _ _ _ _ _ H7.out.2.2.2.1).later hb8) ((RDT.out _ _ _ _ _ H7.out.2.2.2.2.2).later hb8)).mono ?_
  rintro q w9 ⟨rfl, hb9⟩
  have hb79 := hb8.trans (hb9.mono hb8.size)
  go_wp2_with fail
  refine (intact_any (H7.out.1.later hb79) ((H7.out.2.1.rd HL.out.2.1 (by rw [H7.out.2.1.1]; have := HL.out.2.2; omega)).later hb79) (by have := HL.out.2.2; omega)).mono ?_
  rintro q w10 ⟨rfl, hb10⟩
  have hb710 := hb79.trans (hb10.mono hb79.size)
  have B10 := B7.trans (hb710.mono B7.size)
  have bx10 : Hid (EBox w10 w.heap.size e) := bx7.out.later hb710
  clear hb8 hb9 hb79 hb10 bx7
  obtain ⟨z0, z1, z2, z3, z4, z5, z6⟩ := bx10.out.cells7
  have HK : Hid (Calls _ _ _ _ _) := key_any (HE.out.later B10)
  simp only [EntD.cells] at HK
  go_wp2_with fail
  refine HK.out.mono ?_
  rintro q w11 ⟨ak, mk, ck, E, rfl, hE, hok11, hb11⟩
  have hb711 := hb710.trans (hb11.mono hb710.size)
  have BT := B7.trans (hb711.mono B7.size)
  have bx11 : Hid (EBox w11 w.heap.size e) := bx10.out.later hb11
  have HT : Hid (Laid w11 _ (.slice (some ⟨gi, 0, none⟩) nL ci) L ∧ Own w11 _ (.slice ad md cd) md L ∧ Own w11 w2.heap.size (.slice xa ms cs) ms S ∧ Own w11 w3.heap.size (.slice ab mb cb) mb T ∧ Own w11 w4.heap.size (.slice aw mw cw) mw S ∧ Own w11 w5.heap.size (.slice av mv cv) mv T) := ⟨H7.out.1.later hb711, H7.out.2.1.later hb711, H7.out.2.2.1.later hb711, H7.out.2.2.2.1.later hb711, H7.out.2.2.2.2.1.later hb711, H7.out.2.2.2.2.2.later hb711⟩
  have hst : w7.heap.size ≤ w11.heap.size := hb711.size
  have HSZ : Hid (gi < w2.heap.size ∧ w.heap.size ≤ w2.heap.size ∧ w2.heap.size ≤ w3.heap.size ∧ w3.heap.size ≤ w4.heap.size ∧ w4.heap.size ≤ w5.heap.size ∧ w5.heap.size ≤ w11.heap.size) := ⟨by omega, hw2, hs3, hs4, hs5, by omega⟩
  have HKY : Hid (E = checkS e ∧ (E = 0 → Own w11 w10.heap.size (.slice ak mk ck) mk (keyL e))) := ⟨hE, hok11⟩
  clear z0 z1 z2 z3 z4 z5 z6 hb11 hb710 hb711 B7 B10 bx10 hE hok11 H7 HK hgi hs2 hs3 hs4 hs5 hs6 hs7 hst hw2
  by_cases hE : E = 0
  · subst hE
    by_cases hF : F = 0
    · subst hF
      have hrow : RowOk L := by
        have h := HST.out.2.2
        unfold rowE at h
        by_cases k : RowOk L
        · exact k
        · rw [if_neg k] at h; cases h
      have hSL : S = ordL L := by rw [HST.out.1]; unfold startL; rw [if_pos hrow]
      have hTL : T = ordL L ++ [255] := by rw [HST.out.2.1]; unfold behindL; rw [if_pos hrow]
      have hce : checkS e = 0 := HKY.out.1.symm
      have owk := HKY.out.2 rfl
      have hmk : mk = (keyL e).length := owk.1
      have hms : ms = S.length := HT.out.2.2.1.1
      have RK : Hid (Rd w11 (.slice ak mk ck) (keyL e)) := owk.rd (keyL_bys HE.out.1.1 HE.out.2.1.1 hce) (by rw [hmk]; have := keyL_len hce; omega)
      have hck := (rd_lens RK.out).2.1
      have hmk2 : mk ≤ 2000 := by rw [hmk]; exact keyL_len hce
      have hms2 : ms ≤ 520 := by rw [hms]; exact HSB.out.2.1
      obtain ⟨X, hX⟩ : ∃ X, X = ordC S (keyL e) := ⟨_, rfl⟩
      obtain ⟨Y, hY⟩ : ∃ Y, Y = ordC (keyL e) T := ⟨_, rfl⟩
      have HXY : Hid (X = ordC S (keyL e) ∧ Y = ordC (keyL e) T) := ⟨hX, hY⟩
      have hbg := own_begins hce L
      have hin := own_inside hce L
      rw [← hSL, ← hms, ← hmk] at hbg
      rw [← hTL, ← hSL, ← hX, ← hY] at hin
      have z0 := bx11.out.vr
      clear hX hY hSL hTL hrow
      by_cases hown : e.row = L
      · have HOW : Hid (e.row = L) := hown
        obtain ⟨hle, htk⟩ := hbg.1 hown
        obtain ⟨hx, hy⟩ := hin.1 hown
        have HTK : Hid ((keyL e).take ms = S) := htk
        have j1 : (ms : Int) ≤ (mk : Int) := by omega
        have j2 : (ms : Int) ≤ (ck : Int) := by omega
        have j3 : (0 : Int) ≤ (ms : Int) := by omega
        have dy : decide (Y < 0) = true := decide_eq_true hy
        have dx : decide (X ≤ 0) = true := decide_eq_true hx
        rcases rd_some RK.out with ⟨_, h0, _⟩ | ⟨bk, fk, ek⟩
        · have := keyL_pos e; omega
        subst ek
        have RKT : Hid (∀ wx, Below w11.heap.size w11 wx → Rd wx (.slice (some ⟨bk, fk, none⟩) ms ck) ((keyL e).take ms)) := fun wx hx => (RK.out.later hx).upto ms (by omega)
        clear hbg hin hown htk hmk hms owk hce HKY
        go_wp2_with fail
        refine (alike_is ((HE.out.1.later BT)) (HT.out.2.1.rd HL.out.2.1 (by rw [HT.out.2.1.1]; have := HL.out.2.2; omega)) HOW.out).mono ?_
        rintro q w12 ⟨rfl, hb12⟩
        go_wp2_with fail
        refine (alike_is (RKT.out _ hb12) ((RDS.out _ _ _ _ _ HT.out.2.2.1).later hb12) HTK.out).mono ?_
        rintro q w13 ⟨rfl, hb13⟩
        have hb1 := hb12.trans (hb13.mono hb12.size)
        go_wp2_with fail
        refine (refBytesOrd_any ((RDS.out _ _ _ _ _ HT.out.2.2.1).later hb1) (RK.out.later hb1)).mono ?_
        rintro q w14 ⟨rfl, hb14⟩
        have hb2 := hb1.trans (hb14.mono hb1.size)
        rw [← HXY.out.1]
        go_wp2_with fail
        refine (refBytesOrd_any (RK.out.later hb2) ((RDT.out _ _ _ _ _ HT.out.2.2.2.1).later hb2)).mono ?_
        rintro q w15 ⟨rfl, hb15⟩
        have hb3 := hb2.trans (hb15.mono hb2.size)
        rw [← HXY.out.2]
        have HT2 : Hid (Laid w15 _ (.slice (some ⟨gi, 0, none⟩) nL ci) L ∧ Own w15 _ (.slice ad md cd) md L ∧ Own w15 w2.heap.size (.slice xa ms cs) ms S ∧ Own w15 w3.heap.size (.slice ab mb cb) mb T ∧ Own w15 w4.heap.size (.slice aw mw cw) mw S ∧ Own w15 w5.heap.size (.slice av mv cv) mv T) := ⟨HT.out.1.later hb3, HT.out.2.1.later hb3, HT.out.2.2.1.later hb3, HT.out.2.2.2.1.later hb3, HT.out.2.2.2.2.1.later hb3, HT.out.2.2.2.2.2.later hb3⟩
        have HSZ2 : Hid (gi < w2.heap.size ∧ w.heap.size ≤ w2.heap.size ∧ w2.heap.size ≤ w3.heap.size ∧ w3.heap.size ≤ w4.heap.size ∧ w4.heap.size ≤ w5.heap.size ∧ w5.heap.size ≤ w15.heap.size) := ⟨HSZ.out.1, HSZ.out.2.1, HSZ.out.2.2.1, HSZ.out.2.2.2.1, HSZ.out.2.2.2.2.1, Nat.le_trans HSZ.out.2.2.2.2.2 hb3.size⟩
        have BT2 := BT.trans (hb3.mono BT.size)
        clear HT HSZ BT
        have HT := HT2
        have HSZ := HSZ2
        have BT := BT2
        clear HT2 HSZ2 BT2
        go_wp2_with fail
        refine (longer_any (mk := 17) HT.out.2.2.1 (by decide) (by rw [HT.out.2.2.1.1]; have := HSB.out.2.1; omega) (by have := HSZ.out; omega)).mono ?_
        rintro q w20 ⟨G1, rfl, mk1, gr1⟩
        have T20 : Hid (Laid w20 _ (.slice (some ⟨gi, 0, none⟩) nL ci) L ∧ Own w20 _ (.slice ad md cd) md L ∧ Own w20 w3.heap.size (.slice ab mb cb) mb T ∧ Own w20 w4.heap.size (.slice aw mw cw) mw S ∧ Own w20 w5.heap.size (.slice av mv cv) mv T) :=
          ⟨HT.out.1.far gr1 (fun g hg h => by have h1 := IS.out g hg; have h2 := HSZ.out.1; simp [Value.ownBlock] at h; omega), HT.out.2.1.far gr1 (fun g hg h => by have h1 := IS.out g hg; have h2 := ID.out g h; omega), HT.out.2.2.2.1.far gr1 (fun g hg h => by have h1 := IS.out g hg; have h2 := IB.out g h; omega), HT.out.2.2.2.2.1.far gr1 (fun g hg h => by have h1 := IS.out g hg; have h2 := IW.out g h; have h3 := HSZ.out; omega), HT.out.2.2.2.2.2.far gr1 (fun g hg h => by have h1 := IS.out g hg; have h2 := IV.out g h; have h3 := HSZ.out; omega)⟩
        have B20 : Hid (Below w.heap.size w w20) := below_grows BT HT.out.2.2.1 (by have := HSZ.out; omega) gr1
        have hs20 : w15.heap.size ≤ w20.heap.size := gr1.size
        clear BT
        go_wp2_with fail
        refine (longer_any (mk := 18) T20.out.2.2.1 (by decide) (by rw [T20.out.2.2.1.1]; have := HSB.out.2.2.2; omega) (by have := HSZ.out; omega)).mono ?_
        rintro q w21 ⟨G2, rfl, mk2, gr2⟩
        have li21 := T20.out.1.far gr2 (fun g hg h => by have h1 := IB.out g hg; have h2 := HSZ.out; simp [Value.ownBlock] at h; omega)
        have od21 := T20.out.2.1.far gr2 (fun g hg h => by have h1 := IB.out g hg; have h2 := ID.out g h; have h3 := HSZ.out; omega)
        have ow21 := T20.out.2.2.2.1.far gr2 (fun g hg h => by have h1 := IB.out g hg; have h2 := IW.out g h; omega)
        have ov21 := T20.out.2.2.2.2.far gr2 (fun g hg h => by have h1 := IB.out g hg; have h2 := IV.out g h; have h3 := HSZ.out; omega)
        have F1 := mk1.far gr2 (fun g hg => ⟨by have h1 := IB.out g hg; have h3 := HSZ.out; omega, fun h => by have h1 := IB.out g hg; have h2 := IS.out g h; omega⟩)
        have F2 := mk2.full
        have B21 := below_grows B20.out T20.out.2.2.1 (by have := HSZ.out; omega) gr2
        have T21 : Hid (_ ∧ _ ∧ _ ∧ _ ∧ _ ∧ _) := ⟨li21, od21, ow21, ov21, F1, F2⟩
        clear li21 od21 ow21 ov21 F1 F2 mk1 mk2 gr1 gr2 T20 B20 hs20 HT
        go_wp2_with fail
        refine (C1.out _ _ (T21.out.1.rd HL.out.2.1 (by have := HL.out.2.2; omega))).mono ?_
        rintro q w22 ⟨a22, m22, c22, rfl, o22, hb22⟩
        go_wp2_with fail
        refine (C2.out _ _ ((T21.out.1.later hb22).rd HL.out.2.1 (by have := HL.out.2.2; omega))).mono ?_
        rintro q w23 ⟨a23, m23, c23, rfl, o23, hb23⟩
        have hb2123 := hb22.trans (hb23.mono hb22.size)
        have o223 := o22.later hb23
        clear hb22 o22
        go_wp2_with fail
        refine (alike_same (RDS.out _ _ _ _ _ o223) (RDS.out _ _ _ _ _ (T21.out.2.2.1.later hb2123))).mono ?_
        rintro q w24 ⟨rfl, hb24⟩
        go_wp2_with fail
        refine (alike_same ((RDT.out _ _ _ _ _ o23).later hb24) ((RDT.out _ _ _ _ _ (T21.out.2.2.2.1.later hb2123)).later hb24)).mono ?_
        rintro q w25 ⟨rfl, hb25⟩
        have hb2124 := hb2123.trans (hb24.mono hb2123.size)
        have hb2125 := hb2124.trans (hb25.mono hb2124.size)
        go_wp2_with fail
        refine (full_any (T21.out.2.2.2.2.1.later hb2125)).mono ?_
        rintro q w26 ⟨rfl, rfl⟩
        go_wp2_with fail
        refine (full_any (T21.out.2.2.2.2.2.later hb2125)).mono ?_
        rintro q w26 ⟨rfl, rfl⟩
        go_wp2_with fail
        refine (intact_any (T21.out.1.later hb2125) ((T21.out.2.1.rd HL.out.2.1 (by rw [T21.out.2.1.1]; have := HL.out.2.2; omega)).later hb2125) (by have := HL.out.2.2; omega)).mono ?_
        rintro q w27 ⟨rfl, hb27⟩
        go_wp2
        go_ret
        exact ⟨rfl, (B21.trans (hb2125.mono B21.size)).trans (hb27.mono (Nat.le_trans B21.size hb2125.size))⟩
      · have HOW : Hid (e.row ≠ L) := hown
        have hb : ¬ (ms ≤ mk ∧ (keyL e).take ms = S) := fun h => hown (hbg.2 h)
        have hi : ¬ (X ≤ 0 ∧ Y < 0) := fun h => hown (hin.2 h)
        rcases rd_some RK.out with ⟨_, h0, _⟩ | ⟨bk, fk, ek⟩
        · have := keyL_pos e; omega
        subst ek
        have RKT : Hid (ms ≤ mk → ∀ wx, Below w11.heap.size w11 wx → Rd wx (.slice (some ⟨bk, fk, none⟩) ms ck) ((keyL e).take ms)) := fun h wx hx => (RK.out.later hx).upto ms h
        clear hbg hin hown hmk hms owk hce HKY
        by_cases hle : ms ≤ mk
        · have HTK : Hid ((keyL e).take ms ≠ S) := fun h => hb ⟨hle, h⟩
          have RKT2 := Lib.hid (RKT.out hle)
          clear RKT
          have RKT := RKT2
          clear RKT2
          have j1 : (ms : Int) ≤ (mk : Int) := by omega
          have j2 : (ms : Int) ≤ (ck : Int) := by omega
          have j3 : (0 : Int) ≤ (ms : Int) := by omega
          clear hb
          by_cases hx : X ≤ 0
          · have hy : ¬ (Y < 0) := fun h => hi ⟨hx, h⟩
            have dy : decide (Y < 0) = false := decide_eq_false hy
            have dx : decide (X ≤ 0) = true := decide_eq_true hx
            clear hi hy
            go_wp2_with fail
            refine (alike_not ((HE.out.1.later BT)) (HT.out.2.1.rd HL.out.2.1 (by rw [HT.out.2.1.1]; have := HL.out.2.2; omega)) HOW.out).mono ?_
            rintro q w12 ⟨rfl, hb12⟩
            go_wp2_with fail
            refine (alike_not (RKT.out _ hb12) ((RDS.out _ _ _ _ _ HT.out.2.2.1).later hb12) HTK.out).mono ?_
            rintro q w13 ⟨rfl, hb13⟩
            have hb1 := hb12.trans (hb13.mono hb12.size)
            go_wp2_with fail
            refine (refBytesOrd_any ((RDS.out _ _ _ _ _ HT.out.2.2.1).later hb1) (RK.out.later hb1)).mono ?_
            rintro q w14 ⟨rfl, hb14⟩
            have hb2 := hb1.trans (hb14.mono hb1.size)
            rw [← HXY.out.1]
            go_wp2_with fail
            refine (refBytesOrd_any (RK.out.later hb2) ((RDT.out _ _ _ _ _ HT.out.2.2.2.1).later hb2)).mono ?_
            rintro q w15 ⟨rfl, hb15⟩
            have hb3 := hb2.trans (hb15.mono hb2.size)
            rw [← HXY.out.2]
            have HT2 : Hid (Laid w15 _ (.slice (some ⟨gi, 0, none⟩) nL ci) L ∧ Own w15 _ (.slice ad md cd) md L ∧ Own w15 w2.heap.size (.slice xa ms cs) ms S ∧ Own w15 w3.heap.size (.slice ab mb cb) mb T ∧ Own w15 w4.heap.size (.slice aw mw cw) mw S ∧ Own w15 w5.heap.size (.slice av mv cv) mv T) := ⟨HT.out.1.later hb3, HT.out.2.1.later hb3, HT.out.2.2.1.later hb3, HT.out.2.2.2.1.later hb3, HT.out.2.2.2.2.1.later hb3, HT.out.2.2.2.2.2.later hb3⟩
            have HSZ2 : Hid (gi < w2.heap.size ∧ w.heap.size ≤ w2.heap.size ∧ w2.heap.size ≤ w3.heap.size ∧ w3.heap.size ≤ w4.heap.size ∧ w4.heap.size ≤ w5.heap.size ∧ w5.heap.size ≤ w15.heap.size) := ⟨HSZ.out.1, HSZ.out.2.1, HSZ.out.2.2.1, HSZ.out.2.2.2.1, HSZ.out.2.2.2.2.1, Nat.le_trans HSZ.out.2.2.2.2.2 hb3.size⟩
            have BT2 := BT.trans (hb3.mono BT.size)
            clear HT HSZ BT
            have HT := HT2
            have HSZ := HSZ2
            have BT := BT2
            clear HT2 HSZ2 BT2
            go_wp2_with fail
            refine (longer_any (mk := 17) HT.out.2.2.1 (by decide) (by rw [HT.out.2.2.1.1]; have := HSB.out.2.1; omega) (by have := HSZ.out; omega)).mono ?_
            rintro q w20 ⟨G1, rfl, mk1, gr1⟩
            have T20 : Hid (Laid w20 _ (.slice (some ⟨gi, 0, none⟩) nL ci) L ∧ Own w20 _ (.slice ad md cd) md L ∧ Own w20 w3.heap.size (.slice ab mb cb) mb T ∧ Own w20 w4.heap.size (.slice aw mw cw) mw S ∧ Own w20 w5.heap.size (.slice av mv cv) mv T) :=
              ⟨HT.out.1.far gr1 (fun g hg h => by have h1 := IS.out g hg; have h2 := HSZ.out.1; simp [Value.ownBlock] at h; omega), HT.out.2.1.far gr1 (fun g hg h => by have h1 := IS.out g hg; have h2 := ID.out g h; omega), HT.out.2.2.2.1.far gr1 (fun g hg h => by have h1 := IS.out g hg; have h2 := IB.out g h; omega), HT.out.2.2.2.2.1.far gr1 (fun g hg h => by have h1 := IS.out g hg; have h2 := IW.out g h; have h3 := HSZ.out; omega), HT.out.2.2.2.2.2.far gr1 (fun g hg h => by have h1 := IS.out g hg; have h2 := IV.out g h; have h3 := HSZ.out; omega)⟩
            have B20 : Hid (Below w.heap.size w w20) := below_grows BT HT.out.2.2.1 (by have := HSZ.out; omega) gr1
            have hs20 : w15.heap.size ≤ w20.heap.size := gr1.size
            clear BT
            go_wp2_with fail
            refine (longer_any (mk := 18) T20.out.2.2.1 (by decide) (by rw [T20.out.2.2.1.1]; have := HSB.out.2.2.2; omega) (by have := HSZ.out; omega)).mono ?_
            rintro q w21 ⟨G2, rfl, mk2, gr2⟩
            have li21 := T20.out.1.far gr2 (fun g hg h => by have h1 := IB.out g hg; have h2 := HSZ.out; simp [Value.ownBlock] at h; omega)
            have od21 := T20.out.2.1.far gr2 (fun g hg h => by have h1 := IB.out g hg; have h2 := ID.out g h; have h3 := HSZ.out; omega)
            have ow21 := T20.out.2.2.2.1.far gr2 (fun g hg h => by have h1 := IB.out g hg; have h2 := IW.out g h; omega)
            have ov21 := T20.out.2.2.2.2.far gr2 (fun g hg h => by have h1 := IB.out g hg; have h2 := IV.out g h; have h3 := HSZ.out; omega)
            have F1 := mk1.far gr2 (fun g hg => ⟨by have h1 := IB.out g hg; have h3 := HSZ.out; omega, fun h => by have h1 := IB.out g hg; have h2 := IS.out g h; omega⟩)
            have F2 := mk2.full
            have B21 := below_grows B20.out T20.out.2.2.1 (by have := HSZ.out; omega) gr2
            have T21 : Hid (_ ∧ _ ∧ _ ∧ _ ∧ _ ∧ _) := ⟨li21, od21, ow21, ov21, F1, F2⟩
            clear li21 od21 ow21 ov21 F1 F2 mk1 mk2 gr1 gr2 T20 B20 hs20 HT
            go_wp2_with fail
            refine (C1.out _ _ (T21.out.1.rd HL.out.2.1 (by have := HL.out.2.2; omega))).mono ?_
            rintro q w22 ⟨a22, m22, c22, rfl, o22, hb22⟩
            go_wp2_with fail
            refine (C2.out _ _ ((T21.out.1.later hb22).rd HL.out.2.1 (by have := HL.out.2.2; omega))).mono ?_
            rintro q w23 ⟨a23, m23, c23, rfl, o23, hb23⟩
            have hb2123 := hb22.trans (hb23.mono hb22.size)
            have o223 := o22.later hb23
            clear hb22 o22
            go_wp2_with fail
            refine (alike_same (RDS.out _ _ _ _ _ o223) (RDS.out _ _ _ _ _ (T21.out.2.2.1.later hb2123))).mono ?_
            rintro q w24 ⟨rfl, hb24⟩
            go_wp2_with fail
            refine (alike_same ((RDT.out _ _ _ _ _ o23).later hb24) ((RDT.out _ _ _ _ _ (T21.out.2.2.2.1.later hb2123)).later hb24)).mono ?_
            rintro q w25 ⟨rfl, hb25⟩
            have hb2124 := hb2123.trans (hb24.mono hb2123.size)
            have hb2125 := hb2124.trans (hb25.mono hb2124.size)
            go_wp2_with fail
            refine (full_any (T21.out.2.2.2.2.1.later hb2125)).mono ?_
            rintro q w26 ⟨rfl, rfl⟩
            go_wp2_with fail
            refine (full_any (T21.out.2.2.2.2.2.later hb2125)).mono ?_
            rintro q w26 ⟨rfl, rfl⟩
            go_wp2_with fail
            refine (intact_any (T21.out.1.later hb2125) ((T21.out.2.1.rd HL.out.2.1 (by rw [T21.out.2.1.1]; have := HL.out.2.2; omega)).later hb2125) (by have := HL.out.2.2; omega)).mono ?_
            rintro q w27 ⟨rfl, hb27⟩
            go_wp2
            go_ret
            exact ⟨rfl, (B21.trans (hb2125.mono B21.size)).trans (hb27.mono (Nat.le_trans B21.size hb2125.size))⟩
          · have dx : decide (X ≤ 0) = false := decide_eq_false hx
            clear hi
            go_wp2_with fail
            refine (alike_not ((HE.out.1.later BT)) (HT.out.2.1.rd HL.out.2.1 (by rw [HT.out.2.1.1]; have := HL.out.2.2; omega)) HOW.out).mono ?_
            rintro q w12 ⟨rfl, hb12⟩
            go_wp2_with fail
            refine (alike_not (RKT.out _ hb12) ((RDS.out _ _ _ _ _ HT.out.2.2.1).later hb12) HTK.out).mono ?_
            rintro q w13 ⟨rfl, hb13⟩
            have hb1 := hb12.trans (hb13.mono hb12.size)
            go_wp2_with fail
            refine (refBytesOrd_any ((RDS.out _ _ _ _ _ HT.out.2.2.1).later hb1) (RK.out.later hb1)).mono ?_
            rintro q w14 ⟨rfl, hb14⟩
            have hb2 := hb1.trans (hb14.mono hb1.size)
            rw [← HXY.out.1]
            have HT2 : Hid (Laid w14 _ (.slice (some ⟨gi, 0, none⟩) nL ci) L ∧ Own w14 _ (.slice ad md cd) md L ∧ Own w14 w2.heap.size (.slice xa ms cs) ms S ∧ Own w14 w3.heap.size (.slice ab mb cb) mb T ∧ Own w14 w4.heap.size (.slice aw mw cw) mw S ∧ Own w14 w5.heap.size (.slice av mv cv) mv T) := ⟨HT.out.1.later hb2, HT.out.2.1.later hb2, HT.out.2.2.1.later hb2, HT.out.2.2.2.1.later hb2, HT.out.2.2.2.2.1.later hb2, HT.out.2.2.2.2.2.later hb2⟩
            have HSZ2 : Hid (gi < w2.heap.size ∧ w.heap.size ≤ w2.heap.size ∧ w2.heap.size ≤ w3.heap.size ∧ w3.heap.size ≤ w4.heap.size ∧ w4.heap.size ≤ w5.heap.size ∧ w5.heap.size ≤ w14.heap.size) := ⟨HSZ.out.1, HSZ.out.2.1, HSZ.out.2.2.1, HSZ.out.2.2.2.1, HSZ.out.2.2.2.2.1, Nat.le_trans HSZ.out.2.2.2.2.2 hb2.size⟩
            have BT2 := BT.trans (hb2.mono BT.size)
            clear HT HSZ BT
            have HT := HT2
            have HSZ := HSZ2
            have BT := BT2
            clear HT2 HSZ2 BT2
            go_wp2_with fail
            refine (longer_any (mk := 17) HT.out.2.2.1 (by decide) (by rw [HT.out.2.2.1.1]; have := HSB.out.2.1; omega) (by have := HSZ.out; omega)).mono ?_
            rintro q w20 ⟨G1, rfl, mk1, gr1⟩
            have T20 : Hid (Laid w20 _ (.slice (some ⟨gi, 0, none⟩) nL ci) L ∧ Own w20 _ (.slice ad md cd) md L ∧ Own w20 w3.heap.size (.slice ab mb cb) mb T ∧ Own w20 w4.heap.size (.slice aw mw cw) mw S ∧ Own w20 w5.heap.size (.slice av mv cv) mv T) :=
              ⟨HT.out.1.far gr1 (fun g hg h => by have h1 := IS.out g hg; have h2 := HSZ.out.1; simp [Value.ownBlock] at h; omega), HT.out.2.1.far gr1 (fun g hg h => by have h1 := IS.out g hg; have h2 := ID.out g h; omega), HT.out.2.2.2.1.far gr1 (fun g hg h => by have h1 := IS.out g hg; have h2 := IB.out g h; omega), HT.out.2.2.2.2.1.far gr1 (fun g hg h => by have h1 := IS.out g hg; have h2 := IW.out g h; have h3 := HSZ.out; omega), HT.out.2.2.2.2.2.far gr1 (fun g hg h => by have h1 := IS.out g hg; have h2 := IV.out g h; have h3 := HSZ.out; omega)⟩
            have B20 : Hid (Below w.heap.size w w20) := below_grows BT HT.out.2.2.1 (by have := HSZ.out; omega) gr1
            have hs20 : w14.heap.size ≤ w20.heap.size := gr1.size
            clear BT
            go_wp2_with fail
            refine (longer_any (mk := 18) T20.out.2.2.1 (by decide) (by rw [T20.out.2.2.1.1]; have := HSB.out.2.2.2; omega) (by have := HSZ.out; omega)).mono ?_
            rintro q w21 ⟨G2, rfl, mk2, gr2⟩
            have li21 := T20.out.1.far gr2 (fun g hg h => by have h1 := IB.out g hg; have h2 := HSZ.out; simp [Value.ownBlock] at h; omega)
            have od21 := T20.out.2.1.far gr2 (fun g hg h => by have h1 := IB.out g hg; have h2 := ID.out g h; have h3 := HSZ.out; omega)
            have ow21 := T20.out.2.2.2.1.far gr2 (fun g hg h => by have h1 := IB.out g hg; have h2 := IW.out g h; omega)
            have ov21 := T20.out.2.2.2.2.far gr2 (fun g hg h => by have h1 := IB.out g hg; have h2 := IV.out g h; have h3 := HSZ.out; omega)
            have F1 := mk1.far gr2 (fun g hg => ⟨by have h1 := IB.out g hg; have h3 := HSZ.out; omega, fun h => by have h1 := IB.out g hg; have h2 := IS.out g h; omega⟩)
            have F2 := mk2.full
            have B21 := below_grows B20.out T20.out.2.2.1 (by have := HSZ.out; omega) gr2
            have T21 : Hid (_ ∧ _ ∧ _ ∧ _ ∧ _ ∧ _) := ⟨li21, od21, ow21, ov21, F1, F2⟩
            clear li21 od21 ow21 ov21 F1 F2 mk1 mk2 gr1 gr2 T20 B20 hs20 HT
            go_wp2_with fail
            refine (C1.out _ _ (T21.out.1.rd HL.out.2.1 (by have := HL.out.2.2; omega))).mono ?_
            rintro q w22 ⟨a22, m22, c22, rfl, o22, hb22⟩
            go_wp2_with fail
            refine (C2.out _ _ ((T21.out.1.later hb22).rd HL.out.2.1 (by have := HL.out.2.2; omega))).mono ?_
            rintro q w23 ⟨a23, m23, c23, rfl, o23, hb23⟩
            have hb2123 := hb22.trans (hb23.mono hb22.size)
            have o223 := o22.later hb23
            clear hb22 o22
            go_wp2_with fail
            refine (alike_same (RDS.out _ _ _ _ _ o223) (RDS.out _ _ _ _ _ (T21.out.2.2.1.later hb2123))).mono ?_
            rintro q w24 ⟨rfl, hb24⟩
            go_wp2_with fail
            refine (alike_same ((RDT.out _ _ _ _ _ o23).later hb24) ((RDT.out _ _ _ _ _ (T21.out.2.2.2.1.later hb2123)).later hb24)).mono ?_
            rintro q w25 ⟨rfl, hb25⟩
            have hb2124 := hb2123.trans (hb24.mono hb2123.size)
            have hb2125 := hb2124.trans (hb25.mono hb2124.size)
            go_wp2_with fail
            refine (full_any (T21.out.2.2.2.2.1.later hb2125)).mono ?_
            rintro q w26 ⟨rfl, rfl⟩
            go_wp2_with fail
            refine (full_any (T21.out.2.2.2.2.2.later hb2125)).mono ?_
            rintro q w26 ⟨rfl, rfl⟩
            go_wp2_with fail
            refine (intact_any (T21.out.1.later hb2125) ((T21.out.2.1.rd HL.out.2.1 (by rw [T21.out.2.1.1]; have := HL.out.2.2; omega)).later hb2125) (by have := HL.out.2.2; omega)).mono ?_
            rintro q w27 ⟨rfl, hb27⟩
            go_wp2
            go_ret
            exact ⟨rfl, (B21.trans (hb2125.mono B21.size)).trans (hb27.mono (Nat.le_trans B21.size hb2125.size))⟩
        · have j1 : (mk : Int) < (ms : Int) := by omega
          have dj : decide ((ms : Int) ≤ (mk : Int)) = false := by simp; omega
          clear hb hle
          by_cases hx : X ≤ 0
          · have hy : ¬ (Y < 0) := fun h => hi ⟨hx, h⟩
            have dy : decide (Y < 0) = false := decide_eq_false hy
            have dx : decide (X ≤ 0) = true := decide_eq_true hx
            clear hi hy
            go_wp2_with fail
            refine (alike_not ((HE.out.1.later BT)) (HT.out.2.1.rd HL.out.2.1 (by rw [HT.out.2.1.1]; have := HL.out.2.2; omega)) HOW.out).mono ?_
            rintro q w12 ⟨rfl, hb12⟩
            have hb1 := hb12
            go_wp2_with fail
            refine (refBytesOrd_any ((RDS.out _ _ _ _ _ HT.out.2.2.1).later hb1) (RK.out.later hb1)).mono ?_
            rintro q w14 ⟨rfl, hb14⟩
            have hb2 := hb1.trans (hb14.mono hb1.size)
            rw [← HXY.out.1]
            go_wp2_with fail
            refine (refBytesOrd_any (RK.out.later hb2) ((RDT.out _ _ _ _ _ HT.out.2.2.2.1).later hb2)).mono ?_
            rintro q w15 ⟨rfl, hb15⟩
            have hb3 := hb2.trans (hb15.mono hb2.size)
            rw [← HXY.out.2]
            have HT2 : Hid (Laid w15 _ (.slice (some ⟨gi, 0, none⟩) nL ci) L ∧ Own w15 _ (.slice ad md cd) md L ∧ Own w15 w2.heap.size (.slice xa ms cs) ms S ∧ Own w15 w3.heap.size (.slice ab mb cb) mb T ∧ Own w15 w4.heap.size (.slice aw mw cw) mw S ∧ Own w15 w5.heap.size (.slice av mv cv) mv T) := ⟨HT.out.1.later hb3, HT.out.2.1.later hb3, HT.out.2.2.1.later hb3, HT.out.2.2.2.1.later hb3, HT.out.2.2.2.2.1.later hb3, HT.out.2.2.2.2.2.later hb3⟩
            have HSZ2 : Hid (gi < w2.heap.size ∧ w.heap.size ≤ w2.heap.size ∧ w2.heap.size ≤ w3.heap.size ∧ w3.heap.size ≤ w4.heap.size ∧ w4.heap.size ≤ w5.heap.size ∧ w5.heap.size ≤ w15.heap.size) := ⟨HSZ.out.1, HSZ.out.2.1, HSZ.out.2.2.1, HSZ.out.2.2.2.1, HSZ.out.2.2.2.2.1, Nat.le_trans HSZ.out.2.2.2.2.2 hb3.size⟩
            have BT2 := BT.trans (hb3.mono BT.size)
            clear HT HSZ BT
            have HT := HT2
            have HSZ := HSZ2
            have BT := BT2
            clear HT2 HSZ2 BT2
            go_wp2_with fail
            refine (longer_any (mk := 17) HT.out.2.2.1 (by decide) (by rw [HT.out.2.2.1.1]; have := HSB.out.2.1; omega) (by have := HSZ.out; omega)).mono ?_
            rintro q w20 ⟨G1, rfl, mk1, gr1⟩
            have T20 : Hid (Laid w20 _ (.slice (some ⟨gi, 0, none⟩) nL ci) L ∧ Own w20 _ (.slice ad md cd) md L ∧ Own w20 w3.heap.size (.slice ab mb cb) mb T ∧ Own w20 w4.heap.size (.slice aw mw cw) mw S ∧ Own w20 w5.heap.size (.slice av mv cv) mv T) :=
              ⟨HT.out.1.far gr1 (fun g hg h => by have h1 := IS.out g hg; have h2 := HSZ.out.1; simp [Value.ownBlock] at h; omega), HT.out.2.1.far gr1 (fun g hg h => by have h1 := IS.out g hg; have h2 := ID.out g h; omega), HT.out.2.2.2.1.far gr1 (fun g hg h => by have h1 := IS.out g hg; have h2 := IB.out g h; omega), HT.out.2.2.2.2.1.far gr1 (fun g hg h => by have h1 := IS.out g hg; have h2 := IW.out g h; have h3 := HSZ.out; omega), HT.out.2.2.2.2.2.far gr1 (fun g hg h => by have h1 := IS.out g hg; have h2 := IV.out g h; have h3 := HSZ.out; omega)⟩
            have B20 : Hid (Below w.heap.size w w20) := below_grows BT HT.out.2.2.1 (by have := HSZ.out; omega) gr1
            have hs20 : w15.heap.size ≤ w20.heap.size := gr1.size
            clear BT
            go_wp2_with fail
            refine (longer_any (mk := 18) T20.out.2.2.1 (by decide) (by rw [T20.out.2.2.1.1]; have := HSB.out.2.2.2; omega) (by have := HSZ.out; omega)).mono ?_
            rintro q w21 ⟨G2, rfl, mk2, gr2⟩
            have li21 := T20.out.1.far gr2 (fun g hg h => by have h1 := IB.out g hg; have h2 := HSZ.out; simp [Value.ownBlock] at h; omega)
            have od21 := T20.out.2.1.far gr2 (fun g hg h => by have h1 := IB.out g hg; have h2 := ID.out g h; have h3 := HSZ.out; omega)
            have ow21 := T20.out.2.2.2.1.far gr2 (fun g hg h => by have h1 := IB.out g hg; have h2 := IW.out g h; omega)
            have ov21 := T20.out.2.2.2.2.far gr2 (fun g hg h => by have h1 := IB.out g hg; have h2 := IV.out g h; have h3 := HSZ.out; omega)
            have F1 := mk1.far gr2 (fun g hg => ⟨by have h1 := IB.out g hg; have h3 := HSZ.out; omega, fun h => by have h1 := IB.out g hg; have h2 := IS.out g h; omega⟩)
            have F2 := mk2.full
            have B21 := below_grows B20.out T20.out.2.2.1 (by have := HSZ.out; omega) gr2
            have T21 : Hid (_ ∧ _ ∧ _ ∧ _ ∧ _ ∧ _) := ⟨li21, od21, ow21, ov21, F1, F2⟩
            clear li21 od21 ow21 ov21 F1 F2 mk1 mk2 gr1 gr2 T20 B20 hs20 HT
            go_wp2_with fail
            refine (C1.out _ _ (T21.out.1.rd HL.out.2.1 (by have := HL.out.2.2; omega))).mono ?_
            rintro q w22 ⟨a22, m22, c22, rfl, o22, hb22⟩
            go_wp2_with fail
            refine (C2.out _ _ ((T21.out.1.later hb22).rd HL.out.2.1 (by have := HL.out.2.2; omega))).mono ?_
            rintro q w23 ⟨a23, m23, c23, rfl, o23, hb23⟩
            have hb2123 := hb22.trans (hb23.mono hb22.size)
            have o223 := o22.later hb23
            clear hb22 o22
            go_wp2_with fail
            refine (alike_same (RDS.out _ _ _ _ _ o223) (RDS.out _ _ _ _ _ (T21.out.2.2.1.later hb2123))).mono ?_
            rintro q w24 ⟨rfl, hb24⟩
            go_wp2_with fail
            refine (alike_same ((RDT.out _ _ _ _ _ o23).later hb24) ((RDT.out _ _ _ _ _ (T21.out.2.2.2.1.later hb2123)).later hb24)).mono ?_
            rintro q w25 ⟨rfl, hb25⟩
            have hb2124 := hb2123.trans (hb24.mono hb2123.size)
            have hb2125 := hb2124.trans (hb25.mono hb2124.size)
            go_wp2_with fail
            refine (full_any (T21.out.2.2.2.2.1.later hb2125)).mono ?_
            rintro q w26 ⟨rfl, rfl⟩
            go_wp2_with fail
            refine (full_any (T21.out.2.2.2.2.2.later hb2125)).mono ?_
            rintro q w26 ⟨rfl, rfl⟩
            go_wp2_with fail
            refine (intact_any (T21.out.1.later hb2125) ((T21.out.2.1.rd HL.out.2.1 (by rw [T21.out.2.1.1]; have := HL.out.2.2; omega)).later hb2125) (by have := HL.out.2.2; omega)).mono ?_
            rintro q w27 ⟨rfl, hb27⟩
            go_wp2
            go_ret
            exact ⟨rfl, (B21.trans (hb2125.mono B21.size)).trans (hb27.mono (Nat.le_trans B21.size hb2125.size))⟩
          · have dx : decide (X ≤ 0) = false := decide_eq_false hx
            clear hi
            go_wp2_with fail
            refine (alike_not ((HE.out.1.later BT)) (HT.out.2.1.rd HL.out.2.1 (by rw [HT.out.2.1.1]; have := HL.out.2.2; omega)) HOW.out).mono ?_
            rintro q w12 ⟨rfl, hb12⟩
            have hb1 := hb12
            go_wp2_with fail
            refine (refBytesOrd_any ((RDS.out _ _ _ _ _ HT.out.2.2.1).later hb1) (RK.out.later hb1)).mono ?_
            rintro q w14 ⟨rfl, hb14⟩
            have hb2 := hb1.trans (hb14.mono hb1.size)
            rw [← HXY.out.1]
            have HT2 : Hid (Laid w14 _ (.slice (some ⟨gi, 0, none⟩) nL ci) L ∧ Own w14 _ (.slice ad md cd) md L ∧ Own w14 w2.heap.size (.slice xa ms cs) ms S ∧ Own w14 w3.heap.size (.slice ab mb cb) mb T ∧ Own w14 w4.heap.size (.slice aw mw cw) mw S ∧ Own w14 w5.heap.size (.slice av mv cv) mv T) := ⟨HT.out.1.later hb2, HT.out.2.1.later hb2, HT.out.2.2.1.later hb2, HT.out.2.2.2.1.later hb2, HT.out.2.2.2.2.1.later hb2, HT.out.2.2.2.2.2.later hb2⟩
            have HSZ2 : Hid (gi < w2.heap.size ∧ w.heap.size ≤ w2.heap.size ∧ w2.heap.size ≤ w3.heap.size ∧ w3.heap.size ≤ w4.heap.size ∧ w4.heap.size ≤ w5.heap.size ∧ w5.heap.size ≤ w14.heap.size) := ⟨HSZ.out.1, HSZ.out.2.1, HSZ.out.2.2.1, HSZ.out.2.2.2.1, HSZ.out.2.2.2.2.1, Nat.le_trans HSZ.out.2.2.2.2.2 hb2.size⟩
            have BT2 := BT.trans (hb2.mono BT.size)
            clear HT HSZ BT
            have HT := HT2
            have HSZ := HSZ2
            have BT := BT2
            clear HT2 HSZ2 BT2
            go_wp2_with fail
            refine (longer_any (mk := 17) HT.out.2.2.1 (by decide) (by rw [HT.out.2.2.1.1]; have := HSB.out.2.1; omega) (by have := HSZ.out; omega)).mono ?_
            rintro q w20 ⟨G1, rfl, mk1, gr1⟩
            have T20 : Hid (Laid w20 _ (.slice (some ⟨gi, 0, none⟩) nL ci) L ∧ Own w20 _ (.slice ad md cd) md L ∧ Own w20 w3.heap.size (.slice ab mb cb) mb T ∧ Own w20 w4.heap.size (.slice aw mw cw) mw S ∧ Own w20 w5.heap.size (.slice av mv cv) mv T) :=
              ⟨HT.out.1.far gr1 (fun g hg h => by have h1 := IS.out g hg; have h2 := HSZ.out.1; simp [Value.ownBlock] at h; omega), HT.out.2.1.far gr1 (fun g hg h => by have h1 := IS.out g hg; have h2 := ID.out g h; omega), HT.out.2.2.2.1.far gr1 (fun g hg h => by have h1 := IS.out g hg; have h2 := IB.out g h; omega), HT.out.2.2.2.2.1.far gr1 (fun g hg h => by have h1 := IS.out g hg; have h2 := IW.out g h; have h3 := HSZ.out; omega), HT.out.2.2.2.2.2.far gr1 (fun g hg h => by have h1 := IS.out g hg; have h2 := IV.out g h; have h3 := HSZ.out; omega)⟩
            have B20 : Hid (Below w.heap.size w w20) := below_grows BT HT.out.2.2.1 (by have := HSZ.out; omega) gr1
            have hs20 : w14.heap.size ≤ w20.heap.size := gr1.size
            clear BT
            go_wp2_with fail
            refine (longer_any (mk := 18) T20.out.2.2.1 (by decide) (by rw [T20.out.2.2.1.1]; have := HSB.out.2.2.2; omega) (by have := HSZ.out; omega)).mono ?_
            rintro q w21 ⟨G2, rfl, mk2, gr2⟩
            have li21 := T20.out.1.far gr2 (fun g hg h => by have h1 := IB.out g hg; have h2 := HSZ.out; simp [Value.ownBlock] at h; omega)
            have od21 := T20.out.2.1.far gr2 (fun g hg h => by have h1 := IB.out g hg; have h2 := ID.out g h; have h3 := HSZ.out; omega)
            have ow21 := T20.out.2.2.2.1.far gr2 (fun g hg h => by have h1 := IB.out g hg; have h2 := IW.out g h; omega)
            have ov21 := T20.out.2.2.2.2.far gr2 (fun g hg h => by have h1 := IB.out g hg; have h2 := IV.out g h; have h3 := HSZ.out; omega)
            have F1 := mk1.far gr2 (fun g hg => ⟨by have h1 := IB.out g hg; have h3 := HSZ.out; omega, fun h => by have h1 := IB.out g hg; have h2 := IS.out g h; omega⟩)
            have F2 := mk2.full
            have B21 := below_grows B20.out T20.out.2.2.1 (by have := HSZ.out; omega) gr2
            have T21 : Hid (_ ∧ _ ∧ _ ∧ _ ∧ _ ∧ _) := ⟨li21, od21, ow21, ov21, F1, F2⟩
            clear li21 od21 ow21 ov21 F1 F2 mk1 mk2 gr1 gr2 T20 B20 hs20 HT
            go_wp2_with fail
            refine (C1.out _ _ (T21.out.1.rd HL.out.2.1 (by have := HL.out.2.2; omega))).mono ?_
            rintro q w22 ⟨a22, m22, c22, rfl, o22, hb22⟩
            go_wp2_with fail
            refine (C2.out _ _ ((T21.out.1.later hb22).rd HL.out.2.1 (by have := HL.out.2.2; omega))).mono ?_
            rintro q w23 ⟨a23, m23, c23, rfl, o23, hb23⟩
            have hb2123 := hb22.trans (hb23.mono hb22.size)
            have o223 := o22.later hb23
            clear hb22 o22
            go_wp2_with fail
            refine (alike_same (RDS.out _ _ _ _ _ o223) (RDS.out _ _ _ _ _ (T21.out.2.2.1.later hb2123))).mono ?_
            rintro q w24 ⟨rfl, hb24⟩
            go_wp2_with fail
            refine (alike_same ((RDT.out _ _ _ _ _ o23).later hb24) ((RDT.out _ _ _ _ _ (T21.out.2.2.2.1.later hb2123)).later hb24)).mono ?_
            rintro q w25 ⟨rfl, hb25⟩
            have hb2124 := hb2123.trans (hb24.mono hb2123.size)
            have hb2125 := hb2124.trans (hb25.mono hb2124.size)
            go_wp2_with fail
            refine (full_any (T21.out.2.2.2.2.1.later hb2125)).mono ?_
            rintro q w26 ⟨rfl, rfl⟩
            go_wp2_with fail
            refine (full_any (T21.out.2.2.2.2.2.later hb2125)).mono ?_
            rintro q w26 ⟨rfl, rfl⟩
            go_wp2_with fail
            refine (intact_any (T21.out.1.later hb2125) ((T21.out.2.1.rd HL.out.2.1 (by rw [T21.out.2.1.1]; have := HL.out.2.2; omega)).later hb2125) (by have := HL.out.2.2; omega)).mono ?_
            rintro q w27 ⟨rfl, hb27⟩
            go_wp2
            go_ret
            exact ⟨rfl, (B21.trans (hb2125.mono B21.size)).trans (hb27.mono (Nat.le_trans B21.size hb2125.size))⟩
    · have hF1 : ¬ ((F : Int) = 0) := by omega
      have hF2 : ((F : Int) == 0) = false := by simp; omega
      go_wp2_with fail
      refine (longer_any (mk := 17) HT.out.2.2.1 (by decide) (by rw [HT.out.2.2.1.1]; have := HSB.out.2.1; omega) (by have := HSZ.out; omega)).mono ?_
      rintro q w20 ⟨G1, rfl, mk1, gr1⟩
      have T20 : Hid (Laid w20 _ (.slice (some ⟨gi, 0, none⟩) nL ci) L ∧ Own w20 _ (.slice ad md cd) md L ∧ Own w20 w3.heap.size (.slice ab mb cb) mb T ∧ Own w20 w4.heap.size (.slice aw mw cw) mw S ∧ Own w20 w5.heap.size (.slice av mv cv) mv T) :=
        ⟨HT.out.1.far gr1 (fun g hg h => by have h1 := IS.out g hg; have h2 := HSZ.out.1; simp [Value.ownBlock] at h; omega), HT.out.2.1.far gr1 (fun g hg h => by have h1 := IS.out g hg; have h2 := ID.out g h; omega), HT.out.2.2.2.1.far gr1 (fun g hg h => by have h1 := IS.out g hg; have h2 := IB.out g h; omega), HT.out.2.2.2.2.1.far gr1 (fun g hg h => by have h1 := IS.out g hg; have h2 := IW.out g h; have h3 := HSZ.out; omega), HT.out.2.2.2.2.2.far gr1 (fun g hg h => by have h1 := IS.out g hg; have h2 := IV.out g h; have h3 := HSZ.out; omega)⟩
      have B20 : Hid (Below w.heap.size w w20) := below_grows BT HT.out.2.2.1 (by have := HSZ.out; omega) gr1
      have hs20 : w11.heap.size ≤ w20.heap.size := gr1.size
      clear BT
      go_wp2_with fail
      refine (longer_any (mk := 18) T20.out.2.2.1 (by decide) (by rw [T20.out.2.2.1.1]; have := HSB.out.2.2.2; omega) (by have := HSZ.out; omega)).mono ?_
      rintro q w21 ⟨G2, rfl, mk2, gr2⟩
      have li21 := T20.out.1.far gr2 (fun g hg h => by have h1 := IB.out g hg; have h2 := HSZ.out; simp [Value.ownBlock] at h; omega)
      have od21 := T20.out.2.1.far gr2 (fun g hg h => by have h1 := IB.out g hg; have h2 := ID.out g h; have h3 := HSZ.out; omega)
      have ow21 := T20.out.2.2.2.1.far gr2 (fun g hg h => by have h1 := IB.out g hg; have h2 := IW.out g h; omega)
      have ov21 := T20.out.2.2.2.2.far gr2 (fun g hg h => by have h1 := IB.out g hg; have h2 := IV.out g h; have h3 := HSZ.out; omega)
      have F1 := mk1.far gr2 (fun g hg => ⟨by have h1 := IB.out g hg; have h3 := HSZ.out; omega, fun h => by have h1 := IB.out g hg; have h2 := IS.out g h; omega⟩)
      have F2 := mk2.full
      have B21 := below_grows B20.out T20.out.2.2.1 (by have := HSZ.out; omega) gr2
      have T21 : Hid (_ ∧ _ ∧ _ ∧ _ ∧ _ ∧ _) := ⟨li21, od21, ow21, ov21, F1, F2⟩
      clear li21 od21 ow21 ov21 F1 F2 mk1 mk2 gr1 gr2 T20 B20 hs20 HT
      go_wp2_with fail
      refine (C1.out _ _ (T21.out.1.rd HL.out.2.1 (by have := HL.out.2.2; omega))).mono ?_
      rintro q w22 ⟨a22, m22, c22, rfl, o22, hb22⟩
      go_wp2_with fail
      refine (C2.out _ _ ((T21.out.1.later hb22).rd HL.out.2.1 (by have := HL.out.2.2; omega))).mono ?_
      rintro q w23 ⟨a23, m23, c23, rfl, o23, hb23⟩
      have hb2123 := hb22.trans (hb23.mono hb22.size)
      have o223 := o22.later hb23
      clear hb22 o22
      go_wp2_with fail
      refine (alike_same (RDS.out _ _ _ _ _ o223) (RDS.out _ _ _ _ _ (T21.out.2.2.1.later hb2123))).mono ?_
      rintro q w24 ⟨rfl, hb24⟩
      go_wp2_with fail
      refine (alike_same ((RDT.out _ _ _ _ _ o23).later hb24) ((RDT.out _ _ _ _ _ (T21.out.2.2.2.1.later hb2123)).later hb24)).mono ?_
      rintro q w25 ⟨rfl, hb25⟩
      have hb2124 := hb2123.trans (hb24.mono hb2123.size)
      have hb2125 := hb2124.trans (hb25.mono hb2124.size)
      go_wp2_with fail
      refine (full_any (T21.out.2.2.2.2.1.later hb2125)).mono ?_
      rintro q w26 ⟨rfl, rfl⟩
      go_wp2_with fail
      refine (full_any (T21.out.2.2.2.2.2.later hb2125)).mono ?_
      rintro q w26 ⟨rfl, rfl⟩
      go_wp2_with fail
      refine (intact_any (T21.out.1.later hb2125) ((T21.out.2.1.rd HL.out.2.1 (by rw [T21.out.2.1.1]; have := HL.out.2.2; omega)).later hb2125) (by have := HL.out.2.2; omega)).mono ?_
      rintro q w27 ⟨rfl, hb27⟩
      go_wp2
      go_ret
      exact ⟨rfl, (B21.trans (hb2125.mono B21.size)).trans (hb27.mono (Nat.le_trans B21.size hb2125.size))⟩
  · have hE1 : ¬ ((E : Int) = 0) := by omega
    have hE2 : ((E : Int) == 0) = false := by simp; omega
    go_wp2_with fail
    refine (longer_any (mk := 17) HT.out.2.2.1 (by decide) (by rw [HT.out.2.2.1.1]; have := HSB.out.2.1; omega) (by have := HSZ.out; omega)).mono ?_
    rintro q w20 ⟨G1, rfl, mk1, gr1⟩
    have T20 : Hid (Laid w20 _ (.slice (some ⟨gi, 0, none⟩) nL ci) L ∧ Own w20 _ (.slice ad md cd) md L ∧ Own w20 w3.heap.size (.slice ab mb cb) mb T ∧ Own w20 w4.heap.size (.slice aw mw cw) mw S ∧ Own w20 w5.heap.size (.slice av mv cv) mv T) :=
      ⟨HT.out.1.far gr1 (fun g hg h => by have h1 := IS.out g hg; have h2 := HSZ.out.1; simp [Value.ownBlock] at h; omega), HT.out.2.1.far gr1 (fun g hg h => by have h1 := IS.out g hg; have h2 := ID.out g h; omega), HT.out.2.2.2.1.far gr1 (fun g hg h => by have h1 := IS.out g hg; have h2 := IB.out g h; omega), HT.out.2.2.2.2.1.far gr1 (fun g hg h => by have h1 := IS.out g hg; have h2 := IW.out g h; have h3 := HSZ.out; omega), HT.out.2.2.2.2.2.far gr1 (fun g hg h => by have h1 := IS.out g hg; have h2 := IV.out g h; have h3 := HSZ.out; omega)⟩
    have B20 : Hid (Below w.heap.size w w20) := below_grows BT HT.out.2.2.1 (by have := HSZ.out; omega) gr1
    have hs20 : w11.heap.size ≤ w20.heap.size := gr1.size
    clear BT
    go_wp2_with fail
    refine (longer_any (mk := 18) T20.out.2.2.1 (by decide) (by rw [T20.out.2.2.1.1]; have := HSB.out.2.2.2; omega) (by have := HSZ.out; omega)).mono ?_
    rintro q w21 ⟨G2, rfl, mk2, gr2⟩
    have li21 := T20.out.1.far gr2 (fun g hg h => by have h1 := IB.out g hg; have h2 := HSZ.out; simp [Value.ownBlock] at h; omega)
    have od21 := T20.out.2.1.far gr2 (fun g hg h => by have h1 := IB.out g hg; have h2 := ID.out g h; have h3 := HSZ.out; omega)
    have ow21 := T20.out.2.2.2.1.far gr2 (fun g hg h => by have h1 := IB.out g hg; have h2 := IW.out g h; omega)
    have ov21 := T20.out.2.2.2.2.far gr2 (fun g hg h => by have h1 := IB.out g hg; have h2 := IV.out g h; have h3 := HSZ.out; omega)
    have F1 := mk1.far gr2 (fun g hg => ⟨by have h1 := IB.out g hg; have h3 := HSZ.out; omega, fun h => by have h1 := IB.out g hg; have h2 := IS.out g h; omega⟩)
    have F2 := mk2.full
    have B21 := below_grows B20.out T20.out.2.2.1 (by have := HSZ.out; omega) gr2
    have T21 : Hid (_ ∧ _ ∧ _ ∧ _ ∧ _ ∧ _) := ⟨li21, od21, ow21, ov21, F1, F2⟩
    clear li21 od21 ow21 ov21 F1 F2 mk1 mk2 gr1 gr2 T20 B20 hs20 HT
    go_wp2_with fail
    refine (C1.out _ _ (T21.out.1.rd HL.out.2.1 (by have := HL.out.2.2; omega))).mono ?_
    rintro q w22 ⟨a22, m22, c22, rfl, o22, hb22⟩
    go_wp2_with fail
    refine (C2.out _ _ ((T21.out.1.later hb22).rd HL.out.2.1 (by have := HL.out.2.2; omega))).mono ?_
    rintro q w23 ⟨a23, m23, c23, rfl, o23, hb23⟩
    have hb2123 := hb22.trans (hb23.mono hb22.size)
    have o223 := o22.later hb23
    clear hb22 o22
    go_wp2_with fail
    refine (alike_same (RDS.out _ _ _ _ _ o223) (RDS.out _ _ _ _ _ (T21.out.2.2.1.later hb2123))).mono ?_
    rintro q w24 ⟨rfl, hb24⟩
    go_wp2_with fail
    refine (alike_same ((RDT.out _ _ _ _ _ o23).later hb24) ((RDT.out _ _ _ _ _ (T21.out.2.2.2.1.later hb2123)).later hb24)).mono ?_
    rintro q w25 ⟨rfl, hb25⟩
    have hb2124 := hb2123.trans (hb24.mono hb2123.size)
    have hb2125 := hb2124.trans (hb25.mono hb2124.size)
    go_wp2_with fail
    refine (full_any (T21.out.2.2.2.2.1.later hb2125)).mono ?_
    rintro q w26 ⟨rfl, rfl⟩
    go_wp2_with fail
    refine (full_any (T21.out.2.2.2.2.2.later hb2125)).mono ?_
    rintro q w26 ⟨rfl, rfl⟩
    go_wp2_with fail
    refine (intact_any (T21.out.1.later hb2125) ((T21.out.2.1.rd HL.out.2.1 (by rw [T21.out.2.1.1]; have := HL.out.2.2; omega)).later hb2125) (by have := HL.out.2.2; omega)).mono ?_
    rintro q w27 ⟨rfl, hb27⟩
    go_wp2
    go_ret
    exact ⟨rfl, (B21.trans (hb2125.mono B21.size)).trans (hb27.mono (Nat.le_trans B21.size hb2125.size))⟩

end Go.Proofs.Ytjcpjpjccoeakaa
