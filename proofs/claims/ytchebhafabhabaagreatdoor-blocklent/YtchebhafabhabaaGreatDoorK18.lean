import Derived.Test.YtchebhafabhabaaGreatDoorK17
namespace Go.Proofs.YtchebhafabhabaaGreatDoor
open Go.RowKit Go.Shelf
set_option linter.unusedVariables false

theorem lt_trans5 {a b c : EntD} (h : compareS a b < 0) (k : compareS b c < 0) : compareS a c < 0 := by
 have := compareS_tri a b c
 unfold Tri at this
 have := compareS_small a b
 have := compareS_small b c
 have := compareS_small a c
 omega
theorem ins5 {zs : List EntD} {x : EntD} {u : Nat} (hs : zs.Pairwise fun x y => compareS x y < 0) (h1 : ∀ y ∈ zs.take u, compareS y x < 0) (h2 : ∀ y, zs[u]? = some y → 0 < compareS y x) : (zs.take u ++ [x] ++ zs.drop u).Pairwise fun x y => compareS x y < 0 := by
 have xy : ∀ y ∈ zs.drop u, compareS x y < 0 := fun y hy => by
  cases hz : zs[u]? with
  | none =>
   have := List.getElem?_eq_none_iff.1 hz
   rw [List.drop_eq_nil_of_le this] at hy
   cases hy
  | some z =>
   have hzx := h2 z hz
   have e : zs.drop u = z :: zs.drop (u + 1) := by
    have h9 := List.getElem?_eq_some_iff.1 hz
    rw [List.drop_eq_getElem_cons h9.1, h9.2]
   have sz := compareS_swap z x
   rw [e] at hy
   rcases List.mem_cons.1 hy with q | q
   ·rw [q]; omega
   ·have hp := hs.sublist (List.drop_sublist u zs)
    rw [e] at hp
    have := (List.pairwise_cons.1 hp).1 y q
    exact lt_trans5 (by omega) this
 rw [List.append_assoc, List.pairwise_append]
 refine ⟨hs.sublist (List.take_sublist _ _), ?_, fun y hy z hz => ?_⟩
 ·rw [List.singleton_append, List.pairwise_cons]
  exact ⟨xy, hs.sublist (List.drop_sublist _ _)⟩
 ·rw [List.singleton_append] at hz
  rcases List.mem_cons.1 hz with q | q
  ·rw [q]; exact h1 y hy
  ·exact lt_trans5 (h1 y hy) (xy z q)
theorem up_srt : ∀ (zs : List EntD) (la : List Nat), zs.Pairwise (fun x y => compareS x y < 0) → (∀ e ∈ zs, checkS e = 0) → (∀ e ∈ zs, ordC la (keyL e) < 0) → Up la (kvL zs)
 | [], la, _, _, _ => trivial
 | x :: t, la, hp, hc, hl => ⟨hl x (by simp), up_srt t (keyL x) (List.pairwise_cons.1 hp).2 (fun e he => hc e (by simp [he])) (fun e he => by
   rw [key_ord (hc x (by simp)) (hc e (by simp [he]))]
   exact (List.pairwise_cons.1 hp).1 e he)⟩
structure So (W wr : World) (am : Option Addr) (cm : Nat) (zs : List EntD) (k : Nat) : Prop where
 rd : RdL5 wr am cm zs
 srt : zs.Pairwise fun x y => compareS x y < 0
 ck : ∀ e ∈ zs, checkS e = 0
 len : zs.length ≤ k
 bel : Below W.heap.size W wr
 form : (am = none ∧ cm = 0) ∨ ∃ g, am = some ⟨g, 0, none⟩
theorem So.later {W wr wx : World} {am : Option Addr} {cm k : Nat} {zs : List EntD} (h : So W wr am cm zs k) (b : Below wr.heap.size wr wx) : So W wx am cm zs k := ⟨h.rd.later b, h.srt, h.ck, h.len, h.bel.trans (b.mono h.bel.size), h.form⟩
theorem So.mono {W wr : World} {am : Option Addr} {cm k k' : Nat} {zs : List EntD} (h : So W wr am cm zs k) (hk : k ≤ k') : So W wr am cm zs k' := ⟨h.rd, h.srt, h.ck, Nat.le_trans h.len hk, h.bel, h.form⟩
def SoP (W : World) (x : Ending) (w' : World) : Prop := ∃ a m c zs, x = .returned (.slice a m c) ∧ m = zs.length ∧ RdL5 w' a c zs ∧ (∀ e ∈ zs, checkS e = 0) ∧ Up [] (kvL zs) ∧ zs.length ≤ 80 ∧ Below W.heap.size W w'
theorem So.done {W wr : World} {am : Option Addr} {cm k m : Nat} {zs : List EntD} (h : So W wr am cm zs k) (hk : k ≤ 80) (hm : m = zs.length) : SoP W (.returned (.slice am m cm)) wr := ⟨am, m, cm, zs, rfl, hm, h.rd, h.ck, up_srt zs [] h.srt h.ck (fun e _ => by rw [key_nil]; omega), Nat.le_trans h.len hk, h.bel⟩
theorem So.put {W X wr : World} {am am' : Option Addr} {cm cm' k u : Nat} {zs : List EntD} {e : EntD} {v : Value} (h : So W X am cm zs k) (hb : Below X.heap.size X wr) (he : EntD.Ok X e) (hc : checkS e = 0) (h1 : ∀ y ∈ zs.take u, compareS y e < 0) (h2 : ∀ y, zs[u]? = some y → 0 < compareS y e) (n : Nat) (hv : v = .slice am' n cm') (hr : wr.ownsRow X.heap.size 40 7 v (zs.take u ++ [e] ++ zs.drop u).length (evals5 (zs.take u ++ [e] ++ zs.drop u))) : n = (zs.take u ++ [e] ++ zs.drop u).length ∧ So W wr am' cm' (zs.take u ++ [e] ++ zs.drop u) (k + 1) := by
 have hmem : ∀ x ∈ zs.take u ++ [e] ++ zs.drop u, x ∈ zs ∨ x = e := fun x hx => by
  simp only [List.mem_append, List.mem_singleton] at hx
  rcases hx with (hx | hx) | hx
  ·exact .inl (List.mem_of_mem_take hx)
  ·exact .inr hx
  ·exact .inl (List.mem_of_mem_drop hx)
 have hl : (zs.take u ++ [e] ++ zs.drop u).length = zs.length + 1 := by
  simp only [List.length_append, List.length_take, List.length_drop, List.length_cons, List.length_nil]
  omega
 have hok : ∀ x ∈ zs.take u ++ [e] ++ zs.drop u, EntD.Ok wr x := fun x hx => by
  rcases hmem x hx with hx | rfl
  ·exact (h.rd.ok x hx).later hb
  ·exact he.later hb
 obtain ⟨a2, c2, e2, hrd⟩ := row_rdl5 hr hok
 rw [hv] at e2
 simp only [Value.slice.injEq] at e2
 obtain ⟨rfl, rfl, rfl⟩ := e2
 refine ⟨rfl, hrd, ins5 h.srt h1 h2, fun x hx => ?_, by have := h.len; omega, h.bel.trans (hb.mono h.bel.size), ?_⟩
 ·rcases hmem x hx with hx | rfl
  ·exact h.ck x hx
  ·exact hc
 ·rcases hr.2 with ⟨h3, _⟩ | ⟨g, cap, cur, h3, _⟩
  ·rw [hv] at h3; simp only [Value.slice.injEq] at h3; exact .inl ⟨h3.1, h3.2.2⟩
  ·rw [hv] at h3; simp only [Value.slice.injEq] at h3; exact .inr ⟨g, h3.1⟩
set_option maxRecDepth 100000 in
set_option maxHeartbeats 8000000 in
theorem sorted5_any {W : World} {a : Option Addr} {cap : Nat} {l : List EntD} (hr : RdL5 W a cap l) :
  Calls Tryz.prog 39 #[.slice a l.length cap] W fun x w' => SoP W x w' := by
 obtain ⟨N, hN⟩ : ∃ N, N = l.length := ⟨_, rfl⟩
 rw [← hN]
 have hNm : N ≤ 9223372036854775807 := by have := hr.cap; unfold maxLen at this; omega
 have HN := Lib.hid hN
 have HR := Lib.hid hr
 have H0 : Hid (So W W none 0 [] 0) := ⟨⟨⟨Nat.le_refl _, Nat.zero_le _⟩, .inl rfl, (fun x hx => by cases hx), fun _ => rfl⟩, List.Pairwise.nil, (fun e he => by cases he), Nat.le_refl _, Below.refl _ _, .inl ⟨rfl, rfl⟩⟩
 clear hN hr
 go_enter Tryz.func39, Tryz.ntmps39
 go_wp2
 go_loopw [3, 4, 5, 6] (fun vm iv _ _ wr => ∃ (k nm : Nat) (am : Option Addr) (cm : Nat), k ≤ N ∧ k ≤ 80 ∧ iv = .int .i64 (k : Int) ∧ vm = .slice am nm cm ∧ Hid (∃ zs, nm = zs.length ∧ So W wr am cm zs k)) (fun _ iv _ _ _ => N - (intOf iv).toNat)
 case atStart => exact ⟨0, 0, none, 0, Nat.zero_le _, Nat.zero_le _, rfl, rfl, [], rfl, H0.out⟩
 case round =>
  clear H0
  obtain ⟨k, nm, am, cm, hk, hk80, rfl, rfl, HU⟩ := hrel
  have k0 : (0 : Int) ≤ (k : Int) := by omega
  by_cases hlt : k < N
  ·have hlt2 : (k : Int) < (N : Int) := by omega
   by_cases h80 : k < 80
   ·have h80i : (k : Int) < 80 := by omega
    have hl2 : k < l.length := by rw [← HN.out]; exact hlt
    obtain ⟨e, he⟩ : ∃ e, l[k]? = some e := ⟨l[k], List.getElem?_eq_getElem hl2⟩
    obtain ⟨zs, hnm, hso⟩ := HU.out
    have hrd := HR.out.later hso.bel
    have hok := hrd.ok e (List.mem_of_getElem? he)
    obtain ⟨b, off, rfl, d0, d1, d2, d3, d4, d5, d6⟩ := hrd.cel he
    have hcap := hrd.cap
    obtain ⟨_, p1, q1, e1, -⟩ := hok.1
    obtain ⟨_, p2, q2, e2, -⟩ := hok.2.1
    obtain ⟨_, p3, q3, e3, -⟩ := hok.2.2
    have hce : e.cells = #[.slice p1 e.row.length q1, .int .i64 e.fam, .slice p2 e.qual.length q2, .int .i64 e.ts, .int .i64 e.seq, .int .i64 e.kind, .slice p3 e.val.length q3] := by unfold EntD.cells; rw [e1, e2, e3]
    obtain ⟨z1, hz1⟩ : ∃ z, z = e.row.length := ⟨_, rfl⟩
    obtain ⟨z2, hz2⟩ : ∃ z, z = e.qual.length := ⟨_, rfl⟩
    obtain ⟨z3, hz3⟩ : ∃ z, z = e.val.length := ⟨_, rfl⟩
    rw [e1, ← hz1] at d0
    rw [e2, ← hz2] at d2
    rw [e3, ← hz3] at d6
    rw [← hz1, ← hz2, ← hz3] at hce
    have HCk := refCheck_any hok
    rw [hce] at HCk
    have HCk := Lib.hid HCk
    have HE : Hid (l[k]? = some e ∧ True) := ⟨he, trivial⟩
    have HCe : Hid (e.cells = _ ∧ True) := ⟨hce, trivial⟩
    have HVr : Hid (e.vr = .slice p1 z1 q1 ∧ e.vq = .slice p2 z2 q2 ∧ e.vv = .slice p3 z3 q3) := ⟨by rw [e1, hz1], by rw [e2, hz2], by rw [e3, hz3]⟩
    have HSo := Lib.hid hso
    have HM : Hid (nm = zs.length ∧ True) := ⟨hnm, trivial⟩
    have hnm80 : nm ≤ 80 := by have := hso.len; omega
    obtain ⟨E0, hE0⟩ : ∃ E0, checkS e = E0 := ⟨_, rfl⟩
    rw [hE0] at HCk
    have HE0 := Lib.hid hE0
    clear hrd he hok hz1 hz2 hz3 hce e1 e2 e3 hso hnm HU hl2 hE0
    go_wp2_with fail
    refine Calls.mono HCk.out ?_
    rintro z X1 ⟨rfl, b1⟩
    have HSo1 := Lib.hid (HSo.out.later b1)
    clear HCk HSo b1 d0 d1 d2 d3 d4 d5 d6
    by_cases hE : E0 = 0
    ·have hEi : (E0 : Int) = 0 := by omega
     have hEb : ((E0 : Int) == 0) = true := by rw [beq_iff_eq]; exact hEi
     subst hE
     clear hEi hEb
     go_wp2
     rcases HSo1.out.form with ⟨hn1, hn2⟩ | ⟨gm, hgm⟩
     ·have hzs : zs = [] := by
       have h1 := HSo1.out.rd.cap.1
       rw [hn2] at h1
       exact List.eq_nil_of_length_eq_zero (by omega)
      obtain rfl : nm = 0 := by rw [HM.out.1, hzs]; rfl
      subst hn1 hn2 hzs
      go_loopw [5] (fun av wr => av = .int .i64 0 ∧ Hid (So W wr none 0 [] k)) (fun _ _ => 0)
      case atStart => exact ⟨rfl, HSo1⟩
      case round =>
       clear HSo1
       obtain ⟨rfl, HI⟩ := hrel
       have hHi : Hid (∀ y, ([] : List EntD)[0]? = some y → 0 < compareS y e) := fun y hy => by simp at hy
       have HLo : Hid (∀ y ∈ ([] : List EntD).take 0, compareS y e < 0) := fun y hy => by simp at hy
       go_upto_region 7 with fail
       go_quiet (fail)
       have bX := below_drewN (Below.refl wr.heap.size wr) nq
       generalize wr.drewN nq = X2 at *
       have HSo2 := Lib.hid (HI.out.later bX)
       clear bX
       go_upto_region 9 with fail
       go_quiet (fail)
       have bX := below_drewN (Below.refl X2.heap.size X2) nq
       generalize X2.drewN nq = X3 at *
       have HSoX := Lib.hid (HSo2.out.later bX)
       clear bX HSo2
       have hatc : (0 : Nat) ≤ 0 := by have := HM.out.1; have := HSoX.out.rd.cap.1; omega
       have HOe := Lib.hid ((HR.out.later HSoX.out.bel).ok e (List.mem_of_getElem? HE.out.1))
       have hTk : RdL5 X3 none 0 (([] : List EntD).take 0) := HSoX.out.rd.takeN 0
       have hTl : Hid (0 = (([] : List EntD).take 0).length) := by unfold Hid; rw [List.length_take]; have := HM.out.1; omega
       have hDp : RdL5 X3 none (0) (([] : List EntD).drop 0) := by
        have h := HSoX.out.rd.dropN 0 (by have := HM.out.1; omega)
        exact h
       have hDl : Hid (0 - 0 = (([] : List EntD).drop 0).length) := by unfold Hid; rw [List.length_drop]; have := HM.out.1; omega
       have hone : ∀ y ∈ ([] : List EntD), ∀ u ∈ y.cells.toList, u.oneCell' = true := fun y hy => one_cells (HSoX.out.rd.ok y hy)
       have hn0 : X3.ownsRow X3.heap.size 40 7 (.slice none 0 0) ([] : List EntD).length (evals5 []) := World.ownsRow_nil _ _ _ _
       have hlz : ([] : List EntD).length ≤ 80 := by have := HSoX.out.len; omega
       have HA0 := Lib.hid (And.intro hTk (And.intro hDp (And.intro hone hn0)))
       obtain ⟨b', off', heq, x0, x1, x2, x3, x4, x5, x6⟩ := (HR.out.later HSoX.out.bel).cel HE.out.1
       cases heq
       rw [HVr.out.1] at x0
       rw [HVr.out.2.1] at x2
       rw [HVr.out.2.2] at x6
       have HD9 : Hid (_ ∧ _ ∧ _ ∧ _ ∧ _ ∧ _ ∧ _) := ⟨x0, x1, x2, x3, x4, x5, x6⟩
       clear hTk hDp hone hn0 x0 x1 x2 x3 x4 x5 x6
       go_upto_region 11 with fail
       go_wp2_with (first
        | (have Y := O3; fail)
        | (have Y := O2; at_builtin; refine wpl5_append_rd rfl _ _ rfl X3.heap.size _ _ rfl O2.out _ _ _ _ rfl hDl.out (HA0.out.2.1.later HBx2.out) (fun y hy => HA0.out.2.2.1 y (List.mem_of_mem_drop hy)) (by simp only [List.length_append, List.length_take, List.length_drop, List.length_cons, List.length_nil]; omega) HBx2.out.size ?_; intro a3 n3 c3 Y3 hn3 r3 g3; have O3 := Lib.hid r3; have HBx3 := Lib.hid (HBx2.out.grown g3 HBx2.out.size (fun k hk => (O2.out.lt k hk).1)); have Hn3 := Lib.hid hn3; clear hn3 r3 g3)
        | (have Y := O1; at_builtin; refine wpl5_append_rd rfl _ _ rfl X3.heap.size _ _ rfl (O1.out.alloc _) _ _ _ [e] rfl rfl (HOne.out) (fun y hy => by simp at hy; subst hy; exact one_cells HOe.out) (by simp only [List.length_append, List.length_take, List.length_cons, List.length_nil]; omega) (Nat.le_trans HBx1.out.size (by simp)) ?_; intro a2 n2 c2 Y2 hn2 r2 g2; have O2 := Lib.hid r2; have HBx2 := Lib.hid ((HBx1.out.alloc HBx1.out.size _).grown g2 (Nat.le_trans HBx1.out.size (by simp)) (fun k hk => (O1.out.lt k hk).1)); clear hn2 r2 g2)
        | (at_builtin; refine wpl5_append_rd rfl _ _ rfl X3.heap.size _ [] rfl HA0.out.2.2.2 _ _ _ _ rfl hTl.out HA0.out.1 (fun y hy => HA0.out.2.2.1 y (List.mem_of_mem_take hy)) (by simp only [List.length_take, List.length_nil]; omega) (Nat.le_refl _) ?_; intro a1 n1 c1 Y1 hn1 r1 g1; have O1 := Lib.hid r1; have HBx1 := Lib.hid ((Below.refl X3.heap.size X3).grown g1 (Nat.le_refl _) (fun k hk => (HA0.out.2.2.2.lt k hk).1)); have y0 := (HBx1.out.cell (p := ⟨b, off + k * 7, none⟩) (World.block_lt_of_cell? _ _ HD9.out.1)).trans HD9.out.1; have y1 := (HBx1.out.cell (p := ⟨b, off + k * 7 + 1, none⟩) (World.block_lt_of_cell? _ _ HD9.out.2.1)).trans HD9.out.2.1; have y2 := (HBx1.out.cell (p := ⟨b, off + k * 7 + 2, none⟩) (World.block_lt_of_cell? _ _ HD9.out.2.2.1)).trans HD9.out.2.2.1; have y3 := (HBx1.out.cell (p := ⟨b, off + k * 7 + 3, none⟩) (World.block_lt_of_cell? _ _ HD9.out.2.2.2.1)).trans HD9.out.2.2.2.1; have y4 := (HBx1.out.cell (p := ⟨b, off + k * 7 + 4, none⟩) (World.block_lt_of_cell? _ _ HD9.out.2.2.2.2.1)).trans HD9.out.2.2.2.2.1; have y5 := (HBx1.out.cell (p := ⟨b, off + k * 7 + 5, none⟩) (World.block_lt_of_cell? _ _ HD9.out.2.2.2.2.2.1)).trans HD9.out.2.2.2.2.2.1; have y6 := (HBx1.out.cell (p := ⟨b, off + k * 7 + 6, none⟩) (World.block_lt_of_cell? _ _ HD9.out.2.2.2.2.2.2)).trans HD9.out.2.2.2.2.2.2; have HOne : Hid (RdL5 _ _ _ [e]) := RdL5.one (HOe.out.later HBx1.out); rw [HCe.out.1] at HOne; clear hn1 r1 g1))
       have HZ : Hid (∃ zt, n3 = zt.length ∧ So W Y3 a3 c3 zt (k + 1)) := by
        have h := O3.out
        rw [List.nil_append] at h
        have := HSoX.out.put HBx3.out HOe.out HE0.out HLo.out hHi.out n3 rfl h
        exact ⟨_, this.1, this.2⟩
       refine ⟨⟨k + 1, n3, a3, c3, by omega, by omega, by go_num, rfl, HZ⟩, by simp only [intOf]; omega⟩
     ·subst hgm
      go_loopw [5] (fun av wr => ∃ at_ : Nat, at_ ≤ nm ∧ av = .int .i64 (at_ : Int) ∧ Hid (So W wr (some ⟨gm, 0, none⟩) cm zs k ∧ ∀ y ∈ zs.take at_, compareS y e < 0)) (fun av _ => nm - (intOf av).toNat)
      case atStart => exact ⟨0, Nat.zero_le _, rfl, HSo1.out, fun y hy => by simp at hy⟩
      case round =>
       clear HSo1
       obtain ⟨at_, hat, rfl, HI⟩ := hrel
       have a0 : (0 : Int) ≤ (at_ : Int) := by omega
       have HLo := Lib.hid HI.out.2
       by_cases hatn : at_ < nm
       ·have hatni : (at_ : Int) < (nm : Int) := by omega
        have HSoP := Lib.hid HI.out.1
        obtain ⟨pe, hpe⟩ : ∃ pe, zs[at_]? = some pe := ⟨_, List.getElem?_eq_getElem (by rw [← HM.out.1]; exact hatn)⟩
        have hpok := HSoP.out.rd.ok pe (List.mem_of_getElem? hpe)
        obtain ⟨bm, om, heq, t0, t1, t2, t3, t4, t5, t6⟩ := HSoP.out.rd.cel hpe
        cases heq
        rw [Nat.zero_add] at t0 t1 t2 t3 t4 t5 t6
        have hcapm := HSoP.out.rd.cap
        have hrd1 := HR.out.later HSoP.out.bel
        obtain ⟨b', off', heq, x0, x1, x2, x3, x4, x5, x6⟩ := hrd1.cel HE.out.1
        cases heq
        obtain ⟨_, pp1, qq1, u1, -⟩ := hpok.1
        obtain ⟨_, pp2, qq2, u2, -⟩ := hpok.2.1
        obtain ⟨_, pp3, qq3, u3, -⟩ := hpok.2.2
        have hpc : pe.cells = #[.slice pp1 pe.row.length qq1, .int .i64 pe.fam, .slice pp2 pe.qual.length qq2, .int .i64 pe.ts, .int .i64 pe.seq, .int .i64 pe.kind, .slice pp3 pe.val.length qq3] := by unfold EntD.cells; rw [u1, u2, u3]
        obtain ⟨y1, hy1⟩ : ∃ z, z = pe.row.length := ⟨_, rfl⟩
        obtain ⟨y2, hy2⟩ : ∃ z, z = pe.qual.length := ⟨_, rfl⟩
        obtain ⟨y3, hy3⟩ : ∃ z, z = pe.val.length := ⟨_, rfl⟩
        rw [u1, ← hy1] at t0
        rw [u2, ← hy2] at t2
        rw [u3, ← hy3] at t6
        rw [← hy1, ← hy2, ← hy3] at hpc
        rw [HVr.out.1] at x0
        rw [HVr.out.2.1] at x2
        rw [HVr.out.2.2] at x6
        have HDp : Hid (_ ∧ _ ∧ _ ∧ _ ∧ _ ∧ _ ∧ _) := ⟨t0, t1, t2, t3, t4, t5, t6⟩
        have HD1 : Hid (_ ∧ _ ∧ _ ∧ _ ∧ _ ∧ _ ∧ _) := ⟨x0, x1, x2, x3, x4, x5, x6⟩
        have HCp : Hid (∀ wx, Below wr.heap.size wr wx → Calls Tryz.prog 48 #[.agg #[.slice pp1 y1 qq1, .int .i64 pe.fam, .slice pp2 y2 qq2, .int .i64 pe.ts, .int .i64 pe.seq, .int .i64 pe.kind, .slice pp3 y3 qq3], .agg #[.slice p1 z1 q1, .int .i64 e.fam, .slice p2 z2 q2, .int .i64 e.ts, .int .i64 e.seq, .int .i64 e.kind, .slice p3 z3 q3]] wx fun r w' => r = .returned (.int .i64 (compareS pe e)) ∧ Below wx.heap.size wx w') := fun wx hx => by
         have h := refCompare_any (hpok.later hx) ((hrd1.ok e (List.mem_of_getElem? HE.out.1)).later hx)
         rw [hpc, HCe.out.1] at h
         exact h
        obtain ⟨cv, hcv⟩ : ∃ cv, compareS pe e = cv := ⟨_, rfl⟩
        rw [hcv] at HCp
        have HCv := Lib.hid (And.intro hcv hpe)
        clear hpe hrd1 hpok t0 t1 t2 t3 t4 t5 t6 x0 x1 x2 x3 x4 x5 x6 u1 u2 u3 hpc hy1 hy2 hy3 hcv
        have BD : Below wr.heap.size wr wr.drew := (Below.refl _ _).drew
        by_cases hcv0 : cv < 0
        ·go_upto_region 7 with fail
         refine wp_region_noPanic ?_
         refine wp_region_held_drew (S := fun wx => Below wr.heap.size wr wx) (by kernel_rfl) BD (fun hHeld => ?_)
         refine wpAnyH_take (i := 0) (oi := { dst := some 23, op := _, type := _, pos := _, after := _, guard := _ }) (v := .int .i64 (at_ : Int)) rfl (by kernel_rfl) (by kernel_rfl) (by kernel_rfl) (fun _ _ _ h => h) (Or.inl ⟨by kernel_rfl, fun wy hy => by (go_simp; first | done | omega)⟩) (by assumption) ?_
         try simp only [Act.put, List.setIfInBounds_toArray, List.set_cons_zero, List.set_cons_succ]
         refine wpAnyH_take (i := 1) (oi := { dst := some 24, op := _, type := _, pos := _, after := _, guard := _ }) (v := .slice (some ⟨gm, 0, none⟩) nm cm) rfl (by kernel_rfl) (by kernel_rfl) (by kernel_rfl) (fun _ _ _ h => h) (Or.inl ⟨by kernel_rfl, fun wy hy => by (go_simp; first | done | omega)⟩) (by assumption) ?_
         try simp only [Act.put, List.setIfInBounds_toArray, List.set_cons_zero, List.set_cons_succ]
         refine wpAnyH_take (i := 2) (oi := { dst := some 25, op := _, type := _, pos := _, after := _, guard := _ }) (v := .int .i64 (nm : Int)) rfl (by kernel_rfl) (by kernel_rfl) (by kernel_rfl) (fun _ _ _ h => h) (Or.inl ⟨by kernel_rfl, fun wy hy => by (go_simp; first | done | omega)⟩) (by assumption) ?_
         try simp only [Act.put, List.setIfInBounds_toArray, List.set_cons_zero, List.set_cons_succ]
         refine wpAnyH_take (i := 3) (oi := { dst := some 26, op := _, type := _, pos := _, after := _, guard := _ }) (v := .bool true) rfl (by kernel_rfl) (by kernel_rfl) (by kernel_rfl) (fun _ _ _ h => h) (Or.inl ⟨by kernel_rfl, fun wy hy => by (go_simp; first | done | omega)⟩) (by assumption) ?_
         try simp only [Act.put, List.setIfInBounds_toArray, List.set_cons_zero, List.set_cons_succ]
         refine wpAnyH_take (i := 4) (oi := { dst := some 27, op := _, type := _, pos := _, after := _, guard := _ }) (v := .bool true) rfl (by kernel_rfl) (by kernel_rfl) (by kernel_rfl) (fun _ _ _ h => h) (Or.inl ⟨by kernel_rfl, fun wy hy => by (go_simp; first | done | omega)⟩) (by assumption) ?_
         try simp only [Act.put, List.setIfInBounds_toArray, List.set_cons_zero, List.set_cons_succ]
         refine wpAnyH_take (i := 5) (oi := { dst := some 28, op := _, type := _, pos := _, after := _, guard := _ }) (v := .slice (some ⟨gm, 0, none⟩) nm cm) rfl (by kernel_rfl) (by kernel_rfl) (by kernel_rfl) (fun _ _ _ h => h) (Or.inl ⟨by kernel_rfl, fun wy hy => by (go_simp; first | done | omega)⟩) (by assumption) ?_
         try simp only [Act.put, List.setIfInBounds_toArray, List.set_cons_zero, List.set_cons_succ]
         refine wpAnyH_take (i := 6) (oi := { dst := some 29, op := _, type := _, pos := _, after := _, guard := _ }) (v := .int .i64 (at_ : Int)) rfl (by kernel_rfl) (by kernel_rfl) (by kernel_rfl) (fun _ _ _ h => h) (Or.inl ⟨by kernel_rfl, fun wy hy => by (go_simp; first | done | omega)⟩) (by assumption) ?_
         try simp only [Act.put, List.setIfInBounds_toArray, List.set_cons_zero, List.set_cons_succ]
         refine wpAnyH_take (i := 7) (oi := { dst := some 30, op := _, type := _, pos := _, after := _, guard := _ }) (v := .pointer (some ⟨gm, at_ * 7, none⟩)) rfl (by kernel_rfl) (by kernel_rfl) (by kernel_rfl) (fun _ _ _ h => h) (Or.inl ⟨by kernel_rfl, fun wy hy => by (go_simp; first | done | omega)⟩) (by assumption) ?_
         try simp only [Act.put, List.setIfInBounds_toArray, List.set_cons_zero, List.set_cons_succ]
         refine wpAnyH_take (i := 8) (oi := { dst := some 31, op := _, type := _, pos := _, after := _, guard := _ }) (v := .agg #[.slice pp1 y1 qq1, .int .i64 pe.fam, .slice pp2 y2 qq2, .int .i64 pe.ts, .int .i64 pe.seq, .int .i64 pe.kind, .slice pp3 y3 qq3]) rfl (by kernel_rfl) (by kernel_rfl) (by kernel_rfl) (fun _ _ _ h => h) (Or.inl ⟨by kernel_rfl, fun wy hy => by (have f0 := (hy.cell (p := ⟨gm, at_ * 7, none⟩) (World.block_lt_of_cell? _ _ HDp.out.1)).trans HDp.out.1; have f1 := (hy.cell (p := ⟨gm, at_ * 7 + 1, none⟩) (World.block_lt_of_cell? _ _ HDp.out.2.1)).trans HDp.out.2.1; have f2 := (hy.cell (p := ⟨gm, at_ * 7 + 2, none⟩) (World.block_lt_of_cell? _ _ HDp.out.2.2.1)).trans HDp.out.2.2.1; have f3 := (hy.cell (p := ⟨gm, at_ * 7 + 3, none⟩) (World.block_lt_of_cell? _ _ HDp.out.2.2.2.1)).trans HDp.out.2.2.2.1; have f4 := (hy.cell (p := ⟨gm, at_ * 7 + 4, none⟩) (World.block_lt_of_cell? _ _ HDp.out.2.2.2.2.1)).trans HDp.out.2.2.2.2.1; have f5 := (hy.cell (p := ⟨gm, at_ * 7 + 5, none⟩) (World.block_lt_of_cell? _ _ HDp.out.2.2.2.2.2.1)).trans HDp.out.2.2.2.2.2.1; have f6 := (hy.cell (p := ⟨gm, at_ * 7 + 6, none⟩) (World.block_lt_of_cell? _ _ HDp.out.2.2.2.2.2.2)).trans HDp.out.2.2.2.2.2.2; go_simp; done)⟩) (by assumption) ?_
         try simp only [Act.put, List.setIfInBounds_toArray, List.set_cons_zero, List.set_cons_succ]
         refine wpAnyH_take (i := 9) (oi := { dst := some 32, op := _, type := _, pos := _, after := _, guard := _ }) (v := .slice (some ⟨b, off, none⟩) N cap) rfl (by kernel_rfl) (by kernel_rfl) (by kernel_rfl) (fun _ _ _ h => h) (Or.inl ⟨by kernel_rfl, fun wy hy => by (go_simp; first | done | omega)⟩) (by assumption) ?_
         try simp only [Act.put, List.setIfInBounds_toArray, List.set_cons_zero, List.set_cons_succ]
         refine wpAnyH_take (i := 10) (oi := { dst := some 33, op := _, type := _, pos := _, after := _, guard := _ }) (v := .int .i64 (k : Int)) rfl (by kernel_rfl) (by kernel_rfl) (by kernel_rfl) (fun _ _ _ h => h) (Or.inl ⟨by kernel_rfl, fun wy hy => by (go_simp; first | done | omega)⟩) (by assumption) ?_
         try simp only [Act.put, List.setIfInBounds_toArray, List.set_cons_zero, List.set_cons_succ]
         refine wpAnyH_take (i := 11) (oi := { dst := some 34, op := _, type := _, pos := _, after := _, guard := _ }) (v := .pointer (some ⟨b, off + k * 7, none⟩)) rfl (by kernel_rfl) (by kernel_rfl) (by kernel_rfl) (fun _ _ _ h => h) (Or.inl ⟨by kernel_rfl, fun wy hy => by (go_simp; first | done | omega)⟩) (by assumption) ?_
         try simp only [Act.put, List.setIfInBounds_toArray, List.set_cons_zero, List.set_cons_succ]
         refine wpAnyH_take (i := 12) (oi := { dst := some 35, op := _, type := _, pos := _, after := _, guard := _ }) (v := .agg #[.slice p1 z1 q1, .int .i64 e.fam, .slice p2 z2 q2, .int .i64 e.ts, .int .i64 e.seq, .int .i64 e.kind, .slice p3 z3 q3]) rfl (by kernel_rfl) (by kernel_rfl) (by kernel_rfl) (fun _ _ _ h => h) (Or.inl ⟨by kernel_rfl, fun wy hy => by (have f0 := (hy.cell (p := ⟨b, off + k * 7, none⟩) (World.block_lt_of_cell? _ _ HD1.out.1)).trans HD1.out.1; have f1 := (hy.cell (p := ⟨b, off + k * 7 + 1, none⟩) (World.block_lt_of_cell? _ _ HD1.out.2.1)).trans HD1.out.2.1; have f2 := (hy.cell (p := ⟨b, off + k * 7 + 2, none⟩) (World.block_lt_of_cell? _ _ HD1.out.2.2.1)).trans HD1.out.2.2.1; have f3 := (hy.cell (p := ⟨b, off + k * 7 + 3, none⟩) (World.block_lt_of_cell? _ _ HD1.out.2.2.2.1)).trans HD1.out.2.2.2.1; have f4 := (hy.cell (p := ⟨b, off + k * 7 + 4, none⟩) (World.block_lt_of_cell? _ _ HD1.out.2.2.2.2.1)).trans HD1.out.2.2.2.2.1; have f5 := (hy.cell (p := ⟨b, off + k * 7 + 5, none⟩) (World.block_lt_of_cell? _ _ HD1.out.2.2.2.2.2.1)).trans HD1.out.2.2.2.2.2.1; have f6 := (hy.cell (p := ⟨b, off + k * 7 + 6, none⟩) (World.block_lt_of_cell? _ _ HD1.out.2.2.2.2.2.2)).trans HD1.out.2.2.2.2.2.2; go_simp; done)⟩) (by assumption) ?_
         try simp only [Act.put, List.setIfInBounds_toArray, List.set_cons_zero, List.set_cons_succ]
         refine wpAnyH_ready (rs := [13]) (by kernel_rfl) (by simp) ?_
         refine AllReadyH.cons (o := { dst := some 36, op := _, type := _, pos := _, after := _, guard := _ }) rfl (fun KK hK => ?_) AllReadyH.nil
         go_simp
         go_at_call 48
         refine (HCp.out _ BD).mono ?_
         rintro e9 X2 ⟨rfl, hb2⟩
         have bX2 : Below wr.heap.size wr X2 := BD.trans (hb2.mono BD.size)
         clear hb2 BD HCp
         go_wp2_with fail
         refine hK.out _ _ bX2 (fun hHeld => ?_)
         clear hK
         try simp only [Act.put, List.setIfInBounds_toArray, List.set_cons_zero, List.set_cons_succ]
         refine wpAnyH_take (i := 14) (oi := { dst := some 37, op := _, type := _, pos := _, after := _, guard := _ }) (v := .bool true) rfl (by kernel_rfl) (by kernel_rfl) (by kernel_rfl) (fun _ _ _ h => h) (Or.inl ⟨by kernel_rfl, fun wy hy => by (go_simp; first | done | omega)⟩) (by assumption) ?_
         try simp only [Act.put, List.setIfInBounds_toArray, List.set_cons_zero, List.set_cons_succ]
         refine wpAnyH_take (i := 15) (oi := { dst := some 38, op := _, type := _, pos := _, after := _, guard := _ }) (v := .bool true) rfl (by kernel_rfl) (by kernel_rfl) (by kernel_rfl) (fun _ _ _ h => h) (Or.inl ⟨by kernel_rfl, fun wy hy => by (go_simp; first | done | omega)⟩) (by assumption) ?_
         try simp only [Act.put, List.setIfInBounds_toArray, List.set_cons_zero, List.set_cons_succ]
         refine wpAnyH_done (by kernel_rfl) (NoPanic.normal ?_) _
         clear hHeld
         have HI2 : Hid (So W X2 (some ⟨gm, 0, none⟩) cm zs k ∧ ∀ y ∈ zs.take (at_ + 1), compareS y e < 0) := by
          refine ⟨HSoP.out.later bX2, fun y hy => ?_⟩
          rw [List.take_add_one, HCv.out.2, List.mem_append] at hy
          rcases hy with hy | hy
          ·exact HLo.out y hy
          ·simp at hy
           rw [hy, HCv.out.1]
           exact hcv0
         clear bX2
         go_simp
         go_step
         go_wp2
         go_roundw
         case rel => exact ⟨at_ + 1, by omega, by go_num, HI2⟩
         case measure => simp only [intOf]; omega
        ·go_upto_region 7 with fail
         refine wp_region_noPanic ?_
         refine wp_region_held_drew (S := fun wx => Below wr.heap.size wr wx) (by kernel_rfl) BD (fun hHeld => ?_)
         refine wpAnyH_take (i := 0) (oi := { dst := some 23, op := _, type := _, pos := _, after := _, guard := _ }) (v := .int .i64 (at_ : Int)) rfl (by kernel_rfl) (by kernel_rfl) (by kernel_rfl) (fun _ _ _ h => h) (Or.inl ⟨by kernel_rfl, fun wy hy => by (go_simp; first | done | omega)⟩) (by assumption) ?_
         try simp only [Act.put, List.setIfInBounds_toArray, List.set_cons_zero, List.set_cons_succ]
         refine wpAnyH_take (i := 1) (oi := { dst := some 24, op := _, type := _, pos := _, after := _, guard := _ }) (v := .slice (some ⟨gm, 0, none⟩) nm cm) rfl (by kernel_rfl) (by kernel_rfl) (by kernel_rfl) (fun _ _ _ h => h) (Or.inl ⟨by kernel_rfl, fun wy hy => by (go_simp; first | done | omega)⟩) (by assumption) ?_
         try simp only [Act.put, List.setIfInBounds_toArray, List.set_cons_zero, List.set_cons_succ]
         refine wpAnyH_take (i := 2) (oi := { dst := some 25, op := _, type := _, pos := _, after := _, guard := _ }) (v := .int .i64 (nm : Int)) rfl (by kernel_rfl) (by kernel_rfl) (by kernel_rfl) (fun _ _ _ h => h) (Or.inl ⟨by kernel_rfl, fun wy hy => by (go_simp; first | done | omega)⟩) (by assumption) ?_
         try simp only [Act.put, List.setIfInBounds_toArray, List.set_cons_zero, List.set_cons_succ]
         refine wpAnyH_take (i := 3) (oi := { dst := some 26, op := _, type := _, pos := _, after := _, guard := _ }) (v := .bool true) rfl (by kernel_rfl) (by kernel_rfl) (by kernel_rfl) (fun _ _ _ h => h) (Or.inl ⟨by kernel_rfl, fun wy hy => by (go_simp; first | done | omega)⟩) (by assumption) ?_
         try simp only [Act.put, List.setIfInBounds_toArray, List.set_cons_zero, List.set_cons_succ]
         refine wpAnyH_take (i := 4) (oi := { dst := some 27, op := _, type := _, pos := _, after := _, guard := _ }) (v := .bool true) rfl (by kernel_rfl) (by kernel_rfl) (by kernel_rfl) (fun _ _ _ h => h) (Or.inl ⟨by kernel_rfl, fun wy hy => by (go_simp; first | done | omega)⟩) (by assumption) ?_
         try simp only [Act.put, List.setIfInBounds_toArray, List.set_cons_zero, List.set_cons_succ]
         refine wpAnyH_take (i := 5) (oi := { dst := some 28, op := _, type := _, pos := _, after := _, guard := _ }) (v := .slice (some ⟨gm, 0, none⟩) nm cm) rfl (by kernel_rfl) (by kernel_rfl) (by kernel_rfl) (fun _ _ _ h => h) (Or.inl ⟨by kernel_rfl, fun wy hy => by (go_simp; first | done | omega)⟩) (by assumption) ?_
         try simp only [Act.put, List.setIfInBounds_toArray, List.set_cons_zero, List.set_cons_succ]
         refine wpAnyH_take (i := 6) (oi := { dst := some 29, op := _, type := _, pos := _, after := _, guard := _ }) (v := .int .i64 (at_ : Int)) rfl (by kernel_rfl) (by kernel_rfl) (by kernel_rfl) (fun _ _ _ h => h) (Or.inl ⟨by kernel_rfl, fun wy hy => by (go_simp; first | done | omega)⟩) (by assumption) ?_
         try simp only [Act.put, List.setIfInBounds_toArray, List.set_cons_zero, List.set_cons_succ]
         refine wpAnyH_take (i := 7) (oi := { dst := some 30, op := _, type := _, pos := _, after := _, guard := _ }) (v := .pointer (some ⟨gm, at_ * 7, none⟩)) rfl (by kernel_rfl) (by kernel_rfl) (by kernel_rfl) (fun _ _ _ h => h) (Or.inl ⟨by kernel_rfl, fun wy hy => by (go_simp; first | done | omega)⟩) (by assumption) ?_
         try simp only [Act.put, List.setIfInBounds_toArray, List.set_cons_zero, List.set_cons_succ]
         refine wpAnyH_take (i := 8) (oi := { dst := some 31, op := _, type := _, pos := _, after := _, guard := _ }) (v := .agg #[.slice pp1 y1 qq1, .int .i64 pe.fam, .slice pp2 y2 qq2, .int .i64 pe.ts, .int .i64 pe.seq, .int .i64 pe.kind, .slice pp3 y3 qq3]) rfl (by kernel_rfl) (by kernel_rfl) (by kernel_rfl) (fun _ _ _ h => h) (Or.inl ⟨by kernel_rfl, fun wy hy => by (have f0 := (hy.cell (p := ⟨gm, at_ * 7, none⟩) (World.block_lt_of_cell? _ _ HDp.out.1)).trans HDp.out.1; have f1 := (hy.cell (p := ⟨gm, at_ * 7 + 1, none⟩) (World.block_lt_of_cell? _ _ HDp.out.2.1)).trans HDp.out.2.1; have f2 := (hy.cell (p := ⟨gm, at_ * 7 + 2, none⟩) (World.block_lt_of_cell? _ _ HDp.out.2.2.1)).trans HDp.out.2.2.1; have f3 := (hy.cell (p := ⟨gm, at_ * 7 + 3, none⟩) (World.block_lt_of_cell? _ _ HDp.out.2.2.2.1)).trans HDp.out.2.2.2.1; have f4 := (hy.cell (p := ⟨gm, at_ * 7 + 4, none⟩) (World.block_lt_of_cell? _ _ HDp.out.2.2.2.2.1)).trans HDp.out.2.2.2.2.1; have f5 := (hy.cell (p := ⟨gm, at_ * 7 + 5, none⟩) (World.block_lt_of_cell? _ _ HDp.out.2.2.2.2.2.1)).trans HDp.out.2.2.2.2.2.1; have f6 := (hy.cell (p := ⟨gm, at_ * 7 + 6, none⟩) (World.block_lt_of_cell? _ _ HDp.out.2.2.2.2.2.2)).trans HDp.out.2.2.2.2.2.2; go_simp; done)⟩) (by assumption) ?_
         try simp only [Act.put, List.setIfInBounds_toArray, List.set_cons_zero, List.set_cons_succ]
         refine wpAnyH_take (i := 9) (oi := { dst := some 32, op := _, type := _, pos := _, after := _, guard := _ }) (v := .slice (some ⟨b, off, none⟩) N cap) rfl (by kernel_rfl) (by kernel_rfl) (by kernel_rfl) (fun _ _ _ h => h) (Or.inl ⟨by kernel_rfl, fun wy hy => by (go_simp; first | done | omega)⟩) (by assumption) ?_
         try simp only [Act.put, List.setIfInBounds_toArray, List.set_cons_zero, List.set_cons_succ]
         refine wpAnyH_take (i := 10) (oi := { dst := some 33, op := _, type := _, pos := _, after := _, guard := _ }) (v := .int .i64 (k : Int)) rfl (by kernel_rfl) (by kernel_rfl) (by kernel_rfl) (fun _ _ _ h => h) (Or.inl ⟨by kernel_rfl, fun wy hy => by (go_simp; first | done | omega)⟩) (by assumption) ?_
         try simp only [Act.put, List.setIfInBounds_toArray, List.set_cons_zero, List.set_cons_succ]
         refine wpAnyH_take (i := 11) (oi := { dst := some 34, op := _, type := _, pos := _, after := _, guard := _ }) (v := .pointer (some ⟨b, off + k * 7, none⟩)) rfl (by kernel_rfl) (by kernel_rfl) (by kernel_rfl) (fun _ _ _ h => h) (Or.inl ⟨by kernel_rfl, fun wy hy => by (go_simp; first | done | omega)⟩) (by assumption) ?_
         try simp only [Act.put, List.setIfInBounds_toArray, List.set_cons_zero, List.set_cons_succ]
         refine wpAnyH_take (i := 12) (oi := { dst := some 35, op := _, type := _, pos := _, after := _, guard := _ }) (v := .agg #[.slice p1 z1 q1, .int .i64 e.fam, .slice p2 z2 q2, .int .i64 e.ts, .int .i64 e.seq, .int .i64 e.kind, .slice p3 z3 q3]) rfl (by kernel_rfl) (by kernel_rfl) (by kernel_rfl) (fun _ _ _ h => h) (Or.inl ⟨by kernel_rfl, fun wy hy => by (have f0 := (hy.cell (p := ⟨b, off + k * 7, none⟩) (World.block_lt_of_cell? _ _ HD1.out.1)).trans HD1.out.1; have f1 := (hy.cell (p := ⟨b, off + k * 7 + 1, none⟩) (World.block_lt_of_cell? _ _ HD1.out.2.1)).trans HD1.out.2.1; have f2 := (hy.cell (p := ⟨b, off + k * 7 + 2, none⟩) (World.block_lt_of_cell? _ _ HD1.out.2.2.1)).trans HD1.out.2.2.1; have f3 := (hy.cell (p := ⟨b, off + k * 7 + 3, none⟩) (World.block_lt_of_cell? _ _ HD1.out.2.2.2.1)).trans HD1.out.2.2.2.1; have f4 := (hy.cell (p := ⟨b, off + k * 7 + 4, none⟩) (World.block_lt_of_cell? _ _ HD1.out.2.2.2.2.1)).trans HD1.out.2.2.2.2.1; have f5 := (hy.cell (p := ⟨b, off + k * 7 + 5, none⟩) (World.block_lt_of_cell? _ _ HD1.out.2.2.2.2.2.1)).trans HD1.out.2.2.2.2.2.1; have f6 := (hy.cell (p := ⟨b, off + k * 7 + 6, none⟩) (World.block_lt_of_cell? _ _ HD1.out.2.2.2.2.2.2)).trans HD1.out.2.2.2.2.2.2; go_simp; done)⟩) (by assumption) ?_
         try simp only [Act.put, List.setIfInBounds_toArray, List.set_cons_zero, List.set_cons_succ]
         refine wpAnyH_ready (rs := [13]) (by kernel_rfl) (by simp) ?_
         refine AllReadyH.cons (o := { dst := some 36, op := _, type := _, pos := _, after := _, guard := _ }) rfl (fun KK hK => ?_) AllReadyH.nil
         go_simp
         go_at_call 48
         refine (HCp.out _ BD).mono ?_
         rintro e9 X2 ⟨rfl, hb2⟩
         have bX2 : Below wr.heap.size wr X2 := BD.trans (hb2.mono BD.size)
         clear hb2 BD HCp
         go_wp2_with fail
         refine hK.out _ _ bX2 (fun hHeld => ?_)
         clear hK
         try simp only [Act.put, List.setIfInBounds_toArray, List.set_cons_zero, List.set_cons_succ]
         refine wpAnyH_take (i := 14) (oi := { dst := some 37, op := _, type := _, pos := _, after := _, guard := _ }) (v := .bool false) rfl (by kernel_rfl) (by kernel_rfl) (by kernel_rfl) (fun _ _ _ h => h) (Or.inl ⟨by kernel_rfl, fun wy hy => by (go_simp; first | done | omega)⟩) (by assumption) ?_
         try simp only [Act.put, List.setIfInBounds_toArray, List.set_cons_zero, List.set_cons_succ]
         refine wpAnyH_take (i := 15) (oi := { dst := some 38, op := _, type := _, pos := _, after := _, guard := _ }) (v := .bool false) rfl (by kernel_rfl) (by kernel_rfl) (by kernel_rfl) (fun _ _ _ h => h) (Or.inl ⟨by kernel_rfl, fun wy hy => by (go_simp; first | done | omega)⟩) (by assumption) ?_
         try simp only [Act.put, List.setIfInBounds_toArray, List.set_cons_zero, List.set_cons_succ]
         refine wpAnyH_done (by kernel_rfl) (NoPanic.normal ?_) _
         clear hHeld
         have HSoQ := Lib.hid (HSoP.out.later bX2)
         have HCv1 := Lib.hid HCv.out
         clear bX2 HDp HD1 HSoP HCv hcapm
         go_simp
         go_step
         go_upto_region 9 with fail
         have HSoP := Lib.hid HSoQ.out
         clear HSoQ
         obtain ⟨pf, hpf⟩ : ∃ pf, zs[at_]? = some pf := ⟨_, List.getElem?_eq_getElem (by rw [← HM.out.1]; exact hatn)⟩
         have hpok := HSoP.out.rd.ok pf (List.mem_of_getElem? hpf)
         obtain ⟨bm, om, heq, t0, t1, t2, t3, t4, t5, t6⟩ := HSoP.out.rd.cel hpf
         cases heq
         rw [Nat.zero_add] at t0 t1 t2 t3 t4 t5 t6
         have hcapm := HSoP.out.rd.cap
         have hrd1 := HR.out.later HSoP.out.bel
         obtain ⟨b', off', heq, x0, x1, x2, x3, x4, x5, x6⟩ := hrd1.cel HE.out.1
         cases heq
         obtain ⟨_, pp1, qq1, u1, -⟩ := hpok.1
         obtain ⟨_, pp2, qq2, u2, -⟩ := hpok.2.1
         obtain ⟨_, pp3, qq3, u3, -⟩ := hpok.2.2
         have hpc : pf.cells = #[.slice pp1 pf.row.length qq1, .int .i64 pf.fam, .slice pp2 pf.qual.length qq2, .int .i64 pf.ts, .int .i64 pf.seq, .int .i64 pf.kind, .slice pp3 pf.val.length qq3] := by unfold EntD.cells; rw [u1, u2, u3]
         obtain ⟨y1, hy1⟩ : ∃ z, z = pf.row.length := ⟨_, rfl⟩
         obtain ⟨y2, hy2⟩ : ∃ z, z = pf.qual.length := ⟨_, rfl⟩
         obtain ⟨y3, hy3⟩ : ∃ z, z = pf.val.length := ⟨_, rfl⟩
         rw [u1, ← hy1] at t0
         rw [u2, ← hy2] at t2
         rw [u3, ← hy3] at t6
         rw [← hy1, ← hy2, ← hy3] at hpc
         rw [HVr.out.1] at x0
         rw [HVr.out.2.1] at x2
         rw [HVr.out.2.2] at x6
         have HDp : Hid (_ ∧ _ ∧ _ ∧ _ ∧ _ ∧ _ ∧ _) := ⟨t0, t1, t2, t3, t4, t5, t6⟩
         have HD1 : Hid (_ ∧ _ ∧ _ ∧ _ ∧ _ ∧ _ ∧ _) := ⟨x0, x1, x2, x3, x4, x5, x6⟩
         have HCp : Hid (∀ wx, Below X2.heap.size X2 wx → Calls Tryz.prog 48 #[.agg #[.slice pp1 y1 qq1, .int .i64 pf.fam, .slice pp2 y2 qq2, .int .i64 pf.ts, .int .i64 pf.seq, .int .i64 pf.kind, .slice pp3 y3 qq3], .agg #[.slice p1 z1 q1, .int .i64 e.fam, .slice p2 z2 q2, .int .i64 e.ts, .int .i64 e.seq, .int .i64 e.kind, .slice p3 z3 q3]] wx fun r w' => r = .returned (.int .i64 (compareS pf e)) ∧ Below wx.heap.size wx w') := fun wx hx => by
          have h := refCompare_any (hpok.later hx) ((hrd1.ok e (List.mem_of_getElem? HE.out.1)).later hx)
          rw [hpc, HCe.out.1] at h
          exact h
         obtain ⟨dv, hdv⟩ : ∃ dv, compareS pf e = dv := ⟨_, rfl⟩
         rw [hdv] at HCp
         have HDv := Lib.hid (And.intro hdv hpf)
         clear hpf hrd1 hpok t0 t1 t2 t3 t4 t5 t6 x0 x1 x2 x3 x4 x5 x6 u1 u2 u3 hpc hy1 hy2 hy3 hdv
         have BD : Below X2.heap.size X2 X2.drew := (Below.refl _ _).drew
         have hdc : dv = cv := by
          have h1 := HDv.out.2
          rw [HCv1.out.2] at h1
          cases h1
          rw [← HDv.out.1, HCv1.out.1]
         subst hdc
         by_cases hz : dv = 0
         ·have hz2 : (dv == 0) = true := by rw [beq_iff_eq]; exact hz
          refine wp_region_noPanic ?_
          refine wp_region_held_drew (S := fun wx => Below X2.heap.size X2 wx) (by kernel_rfl) BD (fun hHeld => ?_)
          refine wpAnyH_take (i := 0) (oi := { dst := some 41, op := _, type := _, pos := _, after := _, guard := _ }) (v := .int .i64 (at_ : Int)) rfl (by kernel_rfl) (by kernel_rfl) (by kernel_rfl) (fun _ _ _ h => h) (Or.inl ⟨by kernel_rfl, fun wy hy => by (go_simp; first | done | omega)⟩) (by assumption) ?_
          try simp only [Act.put, List.setIfInBounds_toArray, List.set_cons_zero, List.set_cons_succ]
          refine wpAnyH_take (i := 1) (oi := { dst := some 42, op := _, type := _, pos := _, after := _, guard := _ }) (v := .slice (some ⟨gm, 0, none⟩) nm cm) rfl (by kernel_rfl) (by kernel_rfl) (by kernel_rfl) (fun _ _ _ h => h) (Or.inl ⟨by kernel_rfl, fun wy hy => by (go_simp; first | done | omega)⟩) (by assumption) ?_
          try simp only [Act.put, List.setIfInBounds_toArray, List.set_cons_zero, List.set_cons_succ]
          refine wpAnyH_take (i := 2) (oi := { dst := some 43, op := _, type := _, pos := _, after := _, guard := _ }) (v := .int .i64 (nm : Int)) rfl (by kernel_rfl) (by kernel_rfl) (by kernel_rfl) (fun _ _ _ h => h) (Or.inl ⟨by kernel_rfl, fun wy hy => by (go_simp; first | done | omega)⟩) (by assumption) ?_
          try simp only [Act.put, List.setIfInBounds_toArray, List.set_cons_zero, List.set_cons_succ]
          refine wpAnyH_take (i := 3) (oi := { dst := some 44, op := _, type := _, pos := _, after := _, guard := _ }) (v := .bool true) rfl (by kernel_rfl) (by kernel_rfl) (by kernel_rfl) (fun _ _ _ h => h) (Or.inl ⟨by kernel_rfl, fun wy hy => by (go_simp; first | done | omega)⟩) (by assumption) ?_
          try simp only [Act.put, List.setIfInBounds_toArray, List.set_cons_zero, List.set_cons_succ]
          refine wpAnyH_take (i := 4) (oi := { dst := some 45, op := _, type := _, pos := _, after := _, guard := _ }) (v := .bool true) rfl (by kernel_rfl) (by kernel_rfl) (by kernel_rfl) (fun _ _ _ h => h) (Or.inl ⟨by kernel_rfl, fun wy hy => by (go_simp; first | done | omega)⟩) (by assumption) ?_
          try simp only [Act.put, List.setIfInBounds_toArray, List.set_cons_zero, List.set_cons_succ]
          refine wpAnyH_take (i := 5) (oi := { dst := some 46, op := _, type := _, pos := _, after := _, guard := _ }) (v := .slice (some ⟨gm, 0, none⟩) nm cm) rfl (by kernel_rfl) (by kernel_rfl) (by kernel_rfl) (fun _ _ _ h => h) (Or.inl ⟨by kernel_rfl, fun wy hy => by (go_simp; first | done | omega)⟩) (by assumption) ?_
          try simp only [Act.put, List.setIfInBounds_toArray, List.set_cons_zero, List.set_cons_succ]
          refine wpAnyH_take (i := 6) (oi := { dst := some 47, op := _, type := _, pos := _, after := _, guard := _ }) (v := .int .i64 (at_ : Int)) rfl (by kernel_rfl) (by kernel_rfl) (by kernel_rfl) (fun _ _ _ h => h) (Or.inl ⟨by kernel_rfl, fun wy hy => by (go_simp; first | done | omega)⟩) (by assumption) ?_
          try simp only [Act.put, List.setIfInBounds_toArray, List.set_cons_zero, List.set_cons_succ]
          refine wpAnyH_take (i := 7) (oi := { dst := some 48, op := _, type := _, pos := _, after := _, guard := _ }) (v := .pointer (some ⟨gm, at_ * 7, none⟩)) rfl (by kernel_rfl) (by kernel_rfl) (by kernel_rfl) (fun _ _ _ h => h) (Or.inl ⟨by kernel_rfl, fun wy hy => by (go_simp; first | done | omega)⟩) (by assumption) ?_
          try simp only [Act.put, List.setIfInBounds_toArray, List.set_cons_zero, List.set_cons_succ]
          refine wpAnyH_take (i := 8) (oi := { dst := some 49, op := _, type := _, pos := _, after := _, guard := _ }) (v := .agg #[.slice pp1 y1 qq1, .int .i64 pf.fam, .slice pp2 y2 qq2, .int .i64 pf.ts, .int .i64 pf.seq, .int .i64 pf.kind, .slice pp3 y3 qq3]) rfl (by kernel_rfl) (by kernel_rfl) (by kernel_rfl) (fun _ _ _ h => h) (Or.inl ⟨by kernel_rfl, fun wy hy => by (have f0 := (hy.cell (p := ⟨gm, at_ * 7, none⟩) (World.block_lt_of_cell? _ _ HDp.out.1)).trans HDp.out.1; have f1 := (hy.cell (p := ⟨gm, at_ * 7 + 1, none⟩) (World.block_lt_of_cell? _ _ HDp.out.2.1)).trans HDp.out.2.1; have f2 := (hy.cell (p := ⟨gm, at_ * 7 + 2, none⟩) (World.block_lt_of_cell? _ _ HDp.out.2.2.1)).trans HDp.out.2.2.1; have f3 := (hy.cell (p := ⟨gm, at_ * 7 + 3, none⟩) (World.block_lt_of_cell? _ _ HDp.out.2.2.2.1)).trans HDp.out.2.2.2.1; have f4 := (hy.cell (p := ⟨gm, at_ * 7 + 4, none⟩) (World.block_lt_of_cell? _ _ HDp.out.2.2.2.2.1)).trans HDp.out.2.2.2.2.1; have f5 := (hy.cell (p := ⟨gm, at_ * 7 + 5, none⟩) (World.block_lt_of_cell? _ _ HDp.out.2.2.2.2.2.1)).trans HDp.out.2.2.2.2.2.1; have f6 := (hy.cell (p := ⟨gm, at_ * 7 + 6, none⟩) (World.block_lt_of_cell? _ _ HDp.out.2.2.2.2.2.2)).trans HDp.out.2.2.2.2.2.2; go_simp; done)⟩) (by assumption) ?_
          try simp only [Act.put, List.setIfInBounds_toArray, List.set_cons_zero, List.set_cons_succ]
          refine wpAnyH_take (i := 9) (oi := { dst := some 50, op := _, type := _, pos := _, after := _, guard := _ }) (v := .slice (some ⟨b, off, none⟩) N cap) rfl (by kernel_rfl) (by kernel_rfl) (by kernel_rfl) (fun _ _ _ h => h) (Or.inl ⟨by kernel_rfl, fun wy hy => by (go_simp; first | done | omega)⟩) (by assumption) ?_
          try simp only [Act.put, List.setIfInBounds_toArray, List.set_cons_zero, List.set_cons_succ]
          refine wpAnyH_take (i := 10) (oi := { dst := some 51, op := _, type := _, pos := _, after := _, guard := _ }) (v := .int .i64 (k : Int)) rfl (by kernel_rfl) (by kernel_rfl) (by kernel_rfl) (fun _ _ _ h => h) (Or.inl ⟨by kernel_rfl, fun wy hy => by (go_simp; first | done | omega)⟩) (by assumption) ?_
          try simp only [Act.put, List.setIfInBounds_toArray, List.set_cons_zero, List.set_cons_succ]
          refine wpAnyH_take (i := 11) (oi := { dst := some 52, op := _, type := _, pos := _, after := _, guard := _ }) (v := .pointer (some ⟨b, off + k * 7, none⟩)) rfl (by kernel_rfl) (by kernel_rfl) (by kernel_rfl) (fun _ _ _ h => h) (Or.inl ⟨by kernel_rfl, fun wy hy => by (go_simp; first | done | omega)⟩) (by assumption) ?_
          try simp only [Act.put, List.setIfInBounds_toArray, List.set_cons_zero, List.set_cons_succ]
          refine wpAnyH_take (i := 12) (oi := { dst := some 53, op := _, type := _, pos := _, after := _, guard := _ }) (v := .agg #[.slice p1 z1 q1, .int .i64 e.fam, .slice p2 z2 q2, .int .i64 e.ts, .int .i64 e.seq, .int .i64 e.kind, .slice p3 z3 q3]) rfl (by kernel_rfl) (by kernel_rfl) (by kernel_rfl) (fun _ _ _ h => h) (Or.inl ⟨by kernel_rfl, fun wy hy => by (have f0 := (hy.cell (p := ⟨b, off + k * 7, none⟩) (World.block_lt_of_cell? _ _ HD1.out.1)).trans HD1.out.1; have f1 := (hy.cell (p := ⟨b, off + k * 7 + 1, none⟩) (World.block_lt_of_cell? _ _ HD1.out.2.1)).trans HD1.out.2.1; have f2 := (hy.cell (p := ⟨b, off + k * 7 + 2, none⟩) (World.block_lt_of_cell? _ _ HD1.out.2.2.1)).trans HD1.out.2.2.1; have f3 := (hy.cell (p := ⟨b, off + k * 7 + 3, none⟩) (World.block_lt_of_cell? _ _ HD1.out.2.2.2.1)).trans HD1.out.2.2.2.1; have f4 := (hy.cell (p := ⟨b, off + k * 7 + 4, none⟩) (World.block_lt_of_cell? _ _ HD1.out.2.2.2.2.1)).trans HD1.out.2.2.2.2.1; have f5 := (hy.cell (p := ⟨b, off + k * 7 + 5, none⟩) (World.block_lt_of_cell? _ _ HD1.out.2.2.2.2.2.1)).trans HD1.out.2.2.2.2.2.1; have f6 := (hy.cell (p := ⟨b, off + k * 7 + 6, none⟩) (World.block_lt_of_cell? _ _ HD1.out.2.2.2.2.2.2)).trans HD1.out.2.2.2.2.2.2; go_simp; done)⟩) (by assumption) ?_
          try simp only [Act.put, List.setIfInBounds_toArray, List.set_cons_zero, List.set_cons_succ]
          refine wpAnyH_ready (rs := [13]) (by kernel_rfl) (by simp) ?_
          refine AllReadyH.cons (o := { dst := some 54, op := _, type := _, pos := _, after := _, guard := _ }) rfl (fun KK hK => ?_) AllReadyH.nil
          go_simp
          go_at_call 48
          refine (HCp.out _ BD).mono ?_
          rintro e9 X3 ⟨rfl, hb2⟩
          have bX2 : Below X2.heap.size X2 X3 := BD.trans (hb2.mono BD.size)
          clear hb2 BD HCp
          go_wp2_with fail
          refine hK.out _ _ bX2 (fun hHeld => ?_)
          clear hK
          try simp only [Act.put, List.setIfInBounds_toArray, List.set_cons_zero, List.set_cons_succ]
          refine wpAnyH_take (i := 14) (oi := { dst := some 55, op := _, type := _, pos := _, after := _, guard := _ }) (v := .bool true) rfl (by kernel_rfl) (by kernel_rfl) (by kernel_rfl) (fun _ _ _ h => h) (Or.inl ⟨by kernel_rfl, fun wy hy => by (go_simp; first | done | omega)⟩) (by assumption) ?_
          try simp only [Act.put, List.setIfInBounds_toArray, List.set_cons_zero, List.set_cons_succ]
          refine wpAnyH_take (i := 15) (oi := { dst := some 56, op := _, type := _, pos := _, after := _, guard := _ }) (v := .bool true) rfl (by kernel_rfl) (by kernel_rfl) (by kernel_rfl) (fun _ _ _ h => h) (Or.inl ⟨by kernel_rfl, fun wy hy => by (go_simp; first | done | omega)⟩) (by assumption) ?_
          try simp only [Act.put, List.setIfInBounds_toArray, List.set_cons_zero, List.set_cons_succ]
          refine wpAnyH_done (by kernel_rfl) (NoPanic.normal ?_) _
          clear hHeld
          have HZ : Hid (∃ zs, nm = zs.length ∧ So W X3 (some ⟨gm, 0, none⟩) cm zs (k + 1)) := ⟨zs, HM.out.1, (HSoP.out.later bX2).mono (by omega)⟩
          clear bX2
          go_simp
          go_step
          go_wp2
          refine ⟨⟨k + 1, nm, some ⟨gm, 0, none⟩, cm, by omega, by omega, by go_num, rfl, HZ⟩, by simp only [intOf]; omega⟩
         ·have hz2 : (dv == 0) = false := by rw [beq_eq_false_iff_ne]; exact hz
          have hHi : Hid (∀ y, zs[at_]? = some y → 0 < compareS y e) := fun y hy => by
           rw [HDv.out.2] at hy
           cases hy
           rw [HDv.out.1]
           omega
          refine wp_region_noPanic ?_
          refine wp_region_held_drew (S := fun wx => Below X2.heap.size X2 wx) (by kernel_rfl) BD (fun hHeld => ?_)
          refine wpAnyH_take (i := 0) (oi := { dst := some 41, op := _, type := _, pos := _, after := _, guard := _ }) (v := .int .i64 (at_ : Int)) rfl (by kernel_rfl) (by kernel_rfl) (by kernel_rfl) (fun _ _ _ h => h) (Or.inl ⟨by kernel_rfl, fun wy hy => by (go_simp; first | done | omega)⟩) (by assumption) ?_
          try simp only [Act.put, List.setIfInBounds_toArray, List.set_cons_zero, List.set_cons_succ]
          refine wpAnyH_take (i := 1) (oi := { dst := some 42, op := _, type := _, pos := _, after := _, guard := _ }) (v := .slice (some ⟨gm, 0, none⟩) nm cm) rfl (by kernel_rfl) (by kernel_rfl) (by kernel_rfl) (fun _ _ _ h => h) (Or.inl ⟨by kernel_rfl, fun wy hy => by (go_simp; first | done | omega)⟩) (by assumption) ?_
          try simp only [Act.put, List.setIfInBounds_toArray, List.set_cons_zero, List.set_cons_succ]
          refine wpAnyH_take (i := 2) (oi := { dst := some 43, op := _, type := _, pos := _, after := _, guard := _ }) (v := .int .i64 (nm : Int)) rfl (by kernel_rfl) (by kernel_rfl) (by kernel_rfl) (fun _ _ _ h => h) (Or.inl ⟨by kernel_rfl, fun wy hy => by (go_simp; first | done | omega)⟩) (by assumption) ?_
          try simp only [Act.put, List.setIfInBounds_toArray, List.set_cons_zero, List.set_cons_succ]
          refine wpAnyH_take (i := 3) (oi := { dst := some 44, op := _, type := _, pos := _, after := _, guard := _ }) (v := .bool true) rfl (by kernel_rfl) (by kernel_rfl) (by kernel_rfl) (fun _ _ _ h => h) (Or.inl ⟨by kernel_rfl, fun wy hy => by (go_simp; first | done | omega)⟩) (by assumption) ?_
          try simp only [Act.put, List.setIfInBounds_toArray, List.set_cons_zero, List.set_cons_succ]
          refine wpAnyH_take (i := 4) (oi := { dst := some 45, op := _, type := _, pos := _, after := _, guard := _ }) (v := .bool true) rfl (by kernel_rfl) (by kernel_rfl) (by kernel_rfl) (fun _ _ _ h => h) (Or.inl ⟨by kernel_rfl, fun wy hy => by (go_simp; first | done | omega)⟩) (by assumption) ?_
          try simp only [Act.put, List.setIfInBounds_toArray, List.set_cons_zero, List.set_cons_succ]
          refine wpAnyH_take (i := 5) (oi := { dst := some 46, op := _, type := _, pos := _, after := _, guard := _ }) (v := .slice (some ⟨gm, 0, none⟩) nm cm) rfl (by kernel_rfl) (by kernel_rfl) (by kernel_rfl) (fun _ _ _ h => h) (Or.inl ⟨by kernel_rfl, fun wy hy => by (go_simp; first | done | omega)⟩) (by assumption) ?_
          try simp only [Act.put, List.setIfInBounds_toArray, List.set_cons_zero, List.set_cons_succ]
          refine wpAnyH_take (i := 6) (oi := { dst := some 47, op := _, type := _, pos := _, after := _, guard := _ }) (v := .int .i64 (at_ : Int)) rfl (by kernel_rfl) (by kernel_rfl) (by kernel_rfl) (fun _ _ _ h => h) (Or.inl ⟨by kernel_rfl, fun wy hy => by (go_simp; first | done | omega)⟩) (by assumption) ?_
          try simp only [Act.put, List.setIfInBounds_toArray, List.set_cons_zero, List.set_cons_succ]
          refine wpAnyH_take (i := 7) (oi := { dst := some 48, op := _, type := _, pos := _, after := _, guard := _ }) (v := .pointer (some ⟨gm, at_ * 7, none⟩)) rfl (by kernel_rfl) (by kernel_rfl) (by kernel_rfl) (fun _ _ _ h => h) (Or.inl ⟨by kernel_rfl, fun wy hy => by (go_simp; first | done | omega)⟩) (by assumption) ?_
          try simp only [Act.put, List.setIfInBounds_toArray, List.set_cons_zero, List.set_cons_succ]
          refine wpAnyH_take (i := 8) (oi := { dst := some 49, op := _, type := _, pos := _, after := _, guard := _ }) (v := .agg #[.slice pp1 y1 qq1, .int .i64 pf.fam, .slice pp2 y2 qq2, .int .i64 pf.ts, .int .i64 pf.seq, .int .i64 pf.kind, .slice pp3 y3 qq3]) rfl (by kernel_rfl) (by kernel_rfl) (by kernel_rfl) (fun _ _ _ h => h) (Or.inl ⟨by kernel_rfl, fun wy hy => by (have f0 := (hy.cell (p := ⟨gm, at_ * 7, none⟩) (World.block_lt_of_cell? _ _ HDp.out.1)).trans HDp.out.1; have f1 := (hy.cell (p := ⟨gm, at_ * 7 + 1, none⟩) (World.block_lt_of_cell? _ _ HDp.out.2.1)).trans HDp.out.2.1; have f2 := (hy.cell (p := ⟨gm, at_ * 7 + 2, none⟩) (World.block_lt_of_cell? _ _ HDp.out.2.2.1)).trans HDp.out.2.2.1; have f3 := (hy.cell (p := ⟨gm, at_ * 7 + 3, none⟩) (World.block_lt_of_cell? _ _ HDp.out.2.2.2.1)).trans HDp.out.2.2.2.1; have f4 := (hy.cell (p := ⟨gm, at_ * 7 + 4, none⟩) (World.block_lt_of_cell? _ _ HDp.out.2.2.2.2.1)).trans HDp.out.2.2.2.2.1; have f5 := (hy.cell (p := ⟨gm, at_ * 7 + 5, none⟩) (World.block_lt_of_cell? _ _ HDp.out.2.2.2.2.2.1)).trans HDp.out.2.2.2.2.2.1; have f6 := (hy.cell (p := ⟨gm, at_ * 7 + 6, none⟩) (World.block_lt_of_cell? _ _ HDp.out.2.2.2.2.2.2)).trans HDp.out.2.2.2.2.2.2; go_simp; done)⟩) (by assumption) ?_
          try simp only [Act.put, List.setIfInBounds_toArray, List.set_cons_zero, List.set_cons_succ]
          refine wpAnyH_take (i := 9) (oi := { dst := some 50, op := _, type := _, pos := _, after := _, guard := _ }) (v := .slice (some ⟨b, off, none⟩) N cap) rfl (by kernel_rfl) (by kernel_rfl) (by kernel_rfl) (fun _ _ _ h => h) (Or.inl ⟨by kernel_rfl, fun wy hy => by (go_simp; first | done | omega)⟩) (by assumption) ?_
          try simp only [Act.put, List.setIfInBounds_toArray, List.set_cons_zero, List.set_cons_succ]
          refine wpAnyH_take (i := 10) (oi := { dst := some 51, op := _, type := _, pos := _, after := _, guard := _ }) (v := .int .i64 (k : Int)) rfl (by kernel_rfl) (by kernel_rfl) (by kernel_rfl) (fun _ _ _ h => h) (Or.inl ⟨by kernel_rfl, fun wy hy => by (go_simp; first | done | omega)⟩) (by assumption) ?_
          try simp only [Act.put, List.setIfInBounds_toArray, List.set_cons_zero, List.set_cons_succ]
          refine wpAnyH_take (i := 11) (oi := { dst := some 52, op := _, type := _, pos := _, after := _, guard := _ }) (v := .pointer (some ⟨b, off + k * 7, none⟩)) rfl (by kernel_rfl) (by kernel_rfl) (by kernel_rfl) (fun _ _ _ h => h) (Or.inl ⟨by kernel_rfl, fun wy hy => by (go_simp; first | done | omega)⟩) (by assumption) ?_
          try simp only [Act.put, List.setIfInBounds_toArray, List.set_cons_zero, List.set_cons_succ]
          refine wpAnyH_take (i := 12) (oi := { dst := some 53, op := _, type := _, pos := _, after := _, guard := _ }) (v := .agg #[.slice p1 z1 q1, .int .i64 e.fam, .slice p2 z2 q2, .int .i64 e.ts, .int .i64 e.seq, .int .i64 e.kind, .slice p3 z3 q3]) rfl (by kernel_rfl) (by kernel_rfl) (by kernel_rfl) (fun _ _ _ h => h) (Or.inl ⟨by kernel_rfl, fun wy hy => by (have f0 := (hy.cell (p := ⟨b, off + k * 7, none⟩) (World.block_lt_of_cell? _ _ HD1.out.1)).trans HD1.out.1; have f1 := (hy.cell (p := ⟨b, off + k * 7 + 1, none⟩) (World.block_lt_of_cell? _ _ HD1.out.2.1)).trans HD1.out.2.1; have f2 := (hy.cell (p := ⟨b, off + k * 7 + 2, none⟩) (World.block_lt_of_cell? _ _ HD1.out.2.2.1)).trans HD1.out.2.2.1; have f3 := (hy.cell (p := ⟨b, off + k * 7 + 3, none⟩) (World.block_lt_of_cell? _ _ HD1.out.2.2.2.1)).trans HD1.out.2.2.2.1; have f4 := (hy.cell (p := ⟨b, off + k * 7 + 4, none⟩) (World.block_lt_of_cell? _ _ HD1.out.2.2.2.2.1)).trans HD1.out.2.2.2.2.1; have f5 := (hy.cell (p := ⟨b, off + k * 7 + 5, none⟩) (World.block_lt_of_cell? _ _ HD1.out.2.2.2.2.2.1)).trans HD1.out.2.2.2.2.2.1; have f6 := (hy.cell (p := ⟨b, off + k * 7 + 6, none⟩) (World.block_lt_of_cell? _ _ HD1.out.2.2.2.2.2.2)).trans HD1.out.2.2.2.2.2.2; go_simp; done)⟩) (by assumption) ?_
          try simp only [Act.put, List.setIfInBounds_toArray, List.set_cons_zero, List.set_cons_succ]
          refine wpAnyH_ready (rs := [13]) (by kernel_rfl) (by simp) ?_
          refine AllReadyH.cons (o := { dst := some 54, op := _, type := _, pos := _, after := _, guard := _ }) rfl (fun KK hK => ?_) AllReadyH.nil
          go_simp
          go_at_call 48
          refine (HCp.out _ BD).mono ?_
          rintro e9 X3 ⟨rfl, hb2⟩
          have bX2 : Below X2.heap.size X2 X3 := BD.trans (hb2.mono BD.size)
          clear hb2 BD HCp
          go_wp2_with fail
          refine hK.out _ _ bX2 (fun hHeld => ?_)
          clear hK
          try simp only [Act.put, List.setIfInBounds_toArray, List.set_cons_zero, List.set_cons_succ]
          refine wpAnyH_take (i := 14) (oi := { dst := some 55, op := _, type := _, pos := _, after := _, guard := _ }) (v := .bool false) rfl (by kernel_rfl) (by kernel_rfl) (by kernel_rfl) (fun _ _ _ h => h) (Or.inl ⟨by kernel_rfl, fun wy hy => by (go_simp; first | done | omega)⟩) (by assumption) ?_
          try simp only [Act.put, List.setIfInBounds_toArray, List.set_cons_zero, List.set_cons_succ]
          refine wpAnyH_take (i := 15) (oi := { dst := some 56, op := _, type := _, pos := _, after := _, guard := _ }) (v := .bool false) rfl (by kernel_rfl) (by kernel_rfl) (by kernel_rfl) (fun _ _ _ h => h) (Or.inl ⟨by kernel_rfl, fun wy hy => by (go_simp; first | done | omega)⟩) (by assumption) ?_
          try simp only [Act.put, List.setIfInBounds_toArray, List.set_cons_zero, List.set_cons_succ]
          refine wpAnyH_done (by kernel_rfl) (NoPanic.normal ?_) _
          clear hHeld
          have HSoX := Lib.hid (HSoP.out.later bX2)
          clear bX2 HDp HD1
          go_simp
          go_step
          have hcm : ¬ at_ = cm := by have := HM.out.1; have := HSoX.out.rd.cap.1; omega
          have hcm2 : ¬ cm = at_ := fun h => hcm h.symm
          have hatc : at_ ≤ cm := by have := HM.out.1; have := HSoX.out.rd.cap.1; omega
          have HOe := Lib.hid ((HR.out.later HSoX.out.bel).ok e (List.mem_of_getElem? HE.out.1))
          have hTk : RdL5 X3 (some ⟨gm, 0, none⟩) cm (zs.take at_) := HSoX.out.rd.takeN at_
          have hTl : Hid (at_ = (zs.take at_).length) := by unfold Hid; rw [List.length_take]; have := HM.out.1; omega
          have hDp : RdL5 X3 (some ⟨gm, at_ * 7, none⟩) (cm - at_) (zs.drop at_) := by
           have h := HSoX.out.rd.dropN at_ (by have := HM.out.1; omega)
           simp only [Option.map_some, hcm, if_false] at h
           rw [Nat.zero_add] at h
           exact h
          have hDl : Hid (nm - at_ = (zs.drop at_).length) := by unfold Hid; rw [List.length_drop]; have := HM.out.1; omega
          have hone : ∀ y ∈ zs, ∀ u ∈ y.cells.toList, u.oneCell' = true := fun y hy => one_cells (HSoX.out.rd.ok y hy)
          have hn0 : X3.ownsRow X3.heap.size 40 7 (.slice none 0 0) ([] : List EntD).length (evals5 []) := World.ownsRow_nil _ _ _ _
          have hlz : zs.length ≤ 80 := by have := HSoX.out.len; omega
          have HA0 := Lib.hid (And.intro hTk (And.intro hDp (And.intro hone hn0)))
          obtain ⟨b', off', heq, x0, x1, x2, x3, x4, x5, x6⟩ := (HR.out.later HSoX.out.bel).cel HE.out.1
          cases heq
          rw [HVr.out.1] at x0
          rw [HVr.out.2.1] at x2
          rw [HVr.out.2.2] at x6
          have HD9 : Hid (_ ∧ _ ∧ _ ∧ _ ∧ _ ∧ _ ∧ _) := ⟨x0, x1, x2, x3, x4, x5, x6⟩
          clear hTk hDp hone hn0 x0 x1 x2 x3 x4 x5 x6
          go_upto_region 11 with fail
          go_wp2_with (first
           | (have Y := O3; fail)
           | (have Y := O2; at_builtin; refine wpl5_append_rd rfl _ _ rfl X3.heap.size _ _ rfl O2.out _ _ _ _ rfl hDl.out (HA0.out.2.1.later HBx2.out) (fun y hy => HA0.out.2.2.1 y (List.mem_of_mem_drop hy)) (by simp only [List.length_append, List.length_take, List.length_drop, List.length_cons, List.length_nil]; omega) HBx2.out.size ?_; intro a3 n3 c3 Y3 hn3 r3 g3; have O3 := Lib.hid r3; have HBx3 := Lib.hid (HBx2.out.grown g3 HBx2.out.size (fun k hk => (O2.out.lt k hk).1)); have Hn3 := Lib.hid hn3; clear hn3 r3 g3)
           | (have Y := O1; at_builtin; refine wpl5_append_rd rfl _ _ rfl X3.heap.size _ _ rfl (O1.out.alloc _) _ _ _ [e] rfl rfl (HOne.out) (fun y hy => by simp at hy; subst hy; exact one_cells HOe.out) (by simp only [List.length_append, List.length_take, List.length_cons, List.length_nil]; omega) (Nat.le_trans HBx1.out.size (by simp)) ?_; intro a2 n2 c2 Y2 hn2 r2 g2; have O2 := Lib.hid r2; have HBx2 := Lib.hid ((HBx1.out.alloc HBx1.out.size _).grown g2 (Nat.le_trans HBx1.out.size (by simp)) (fun k hk => (O1.out.lt k hk).1)); clear hn2 r2 g2)
           | (at_builtin; refine wpl5_append_rd rfl _ _ rfl X3.heap.size _ [] rfl HA0.out.2.2.2 _ _ _ _ rfl hTl.out HA0.out.1 (fun y hy => HA0.out.2.2.1 y (List.mem_of_mem_take hy)) (by simp only [List.length_take, List.length_nil]; omega) (Nat.le_refl _) ?_; intro a1 n1 c1 Y1 hn1 r1 g1; have O1 := Lib.hid r1; have HBx1 := Lib.hid ((Below.refl X3.heap.size X3).grown g1 (Nat.le_refl _) (fun k hk => (HA0.out.2.2.2.lt k hk).1)); have y0 := (HBx1.out.cell (p := ⟨b, off + k * 7, none⟩) (World.block_lt_of_cell? _ _ HD9.out.1)).trans HD9.out.1; have y1 := (HBx1.out.cell (p := ⟨b, off + k * 7 + 1, none⟩) (World.block_lt_of_cell? _ _ HD9.out.2.1)).trans HD9.out.2.1; have y2 := (HBx1.out.cell (p := ⟨b, off + k * 7 + 2, none⟩) (World.block_lt_of_cell? _ _ HD9.out.2.2.1)).trans HD9.out.2.2.1; have y3 := (HBx1.out.cell (p := ⟨b, off + k * 7 + 3, none⟩) (World.block_lt_of_cell? _ _ HD9.out.2.2.2.1)).trans HD9.out.2.2.2.1; have y4 := (HBx1.out.cell (p := ⟨b, off + k * 7 + 4, none⟩) (World.block_lt_of_cell? _ _ HD9.out.2.2.2.2.1)).trans HD9.out.2.2.2.2.1; have y5 := (HBx1.out.cell (p := ⟨b, off + k * 7 + 5, none⟩) (World.block_lt_of_cell? _ _ HD9.out.2.2.2.2.2.1)).trans HD9.out.2.2.2.2.2.1; have y6 := (HBx1.out.cell (p := ⟨b, off + k * 7 + 6, none⟩) (World.block_lt_of_cell? _ _ HD9.out.2.2.2.2.2.2)).trans HD9.out.2.2.2.2.2.2; have HOne : Hid (RdL5 _ _ _ [e]) := RdL5.one (HOe.out.later HBx1.out); rw [HCe.out.1] at HOne; clear hn1 r1 g1))
          have HZ : Hid (∃ zt, n3 = zt.length ∧ So W Y3 a3 c3 zt (k + 1)) := by
           have h := O3.out
           rw [List.nil_append] at h
           have := HSoX.out.put HBx3.out HOe.out HE0.out HLo.out hHi.out n3 rfl h
           exact ⟨_, this.1, this.2⟩
          refine ⟨⟨k + 1, n3, a3, c3, by omega, by omega, by go_num, rfl, HZ⟩, by simp only [intOf]; omega⟩
       ·have hatni : ¬ (at_ : Int) < (nm : Int) := by omega
        have hatd : decide ((at_ : Int) < (nm : Int)) = false := by rw [decide_eq_false_iff_not]; exact hatni
        have hatd2 : decide (at_ < nm) = false := by rw [decide_eq_false_iff_not]; exact hatn
        have hHi : Hid (∀ y, zs[at_]? = some y → 0 < compareS y e) := fun y hy => by
         have := (List.getElem?_eq_some_iff.1 hy).1
         have := HM.out.1
         omega
        go_upto_region 7 with fail
        go_quiet (fail)
        have bX := below_drewN (Below.refl wr.heap.size wr) nq
        generalize wr.drewN nq = X2 at *
        have HSo2 := Lib.hid (HI.out.1.later bX)
        clear bX
        go_upto_region 9 with fail
        go_quiet (fail)
        have bX := below_drewN (Below.refl X2.heap.size X2) nq
        generalize X2.drewN nq = X3 at *
        have HSoX := Lib.hid (HSo2.out.later bX)
        clear bX HSo2
        by_cases hcm : at_ = cm
        ·subst hcm
         have hatc : at_ ≤ at_ := by have := HM.out.1; have := HSoX.out.rd.cap.1; omega
         have HOe := Lib.hid ((HR.out.later HSoX.out.bel).ok e (List.mem_of_getElem? HE.out.1))
         have hTk : RdL5 X3 (some ⟨gm, 0, none⟩) at_ (zs.take at_) := HSoX.out.rd.takeN at_
         have hTl : Hid (at_ = (zs.take at_).length) := by unfold Hid; rw [List.length_take]; have := HM.out.1; omega
         have hDp : RdL5 X3 (some ⟨gm, 0, none⟩) 0 (zs.drop at_) := by
          have h := HSoX.out.rd.dropN at_ (by have := HM.out.1; omega)
          simp only [Option.map_some, if_true, Nat.sub_self] at h
          exact h
         have hDl : Hid (nm - at_ = (zs.drop at_).length) := by unfold Hid; rw [List.length_drop]; have := HM.out.1; omega
         have hone : ∀ y ∈ zs, ∀ u ∈ y.cells.toList, u.oneCell' = true := fun y hy => one_cells (HSoX.out.rd.ok y hy)
         have hn0 : X3.ownsRow X3.heap.size 40 7 (.slice none 0 0) ([] : List EntD).length (evals5 []) := World.ownsRow_nil _ _ _ _
         have hlz : zs.length ≤ 80 := by have := HSoX.out.len; omega
         have HA0 := Lib.hid (And.intro hTk (And.intro hDp (And.intro hone hn0)))
         obtain ⟨b', off', heq, x0, x1, x2, x3, x4, x5, x6⟩ := (HR.out.later HSoX.out.bel).cel HE.out.1
         cases heq
         rw [HVr.out.1] at x0
         rw [HVr.out.2.1] at x2
         rw [HVr.out.2.2] at x6
         have HD9 : Hid (_ ∧ _ ∧ _ ∧ _ ∧ _ ∧ _ ∧ _) := ⟨x0, x1, x2, x3, x4, x5, x6⟩
         clear hTk hDp hone hn0 x0 x1 x2 x3 x4 x5 x6
         go_upto_region 11 with fail
         go_wp2_with (first
          | (have Y := O3; fail)
          | (have Y := O2; at_builtin; refine wpl5_append_rd rfl _ _ rfl X3.heap.size _ _ rfl O2.out _ _ _ _ rfl hDl.out (HA0.out.2.1.later HBx2.out) (fun y hy => HA0.out.2.2.1 y (List.mem_of_mem_drop hy)) (by simp only [List.length_append, List.length_take, List.length_drop, List.length_cons, List.length_nil]; omega) HBx2.out.size ?_; intro a3 n3 c3 Y3 hn3 r3 g3; have O3 := Lib.hid r3; have HBx3 := Lib.hid (HBx2.out.grown g3 HBx2.out.size (fun k hk => (O2.out.lt k hk).1)); have Hn3 := Lib.hid hn3; clear hn3 r3 g3)
          | (have Y := O1; at_builtin; refine wpl5_append_rd rfl _ _ rfl X3.heap.size _ _ rfl (O1.out.alloc _) _ _ _ [e] rfl rfl (HOne.out) (fun y hy => by simp at hy; subst hy; exact one_cells HOe.out) (by simp only [List.length_append, List.length_take, List.length_cons, List.length_nil]; omega) (Nat.le_trans HBx1.out.size (by simp)) ?_; intro a2 n2 c2 Y2 hn2 r2 g2; have O2 := Lib.hid r2; have HBx2 := Lib.hid ((HBx1.out.alloc HBx1.out.size _).grown g2 (Nat.le_trans HBx1.out.size (by simp)) (fun k hk => (O1.out.lt k hk).1)); clear hn2 r2 g2)
          | (at_builtin; refine wpl5_append_rd rfl _ _ rfl X3.heap.size _ [] rfl HA0.out.2.2.2 _ _ _ _ rfl hTl.out HA0.out.1 (fun y hy => HA0.out.2.2.1 y (List.mem_of_mem_take hy)) (by simp only [List.length_take, List.length_nil]; omega) (Nat.le_refl _) ?_; intro a1 n1 c1 Y1 hn1 r1 g1; have O1 := Lib.hid r1; have HBx1 := Lib.hid ((Below.refl X3.heap.size X3).grown g1 (Nat.le_refl _) (fun k hk => (HA0.out.2.2.2.lt k hk).1)); have y0 := (HBx1.out.cell (p := ⟨b, off + k * 7, none⟩) (World.block_lt_of_cell? _ _ HD9.out.1)).trans HD9.out.1; have y1 := (HBx1.out.cell (p := ⟨b, off + k * 7 + 1, none⟩) (World.block_lt_of_cell? _ _ HD9.out.2.1)).trans HD9.out.2.1; have y2 := (HBx1.out.cell (p := ⟨b, off + k * 7 + 2, none⟩) (World.block_lt_of_cell? _ _ HD9.out.2.2.1)).trans HD9.out.2.2.1; have y3 := (HBx1.out.cell (p := ⟨b, off + k * 7 + 3, none⟩) (World.block_lt_of_cell? _ _ HD9.out.2.2.2.1)).trans HD9.out.2.2.2.1; have y4 := (HBx1.out.cell (p := ⟨b, off + k * 7 + 4, none⟩) (World.block_lt_of_cell? _ _ HD9.out.2.2.2.2.1)).trans HD9.out.2.2.2.2.1; have y5 := (HBx1.out.cell (p := ⟨b, off + k * 7 + 5, none⟩) (World.block_lt_of_cell? _ _ HD9.out.2.2.2.2.2.1)).trans HD9.out.2.2.2.2.2.1; have y6 := (HBx1.out.cell (p := ⟨b, off + k * 7 + 6, none⟩) (World.block_lt_of_cell? _ _ HD9.out.2.2.2.2.2.2)).trans HD9.out.2.2.2.2.2.2; have HOne : Hid (RdL5 _ _ _ [e]) := RdL5.one (HOe.out.later HBx1.out); rw [HCe.out.1] at HOne; clear hn1 r1 g1))
         have HZ : Hid (∃ zt, n3 = zt.length ∧ So W Y3 a3 c3 zt (k + 1)) := by
          have h := O3.out
          rw [List.nil_append] at h
          have := HSoX.out.put HBx3.out HOe.out HE0.out HLo.out hHi.out n3 rfl h
          exact ⟨_, this.1, this.2⟩
         refine ⟨⟨k + 1, n3, a3, c3, by omega, by omega, by go_num, rfl, HZ⟩, by simp only [intOf]; omega⟩
        ·have hcm2 : ¬ cm = at_ := fun h => hcm h.symm
         have hatc : at_ ≤ cm := by have := HM.out.1; have := HSoX.out.rd.cap.1; omega
         have HOe := Lib.hid ((HR.out.later HSoX.out.bel).ok e (List.mem_of_getElem? HE.out.1))
         have hTk : RdL5 X3 (some ⟨gm, 0, none⟩) cm (zs.take at_) := HSoX.out.rd.takeN at_
         have hTl : Hid (at_ = (zs.take at_).length) := by unfold Hid; rw [List.length_take]; have := HM.out.1; omega
         have hDp : RdL5 X3 (some ⟨gm, at_ * 7, none⟩) (cm - at_) (zs.drop at_) := by
          have h := HSoX.out.rd.dropN at_ (by have := HM.out.1; omega)
          simp only [Option.map_some, hcm, if_false] at h
          rw [Nat.zero_add] at h
          exact h
         have hDl : Hid (nm - at_ = (zs.drop at_).length) := by unfold Hid; rw [List.length_drop]; have := HM.out.1; omega
         have hone : ∀ y ∈ zs, ∀ u ∈ y.cells.toList, u.oneCell' = true := fun y hy => one_cells (HSoX.out.rd.ok y hy)
         have hn0 : X3.ownsRow X3.heap.size 40 7 (.slice none 0 0) ([] : List EntD).length (evals5 []) := World.ownsRow_nil _ _ _ _
         have hlz : zs.length ≤ 80 := by have := HSoX.out.len; omega
         have HA0 := Lib.hid (And.intro hTk (And.intro hDp (And.intro hone hn0)))
         obtain ⟨b', off', heq, x0, x1, x2, x3, x4, x5, x6⟩ := (HR.out.later HSoX.out.bel).cel HE.out.1
         cases heq
         rw [HVr.out.1] at x0
         rw [HVr.out.2.1] at x2
         rw [HVr.out.2.2] at x6
         have HD9 : Hid (_ ∧ _ ∧ _ ∧ _ ∧ _ ∧ _ ∧ _) := ⟨x0, x1, x2, x3, x4, x5, x6⟩
         clear hTk hDp hone hn0 x0 x1 x2 x3 x4 x5 x6
         go_upto_region 11 with fail
         go_wp2_with (first
          | (have Y := O3; fail)
          | (have Y := O2; at_builtin; refine wpl5_append_rd rfl _ _ rfl X3.heap.size _ _ rfl O2.out _ _ _ _ rfl hDl.out (HA0.out.2.1.later HBx2.out) (fun y hy => HA0.out.2.2.1 y (List.mem_of_mem_drop hy)) (by simp only [List.length_append, List.length_take, List.length_drop, List.length_cons, List.length_nil]; omega) HBx2.out.size ?_; intro a3 n3 c3 Y3 hn3 r3 g3; have O3 := Lib.hid r3; have HBx3 := Lib.hid (HBx2.out.grown g3 HBx2.out.size (fun k hk => (O2.out.lt k hk).1)); have Hn3 := Lib.hid hn3; clear hn3 r3 g3)
          | (have Y := O1; at_builtin; refine wpl5_append_rd rfl _ _ rfl X3.heap.size _ _ rfl (O1.out.alloc _) _ _ _ [e] rfl rfl (HOne.out) (fun y hy => by simp at hy; subst hy; exact one_cells HOe.out) (by simp only [List.length_append, List.length_take, List.length_cons, List.length_nil]; omega) (Nat.le_trans HBx1.out.size (by simp)) ?_; intro a2 n2 c2 Y2 hn2 r2 g2; have O2 := Lib.hid r2; have HBx2 := Lib.hid ((HBx1.out.alloc HBx1.out.size _).grown g2 (Nat.le_trans HBx1.out.size (by simp)) (fun k hk => (O1.out.lt k hk).1)); clear hn2 r2 g2)
          | (at_builtin; refine wpl5_append_rd rfl _ _ rfl X3.heap.size _ [] rfl HA0.out.2.2.2 _ _ _ _ rfl hTl.out HA0.out.1 (fun y hy => HA0.out.2.2.1 y (List.mem_of_mem_take hy)) (by simp only [List.length_take, List.length_nil]; omega) (Nat.le_refl _) ?_; intro a1 n1 c1 Y1 hn1 r1 g1; have O1 := Lib.hid r1; have HBx1 := Lib.hid ((Below.refl X3.heap.size X3).grown g1 (Nat.le_refl _) (fun k hk => (HA0.out.2.2.2.lt k hk).1)); have y0 := (HBx1.out.cell (p := ⟨b, off + k * 7, none⟩) (World.block_lt_of_cell? _ _ HD9.out.1)).trans HD9.out.1; have y1 := (HBx1.out.cell (p := ⟨b, off + k * 7 + 1, none⟩) (World.block_lt_of_cell? _ _ HD9.out.2.1)).trans HD9.out.2.1; have y2 := (HBx1.out.cell (p := ⟨b, off + k * 7 + 2, none⟩) (World.block_lt_of_cell? _ _ HD9.out.2.2.1)).trans HD9.out.2.2.1; have y3 := (HBx1.out.cell (p := ⟨b, off + k * 7 + 3, none⟩) (World.block_lt_of_cell? _ _ HD9.out.2.2.2.1)).trans HD9.out.2.2.2.1; have y4 := (HBx1.out.cell (p := ⟨b, off + k * 7 + 4, none⟩) (World.block_lt_of_cell? _ _ HD9.out.2.2.2.2.1)).trans HD9.out.2.2.2.2.1; have y5 := (HBx1.out.cell (p := ⟨b, off + k * 7 + 5, none⟩) (World.block_lt_of_cell? _ _ HD9.out.2.2.2.2.2.1)).trans HD9.out.2.2.2.2.2.1; have y6 := (HBx1.out.cell (p := ⟨b, off + k * 7 + 6, none⟩) (World.block_lt_of_cell? _ _ HD9.out.2.2.2.2.2.2)).trans HD9.out.2.2.2.2.2.2; have HOne : Hid (RdL5 _ _ _ [e]) := RdL5.one (HOe.out.later HBx1.out); rw [HCe.out.1] at HOne; clear hn1 r1 g1))
         have HZ : Hid (∃ zt, n3 = zt.length ∧ So W Y3 a3 c3 zt (k + 1)) := by
          have h := O3.out
          rw [List.nil_append] at h
          have := HSoX.out.put HBx3.out HOe.out HE0.out HLo.out hHi.out n3 rfl h
          exact ⟨_, this.1, this.2⟩
         refine ⟨⟨k + 1, n3, a3, c3, by omega, by omega, by go_num, rfl, HZ⟩, by simp only [intOf]; omega⟩
    ·have hEi : ¬ (E0 : Int) = 0 := by omega
     have HZ : Hid (∃ zs, nm = zs.length ∧ So W X1 am cm zs (k + 1)) := ⟨zs, HM.out.1, HSo1.out.mono (by omega)⟩
     go_wp2
     go_roundw
     case rel => exact ⟨k + 1, nm, am, cm, by omega, by omega, by go_num, rfl, HZ⟩
     case measure => simp only [intOf]; omega
   ·have h80i : ¬ (k : Int) < 80 := by omega
    obtain ⟨zs, hnm, hso⟩ := HU.out
    have HEnd := Lib.hid (hso.done hk80 hnm)
    clear hso hnm HU
    go_wp2
    go_ret
    exact HEnd.out
  ·have hge : ¬ (k : Int) < (N : Int) := by omega
   obtain ⟨zs, hnm, hso⟩ := HU.out
   have HEnd := Lib.hid (hso.done hk80 hnm)
   clear hso hnm HU
   go_wp2
   go_ret
   exact HEnd.out
end Go.Proofs.YtchebhafabhabaaGreatDoor
