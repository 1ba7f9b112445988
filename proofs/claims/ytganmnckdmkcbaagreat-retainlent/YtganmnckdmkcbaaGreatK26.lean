import Derived.Test.YtganmnckdmkcbaaGreatK25
namespace Go.Proofs.YtganmnckdmkcbaaGreat
open Go.RowKit Go.Maps
set_option linter.unusedVariables false

theorem box_fate (w : World) (fa : Option Addr) (K fc : Nat) (e : EntD) : ∃ X1 W, X1 = (w.alloc (.cells #[.slice fa K fc] 27)).alloc (.cells #[.slice none 0 0, .int .i64 0, .slice none 0 0, .int .i64 0, .int .i64 0, .int .i64 0, .slice none 0 0] 84) ∧ W = X1.alloc (.cells e.cells 84) ∧ X1.heap.size = w.heap.size + 1 + 1 ∧ Below w.heap.size w X1 ∧ Below w.heap.size w W ∧ (∀ Z, Below W.heap.size W Z → Z.cell? ⟨w.heap.size, 0, none⟩ = some (.slice fa K fc) ∧ Z.heap[w.heap.size + 1]? = some (.cells #[.slice none 0 0, .int .i64 0, .slice none 0 0, .int .i64 0, .int .i64 0, .int .i64 0, .slice none 0 0] 84 (0, 0)) ∧ EBox Z X1.heap.size e) := by
  obtain ⟨X0, hX0, A1, hc⟩ := sch_box w fa K fc
  obtain ⟨zc, hz⟩ : ∃ zc : Array Value, zc = #[.slice none 0 0, .int .i64 0, .slice none 0 0, .int .i64 0, .int .i64 0, .int .i64 0, .slice none 0 0] := ⟨_, rfl⟩
  rw [← hz]
  have A2 := (Below.refl X0.heap.size X0).alloc (Nat.le_refl _) (.cells zc 84)
  have rz : (X0.alloc (.cells zc 84)).heap[X0.heap.size]? = some (.cells zc 84 (0, 0)) := heap_new X0 (.cells zc 84)
  obtain ⟨X1, hX1⟩ : ∃ X1, X1 = X0.alloc (.cells zc 84) := ⟨_, rfl⟩
  rw [← hX1] at A2 rz
  obtain ⟨W, hW, A3, hb, -⟩ := box1 X1 e
  have s0 : X0.heap.size = w.heap.size + 1 := by rw [hX0]; simp
  have s1 : X1.heap.size = w.heap.size + 1 + 1 := by rw [hX1, World.size_alloc, s0]
  refine ⟨X1, W, by rw [hX1, hX0], hW, s1, A1.trans (A2.mono A1.size), A1.trans ((A2.trans (A3.mono A2.size)).mono A1.size), fun Z k => ⟨hc Z (A2.trans ((A3.trans (k.mono A3.size)).mono A2.size)), ?_, hb Z k⟩⟩
  rw [← s0, (A3.trans (k.mono A3.size)).block _ (by omega)]
  exact rz
structure FK (Z : World) (gs gr ge : Nat) (v : Value) (e : EntD) : Prop where
  sc : Z.cell? ⟨gs, 0, none⟩ = some v
  rz : Z.heap[gr]? = some (.cells #[.slice none 0 0, .int .i64 0, .slice none 0 0, .int .i64 0, .int .i64 0, .int .i64 0, .slice none 0 0] 84 (0, 0))
  be : EBox Z ge e
theorem FK.z {Z : World} {gs gr ge : Nat} {v : Value} {e : EntD} (h : FK Z gs gr ge v e) : Z.cell? ⟨gr, 0, none⟩ = some (.slice none 0 0) ∧ Z.cell? ⟨gr, 1, none⟩ = some (.int .i64 0) ∧ Z.cell? ⟨gr, 2, none⟩ = some (.slice none 0 0) ∧ Z.cell? ⟨gr, 3, none⟩ = some (.int .i64 0) ∧ Z.cell? ⟨gr, 4, none⟩ = some (.int .i64 0) ∧ Z.cell? ⟨gr, 5, none⟩ = some (.int .i64 0) ∧ Z.cell? ⟨gr, 6, none⟩ = some (.slice none 0 0) := by
  have := h.rz
  simp [World.cell?, this]
theorem FK.f {Z : World} {gs gr ge : Nat} {v : Value} {e : EntD} (h : FK Z gs gr ge v e) : Z.frozen? ⟨gr, 0, none⟩ = false ∧ Z.frozen? ⟨gr, 1, none⟩ = false ∧ Z.frozen? ⟨gr, 2, none⟩ = false ∧ Z.frozen? ⟨gr, 3, none⟩ = false ∧ Z.frozen? ⟨gr, 4, none⟩ = false ∧ Z.frozen? ⟨gr, 5, none⟩ = false ∧ Z.frozen? ⟨gr, 6, none⟩ = false := by
  have := h.rz
  simp [World.frozen?, this]
theorem below7 {w Z : World} {B gr : Nat} (h : Below B w Z) (hg : B ≤ gr) (a b c d e f g : Value) : Below B w (((((((Z.setCell ⟨gr, 0, none⟩ a).setCell ⟨gr, 1, none⟩ b).setCell ⟨gr, 2, none⟩ c).setCell ⟨gr, 3, none⟩ d).setCell ⟨gr, 4, none⟩ e).setCell ⟨gr, 5, none⟩ f).setCell ⟨gr, 6, none⟩ g) :=
  ((((((h.setCell hg _).setCell hg _).setCell hg _).setCell hg _).setCell hg _).setCell hg _).setCell hg _
theorem husk_dat {e : EntD} (hv : Va e.dat) (h2 : (hk e.dat).kind = 2) : (⟨e.vr, e.fam, e.vq, e.ts, e.seq, 2, .slice none 0 0, e.row, e.qual, []⟩ : EntD).dat = hk e.dat := by
  have hval : e.val = [] := hv.val (fun z => by
    rcases (hk_eq e.dat).2.2.2.2.2.2 with ⟨q, _⟩ | ⟨_, q⟩ <;> omega)
  unfold hk at h2 ⊢
  by_cases k : e.dat.kind = 3
  · rw [if_pos k]
    simp only [EntD.dat, hval]
  · rw [if_neg k] at h2 ⊢
    have h3 : e.kind = 2 := h2
    simp only [EntD.dat, hval, h3]
def FateP (fs : List FamD) (clock : Int) (major : Bool) (low : Int) (m : List En) (W0 : World) (e : EntD) (N : Int) (y : EntD) (W' : World) : Prop :=
  N = fateN (mt fs) clock major low m e.dat ∧ EntD.Ok W' y ∧ (y.row = e.row ∧ y.qual = e.qual ∧ (y.val = e.val ∨ y.val = [])) ∧ (N = 0 → y.dat = fateE m e.dat) ∧ Below W0.heap.size W0 W'
theorem FateP.same {fs : List FamD} {clock : Int} {major : Bool} {low : Int} {m : List En} {W0 : World} {e : EntD} {N : Int} {W' : World} (hN : N = fateN (mt fs) clock major low m e.dat) (he : EntD.Ok W0 e) (b : Below W0.heap.size W0 W') (h : N = 0 → e.dat = fateE m e.dat) : FateP fs clock major low m W0 e N e W' :=
  ⟨hN, he.later b, ⟨rfl, rfl, .inl rfl⟩, h, b⟩
end Go.Proofs.YtganmnckdmkcbaaGreat

namespace Go.Proofs.YtganmnckdmkcbaaGreat
open Go.RowKit Go.Maps
set_option linter.unusedVariables false

set_option maxRecDepth 100000 in
set_option maxHeartbeats 16000000 in
theorem refFate_mark {W0 : World} {fa a : Option Addr} {fc cap : Nat} {fs : List FamD} {l : List EntD} {i : Nat} {e : EntD} (clock low : Int) (major : Bool) (hr : RdF W0 (.slice fa fs.length fc) fs) (hU : LU fs l) (hl : RdL3 W0 a cap l) (hn : l.length ≤ 1353245080300) (hi : l[i]? = some e) (hne : (l.map EntD.dat).Pairwise (fun a b => a.seq ≠ b.seq)) (k4 : 4 ≤ e.kind) :
    Calls Tryz.prog 56 #[.agg #[.slice fa fs.length fc], .int .i64 clock, .bool major, .int .i64 low, .slice a l.length cap, .int .i64 (i : Int)] W0 fun r W' => ∃ (N : Int) (y : EntD), r = .returned (.tuple #[.agg y.cells, .int .i64 N]) ∧ FateP fs clock major low (l.map EntD.dat) W0 e N y W' := by
  have em := List.mem_of_getElem? hi
  have hil : i < l.length := (List.getElem?_eq_some_iff.1 hi).1
  have he := hl.ok e em
  obtain ⟨X1, W, hX1, hW, hs1, A1, A, hb⟩ := box_fate W0 fa fs.length fc e
  obtain ⟨N, hN⟩ : ∃ N, N = l.length := ⟨_, rfl⟩
  obtain ⟨K, hK⟩ : ∃ K, K = fs.length := ⟨_, rfl⟩
  obtain ⟨m, hm⟩ : ∃ m, m = l.map EntD.dat := ⟨_, rfl⟩
  have up : ∀ Z, Below W.heap.size W Z → Below W0.heap.size W0 Z := fun Z b => A.trans (b.mono A.size)
  have hc := hl.cap
  obtain ⟨kf, hkf⟩ : ∃ kf : Nat, e.fam = (kf : Int) := ⟨e.fam.toNat, by have := (hU.un e em).f0; omega⟩
  have hkl : kf < fs.length := by have := (hU.un e em).fK; omega
  obtain ⟨bf, of, fd, rfl, hfd, hcf⟩ := fam_cell hr hkl
  have HFm : Hid (famAt (mt fs) e.dat.fam = (fd.mx, fd.tl)) := by
    show famAt (mt fs) e.fam = _
    rw [hkf, fam_mt hfd]
  have HL := Lib.hid (fun (Z : World) (b : Below W.heap.size W Z) => hl.later (up Z b))
  have HOk := Lib.hid (fun (Z : World) (b : Below W.heap.size W Z) => he.later (up Z b))
  have HGr := Lib.hid (fun (h3 : e.kind ≤ 3) (Z : World) (b : Below W.heap.size W Z) => group_in (fa := some ⟨bf, of, none⟩) (fc := fc) clock hU (hl.later (up Z b)) em h3 hn)
  have HMk := Lib.hid (fun (h3 : e.kind ≤ 3) (Z : World) (b : Below W.heap.size W Z) => refMask_any (hl.later (up Z b)) (he.later (up Z b)) h3 hn)
  have HEx := Lib.hid (fun (Z : World) (b : Below W.heap.size W Z) => refExpired_any clock (hr.later (up Z b)) (hU.un e em) hU.tl)
  have HRk := Lib.hid (fun (Z : World) (b : Below W.heap.size W Z) => refRank_any clock (hr.later (up Z b)) hU (hl.later (up Z b)) (he.later (up Z b)) hn)
  have HCf : Hid (∀ Z, Below W.heap.size W Z → Z.cell? ⟨bf, of + kf * 3 + 1, none⟩ = some (.int .i64 fd.mx)) := fun Z b => (hcf Z (up Z b)).1
  have HMi : Hid (m[i]? = some e.dat) := by unfold Hid; rw [hm, List.getElem?_map, hi]; rfl
  have HVa : Hid (Va e.dat) := hU.va e.dat (List.mem_map_of_mem em)
  have hat := hl.at_
  rcases hat with h0 | ⟨bl, ol, rfl, -⟩
  · rw [h0] at hi; simp at hi
  have hcl := fun j u hj => (hl.later A1).cells (Below.refl _ _) hi j u hj
  have d0 := hcl 0 _ rfl
  have d1 := hcl 1 _ rfl
  have d2 := hcl 2 _ rfl
  have d3 := hcl 3 _ rfl
  have d4 := hcl 4 _ rfl
  have d5 := hcl 5 _ rfl
  have d6 := hcl 6 _ rfl
  simp only [Nat.add_zero] at d0
  obtain ⟨_, a1, n1, e1, -⟩ := id he.1
  obtain ⟨_, a2, n2, e2, -⟩ := id he.2.1
  obtain ⟨_, a3, n3, e3, -⟩ := id he.2.2
  rw [← hN, ← hm] at HGr HMk
  rw [← hK] at HEx
  rw [← hN, ← hK, ← hm] at HRk
  rw [← hK] at hb hX1 hkl
  rw [← hN] at hn hc hil
  rw [← hm] at hne ⊢
  rw [← hN, ← hK]
  have HFk : Hid (∀ Z, Below W.heap.size W Z → FK Z W0.heap.size (W0.heap.size + 1) X1.heap.size (.slice (some ⟨bf, of, none⟩) K fc) e) := fun Z b => ⟨(hb Z b).1, (hb Z b).2.1, (hb Z b).2.2⟩
  have HC : Hid (∀ Z, Below W.heap.size W Z → Z.cell? ⟨X1.heap.size, 0, none⟩ = some (.slice a1 e.row.length n1) ∧ Z.cell? ⟨X1.heap.size, 1, none⟩ = some (.int .i64 e.fam) ∧ Z.cell? ⟨X1.heap.size, 2, none⟩ = some (.slice a2 e.qual.length n2) ∧ Z.cell? ⟨X1.heap.size, 3, none⟩ = some (.int .i64 e.ts) ∧ Z.cell? ⟨X1.heap.size, 4, none⟩ = some (.int .i64 e.seq) ∧ Z.cell? ⟨X1.heap.size, 5, none⟩ = some (.int .i64 e.kind) ∧ Z.cell? ⟨X1.heap.size, 6, none⟩ = some (.slice a3 e.val.length n3)) := fun Z b => by
    have h := (HFk.out Z b).be.cells7
    rw [e1, e2, e3] at h
    exact h
  unfold EntD.cells at hW HGr HMk HEx HRk
  simp only [e1, e2, e3] at HGr HMk HEx HRk
  rw [e1, e2, e3] at hW
  rw [e1] at d0
  rw [e2] at d2
  rw [e3] at d6
  have HEe := Lib.hid (And.intro e1 (And.intro e2 e3))
  have HW := Lib.hid hW
  have HX1 := Lib.hid hX1
  have HS1 := Lib.hid hs1
  have HA := Lib.hid A
  have HN := Lib.hid hN
  have HM := Lib.hid hm
  have HUp := Lib.hid up
  have HE := Lib.hid he
  have HNe := Lib.hid hne
  have HPt := Lib.hid hi
  have hi0 : (0 : Int) ≤ (i : Int) := by omega
  have hiN : (i : Int) < (N : Int) := by omega
  have k0 : (0 : Int) ≤ (kf : Int) := by omega
  have kK : (kf : Int) < (K : Int) := by omega
  have HKf := Lib.hid hkf
  clear hX1 hs1 A1 hW A hb hN hl hr hU up hm hK he hne hi hfd hcf hkf e1 e2 e3 hcl em
  go_enter Tryz.func56, Tryz.ntmps56
  go_upto_region 1 with fail
  rw [← HX1.out]
  clear HX1
  go_upto_region 2 with fail
  rw [← HW.out]
  clear HW d0 d1 d2 d3 d4 d5 d6
  have HV : Hid (Calls Tryz.prog 61 #[.agg e.cells] W fun r w' => r = .returned (.bool (decide (e.kind ≤ 3))) ∧ Below W.heap.size W w') := version_any
  unfold EntD.cells at HV
  rw [HEe.out.1, HEe.out.2.1, HEe.out.2.2] at HV
  obtain ⟨y0, y1, y2, y3, y4, y5, y6⟩ := HC.out W (Below.refl _ _)
  go_wp2_with fail
  refine Calls.mono HV.out ?_
  rintro r w1 ⟨rfl, b1⟩
  have B1 := Lib.hid b1
  clear b1 y0 y1 y2 y3 y4 y5 y6 HV
  have k3 : ¬ e.kind ≤ 3 := by omega
  rw [decide_eq_false k3]
  have HK4 : Hid (4 ≤ e.dat.kind ∧ e.dat.kind ≤ 5) := ⟨k4, HVa.out.k5⟩
  have HSame : Hid (e.dat = fateE m e.dat) := by unfold Hid fateE; rw [if_pos HK4.out.1]
  clear k3 k4
  go_wp2
  go_loopw [15, 16, 17] (fun kv _ _ wr => ∃ t : Nat, t ≤ N ∧ kv = .int .i64 (t : Int) ∧ Hid (∀ (k : Nat) (x : En), k < t → m[k]? = some x → k ≠ i → ovr x e.dat = true → upT x e.dat = false) ∧ Hid (Below W.heap.size W wr)) (fun kv _ _ _ => N - (intOf kv).toNat)
  case atStart => exact ⟨0, Nat.zero_le _, rfl, fun k x h => absurd h (by omega), B1.out⟩
  case round =>
    obtain ⟨t, ht, rfl, HNo, HBw⟩ := hrel
    have t0 : (0 : Int) ≤ (t : Int) := by omega
    by_cases hlt : t < N
    · have hlt2 : (t : Int) < (N : Int) := by omega
      obtain ⟨x, hx⟩ : ∃ x, l[t]? = some x := ⟨l[t]'(by rw [← HN.out]; exact hlt), List.getElem?_eq_getElem _⟩
      have hrd := HL.out _ HBw.out
      have hok := hrd.ok x (List.mem_of_getElem? hx)
      have d0 := (hrd.cells (Below.refl _ _) hx) 0 _ rfl
      have d1 := (hrd.cells (Below.refl _ _) hx) 1 _ rfl
      have d2 := (hrd.cells (Below.refl _ _) hx) 2 _ rfl
      have d3 := (hrd.cells (Below.refl _ _) hx) 3 _ rfl
      have d4 := (hrd.cells (Below.refl _ _) hx) 4 _ rfl
      have d5 := (hrd.cells (Below.refl _ _) hx) 5 _ rfl
      have d6 := (hrd.cells (Below.refl _ _) hx) 6 _ rfl
      simp only [Nat.add_zero] at d0
      obtain ⟨_, b1, m1, e1, -⟩ := id hok.1
      obtain ⟨_, b2, m2, e2, -⟩ := id hok.2.1
      obtain ⟨_, b3, m3, e3, -⟩ := id hok.2.2
      obtain ⟨X, hX, AX, hbx, -⟩ := box1 wr x
      have HXb := Lib.hid (And.intro AX (And.intro hbx (And.intro hok HBw.out)))
      unfold EntD.cells at hX
      rw [e1, e2, e3] at hX
      rw [e1] at d0
      rw [e2] at d2
      rw [e3] at d6
      have HX := Lib.hid hX
      have HMx : Hid (m[t]? = some x.dat) := by unfold Hid; rw [HM.out, List.getElem?_map, hx]; rfl
      clear hrd hok hx hX AX hbx e1 e2 e3
      go_upto_region 7 with fail
      rw [← HX.out]
      clear HX d0 d1 d2 d3 d4 d5 d6
      obtain ⟨AX, hbx, hok, hbw⟩ := HXb.out
      have hBX : Below W.heap.size W X := hbw.trans (AX.mono hbw.size)
      have KS : Hid (∀ Z, Below X.heap.size X Z → EBox Z wr.heap.size x ∧ EBox Z X1.heap.size e ∧ EntD.Ok Z x ∧ EntD.Ok Z e ∧ Below W.heap.size W Z) := fun Z k => ⟨hbx Z k, (HFk.out Z (hBX.trans (k.mono hBX.size))).be, (hok.later AX).later k, HOk.out Z (hBX.trans (k.mono hBX.size)), hBX.trans (k.mono hBX.size)⟩
      clear AX hbx hok hbw hBX
      obtain ⟨cv, hcv⟩ : ∃ cv, cv = ovr x.dat e.dat := ⟨_, rfl⟩
      have HCv : Hid (cv = ((decide (x.kind = 5) && decide (x.fam = e.fam) && decide (x.row = e.row)) || (decide (x.kind = e.kind) && mates x.dat e.dat))) := hcv
      have HCc := Lib.hid hcv
      clear hcv
      go_cut [17] from 28 to 66 (fun s wx => s = .bool cv ∧ Hid (Below X.heap.size X wx))
      case first =>
        obtain ⟨b1, b2, o1, o2, hB0⟩ := KS.out _ (Below.refl _ _)
        obtain ⟨x0, x1, x2, x3, x4, x5, x6⟩ := b1.cells7
        obtain ⟨y0, y1, y2, y3, y4, y5, y6⟩ := HC.out _ hB0
        have HAr : Hid (Calls Tryz.prog 78 #[x.vr, e.vr] X fun r w' => r = .returned (.bool (decide (x.row = e.row))) ∧ w' = X) := alike_any o1.1 o2.1
        have HMt : Hid (Calls Tryz.prog 55 #[.agg x.cells, .agg e.cells] X fun r w' => r = .returned (.bool (mates x.dat e.dat)) ∧ Below X.heap.size X w') := mates_any o1 o2
        unfold EntD.cells at HMt
        rw [HEe.out.1] at HAr
        rw [HEe.out.1, HEe.out.2.1, HEe.out.2.2] at HMt
        obtain ⟨mm, hmm⟩ : ∃ mm, mm = mates x.dat e.dat := ⟨_, rfl⟩
        rw [← hmm] at HMt HCv
        clear b1 b2 o1 o2 hmm hB0
        by_cases k5 : x.kind = 5
        · have q5 : (x.kind == 5) = true := by simpa using k5
          by_cases cf : x.fam = e.fam
          · have qf : (x.fam == e.fam) = true := by simpa using cf
            by_cases cr : x.row = e.row
            · rw [decide_eq_true cr] at HAr
              have q : Hid (cv = true) := by unfold Hid; rw [HCv.out]; simp [k5, cf, cr]
              clear k5 cf cr HCv
              go_wp2_with (go_at_call 78; refine Calls.mono HAr.out ?_; rintro r w' ⟨rfl, rfl⟩)
              go_meet
              case rel => exact ⟨by rw [q.out], Below.refl _ _⟩
            · rw [decide_eq_false cr] at HAr
              have hq : Hid (cv = (decide (x.kind = e.kind) && mm)) := by unfold Hid; rw [HCv.out]; simp [k5, cf, cr]
              by_cases ce : x.kind = e.kind
              · have qe : (x.kind == e.kind) = true := by simpa using ce
                have q : Hid (cv = mm) := by unfold Hid; rw [hq.out]; simp [ce]
                clear k5 cf cr HCv hq ce
                go_wp2_with (first | (go_at_call 78; refine Calls.mono HAr.out ?_; rintro r w' ⟨rfl, rfl⟩) | (go_at_call 55; refine Calls.mono HMt.out ?_; rintro r w' ⟨rfl, b9⟩))
                go_meet
                case rel => exact ⟨by rw [q.out], b9⟩
              · have qe : (x.kind == e.kind) = false := by simpa using ce
                have q : Hid (cv = false) := by unfold Hid; rw [hq.out]; simp [ce]
                clear k5 cf cr HCv hq ce
                go_wp2_with (go_at_call 78; refine Calls.mono HAr.out ?_; rintro r w' ⟨rfl, rfl⟩)
                go_meet
                case rel => exact ⟨by rw [q.out], Below.refl _ _⟩
          · have qf : (x.fam == e.fam) = false := by simpa using cf
            have hq : Hid (cv = (decide (x.kind = e.kind) && mm)) := by unfold Hid; rw [HCv.out]; simp [cf]
            by_cases ce : x.kind = e.kind
            · have qe : (x.kind == e.kind) = true := by simpa using ce
              have q : Hid (cv = mm) := by unfold Hid; rw [hq.out]; simp [ce]
              clear k5 cf HCv hq ce
              go_wp2_with fail
              refine Calls.mono HMt.out ?_
              rintro r w' ⟨rfl, b9⟩
              have B9 := Lib.hid b9
              clear b9
              go_wp2
              go_meet
              case rel => exact ⟨by rw [q.out], B9.out⟩
            · have qe : (x.kind == e.kind) = false := by simpa using ce
              have q : Hid (cv = false) := by unfold Hid; rw [hq.out]; simp [ce]
              clear k5 cf HCv hq ce
              go_wp2_with fail
              go_meet
              case rel => exact ⟨by rw [q.out], Below.refl _ _⟩
        · have q5 : (x.kind == 5) = false := by simpa using k5
          have hq : Hid (cv = (decide (x.kind = e.kind) && mm)) := by unfold Hid; rw [HCv.out]; simp [k5]
          by_cases ce : x.kind = e.kind
          · have qe : (x.kind == e.kind) = true := by simpa using ce
            have q : Hid (cv = mm) := by unfold Hid; rw [hq.out]; simp [ce]
            clear k5 HCv hq ce
            go_wp2_with fail
            refine Calls.mono HMt.out ?_
            rintro r w' ⟨rfl, b9⟩
            have B9 := Lib.hid b9
            clear b9
            go_wp2
            go_meet
            case rel => exact ⟨by rw [q.out], B9.out⟩
          · have qe : (x.kind == e.kind) = false := by simpa using ce
            have q : Hid (cv = false) := by unfold Hid; rw [hq.out]; simp [ce]
            clear k5 HCv hq ce
            go_wp2_with fail
            go_meet
            case rel => exact ⟨by rw [q.out], Below.refl _ _⟩
      case rest =>
        obtain ⟨rfl, HBc⟩ := hcut
        obtain ⟨b1, b2, o1, o2, hBc⟩ := KS.out _ HBc.out
        have HBr2 := Lib.hid hBc
        obtain ⟨-, -, -, x3, x4, x5, -⟩ := b1.cells7
        obtain ⟨-, -, -, y3, y4, y5, -⟩ := b2.cells7
        have HMore : Hid ((t ≠ i → ovr x.dat e.dat = true → upT x.dat e.dat = false) → ∀ (k : Nat) (z : En), k < t + 1 → m[k]? = some z → k ≠ i → ovr z e.dat = true → upT z e.dat = false) := fun h k z hk hz hn ho => by
          by_cases q : k < t
          · exact HNo.out k z q hz hn ho
          · obtain rfl : k = t := by omega
            rw [HMx.out] at hz
            cases hz
            exact h hn ho
        have HYes : Hid (t ≠ i → ovr x.dat e.dat = true → upT x.dat e.dat = true → (5 : Int) = fateN (mt fs) clock major low m e.dat) := fun hn ho hu => by
          rw [fateN_mark HK4.out.1, (shadow_at HMi.out HK4.out.1 HK4.out.2).2 ⟨t, x.dat, HMx.out, hn, ho, hu⟩]
          simp
        rw [← HCc.out] at HMore HYes
        clear b1 b2 o1 o2 hBc
        obtain ⟨cc, hcc⟩ : ∃ cc, cc = (cv && (decide (t ≠ i) && upT x.dat e.dat)) := ⟨_, rfl⟩
        have HCC := Lib.hid hcc
        have HUp2 : Hid (upT x.dat e.dat = (decide (e.ts < x.ts) || (decide (x.ts = e.ts) && (decide (e.kind < x.kind) || decide (e.seq < x.seq))))) := rfl
        clear hcc
        go_upto_region 8 with fail
        go_cut [100] from 67 to 99 (fun s wx => s = .bool cc ∧ Hid (Below X.heap.size X wx))
        case first =>
          cases cv with
          | false =>
            have q : Hid (cc = false) := by unfold Hid; rw [HCC.out]; rfl
            clear HCC HMore HYes
            go_wp2_with fail
            go_meet
            case rel => exact ⟨by rw [q.out], HBc.out⟩
          | true =>
            by_cases hti : (t : Int) = (i : Int)
            · have qti : ((t : Int) != (i : Int)) = false := by simpa using hti
              have q : Hid (cc = false) := by unfold Hid; rw [HCC.out]; simp; intro z; exact absurd (by omega) z
              clear HCC HMore HYes hti
              go_wp2_with fail
              go_meet
              case rel => exact ⟨by rw [q.out], HBc.out⟩
            · have qti : ((t : Int) != (i : Int)) = true := by simpa using hti
              have hcc : Hid (cc = (decide (e.ts < x.ts) || (decide (x.ts = e.ts) && (decide (e.kind < x.kind) || decide (e.seq < x.seq))))) := by
                unfold Hid
                rw [HCC.out, HUp2.out, decide_eq_true (show t ≠ i from fun z => hti (by rw [z]))]
                rfl
              clear HCC HMore HYes hti
              by_cases ct : e.ts < x.ts
              · have qt : decide (e.ts < x.ts) = true := decide_eq_true ct
                have q : Hid (cc = true) := by unfold Hid; rw [hcc.out]; simp [ct]
                clear ct hcc
                go_wp2_with fail
                go_meet
                case rel => exact ⟨by rw [q.out], HBc.out⟩
              · have qt : decide (e.ts < x.ts) = false := decide_eq_false ct
                by_cases cq : x.ts = e.ts
                · have qq : (x.ts == e.ts) = true := by simpa using cq
                  by_cases ck : e.kind < x.kind
                  · have qk : decide (e.kind < x.kind) = true := decide_eq_true ck
                    have q : Hid (cc = true) := by unfold Hid; rw [hcc.out]; simp [cq, ck]
                    clear ct cq ck hcc
                    go_wp2_with fail
                    go_meet
                    case rel => exact ⟨by rw [q.out], HBc.out⟩
                  · have qk : decide (e.kind < x.kind) = false := decide_eq_false ck
                    have q : Hid (cc = decide (e.seq < x.seq)) := by unfold Hid; rw [hcc.out]; simp [cq, ck]
                    clear ct cq ck hcc
                    go_wp2_with fail
                    go_meet
                    case rel => exact ⟨by rw [q.out], HBc.out⟩
                · have qq : (x.ts == e.ts) = false := by simpa using cq
                  have q : Hid (cc = false) := by unfold Hid; rw [hcc.out]; simp [ct, cq]
                  clear ct cq hcc
                  go_wp2_with fail
                  go_meet
                  case rel => exact ⟨by rw [q.out], HBc.out⟩
        case rest =>
          obtain ⟨rfl, HBd⟩ := hcut
          have HBr3 := Lib.hid (KS.out _ HBd.out).2.2.2.2
          clear x3 x4 x5 y3 y4 y5 HBr2
          cases cc with
          | false =>
            have HMo := Lib.hid (HMore.out (fun hn ho => by
              have := HCC.out
              rw [ho, decide_eq_true hn] at this
              simpa using this.symm))
            go_wp2
            go_roundw
            case rel => exact ⟨t + 1, by omega, by go_num, HMo.out, HBr3.out⟩
            case measure => simp only [intOf]; omega
          | true =>
            have HF5 : Hid ((5 : Int) = fateN (mt fs) clock major low m e.dat) := by
              have := HCC.out.symm
              simp only [Bool.and_eq_true, decide_eq_true_eq] at this
              exact HYes.out this.2.1 this.1 this.2.2

            obtain ⟨y0, y1, y2, y3, y4, y5, y6⟩ := HC.out _ HBr3.out
            obtain ⟨z0, z1, z2, z3, z4, z5, z6⟩ := (HFk.out _ HBr3.out).z
            obtain ⟨f0, f1, f2, f3, f4, f5, f6⟩ := (HFk.out _ HBr3.out).f
            have HBr := Lib.hid (HUp.out _ HBr3.out)
            go_wp2
            refine bodyPost_ret (v := .tuple #[.agg #[.slice a1 e.row.length n1, .int .i64 e.fam, .slice a2 e.qual.length n2, .int .i64 e.ts, .int .i64 e.seq, .int .i64 e.kind, .slice a3 e.val.length n3], .int .i64 5]) ?_ rfl ?_
            · simp [results, Tryz.results56, go_sem, z0, z1, z2, z3, z4, z5, z6]
            · exact ⟨_, e, by simp only [EntD.cells, HEe.out.1, HEe.out.2.1, HEe.out.2.2], FateP.same (HF5.out) HE.out (below7 HBr.out (by omega) _ _ _ _ _ _ _) (fun z => absurd z (by decide))⟩
    · have hge : ¬ (t : Int) < (N : Int) := by omega
      have HSh : Hid (shadow m e.dat = false) := shadow_no HMi.out HK4.out.1 HK4.out.2 fun k x hx hn ho => HNo.out k x (by
        have hk : k < m.length := (List.getElem?_eq_some_iff.1 hx).1
        rw [HM.out, List.length_map, ← HN.out] at hk
        omega) hx hn ho
      have HFn : Hid (fateN (mt fs) clock major low m e.dat = if (major && decide (e.ts ≤ low)) then 5 else 0) := by unfold Hid; rw [fateN_mark HK4.out.1, HSh.out]; rfl
      obtain ⟨y0, y1, y2, y3, y4, y5, y6⟩ := HC.out _ HBw.out
      obtain ⟨z0, z1, z2, z3, z4, z5, z6⟩ := (HFk.out _ HBw.out).z
      obtain ⟨f0, f1, f2, f3, f4, f5, f6⟩ := (HFk.out _ HBw.out).f
      cases major with
      | true =>
        by_cases cl : e.ts ≤ low
        · have ql : decide (e.ts ≤ low) = true := decide_eq_true cl
          have HF5 : Hid ((5 : Int) = fateN (mt fs) clock true low m e.dat) := by unfold Hid; rw [HFn.out]; simp [cl]

          have HBr := Lib.hid (HUp.out _ HBw.out)
          go_wp2
          refine bodyPost_ret (v := .tuple #[.agg #[.slice a1 e.row.length n1, .int .i64 e.fam, .slice a2 e.qual.length n2, .int .i64 e.ts, .int .i64 e.seq, .int .i64 e.kind, .slice a3 e.val.length n3], .int .i64 5]) ?_ rfl ?_
          · simp [results, Tryz.results56, go_sem, z0, z1, z2, z3, z4, z5, z6]
          · exact ⟨_, e, by simp only [EntD.cells, HEe.out.1, HEe.out.2.1, HEe.out.2.2], FateP.same (HF5.out) HE.out (below7 HBr.out (by omega) _ _ _ _ _ _ _) (fun z => absurd z (by decide))⟩
        · have ql : decide (e.ts ≤ low) = false := decide_eq_false cl
          have HF5 : Hid ((0 : Int) = fateN (mt fs) clock true low m e.dat) := by unfold Hid; rw [HFn.out]; simp [cl]

          have HBr := Lib.hid (HUp.out _ HBw.out)
          go_wp2
          refine bodyPost_ret (v := .tuple #[.agg #[.slice a1 e.row.length n1, .int .i64 e.fam, .slice a2 e.qual.length n2, .int .i64 e.ts, .int .i64 e.seq, .int .i64 e.kind, .slice a3 e.val.length n3], .int .i64 0]) ?_ rfl ?_
          · simp [results, Tryz.results56, go_sem, z0, z1, z2, z3, z4, z5, z6]
          · exact ⟨_, e, by simp only [EntD.cells, HEe.out.1, HEe.out.2.1, HEe.out.2.2], FateP.same (HF5.out) HE.out (below7 HBr.out (by omega) _ _ _ _ _ _ _) (fun _ => HSame.out)⟩
      | false =>
        have HF5 : Hid ((0 : Int) = fateN (mt fs) clock false low m e.dat) := by unfold Hid; rw [HFn.out]; simp
        have HBr := Lib.hid (HUp.out _ HBw.out)
        go_wp2
        refine bodyPost_ret (v := .tuple #[.agg #[.slice a1 e.row.length n1, .int .i64 e.fam, .slice a2 e.qual.length n2, .int .i64 e.ts, .int .i64 e.seq, .int .i64 e.kind, .slice a3 e.val.length n3], .int .i64 0]) ?_ rfl ?_
        · simp [results, Tryz.results56, go_sem, z0, z1, z2, z3, z4, z5, z6]
        · exact ⟨_, e, by simp only [EntD.cells, HEe.out.1, HEe.out.2.1, HEe.out.2.2], FateP.same (HF5.out) HE.out (below7 HBr.out (by omega) _ _ _ _ _ _ _) (fun _ => HSame.out)⟩
end Go.Proofs.YtganmnckdmkcbaaGreat

namespace Go.Proofs.YtganmnckdmkcbaaGreat
open Go.RowKit Go.Maps
set_option linter.unusedVariables false

set_option maxRecDepth 100000 in
set_option maxHeartbeats 16000000 in
theorem refFate_ver {W0 : World} {fa a : Option Addr} {fc cap : Nat} {fs : List FamD} {l : List EntD} {i : Nat} {e : EntD} (clock low : Int) (major : Bool) (hr : RdF W0 (.slice fa fs.length fc) fs) (hU : LU fs l) (hl : RdL3 W0 a cap l) (hn : l.length ≤ 1353245080300) (hi : l[i]? = some e) (hne : (l.map EntD.dat).Pairwise (fun a b => a.seq ≠ b.seq)) (k4 : ¬ 4 ≤ e.kind) :
    Calls Tryz.prog 56 #[.agg #[.slice fa fs.length fc], .int .i64 clock, .bool major, .int .i64 low, .slice a l.length cap, .int .i64 (i : Int)] W0 fun r W' => ∃ (N : Int) (y : EntD), r = .returned (.tuple #[.agg y.cells, .int .i64 N]) ∧ FateP fs clock major low (l.map EntD.dat) W0 e N y W' := by
  have em := List.mem_of_getElem? hi
  have hil : i < l.length := (List.getElem?_eq_some_iff.1 hi).1
  have he := hl.ok e em
  obtain ⟨X1, W, hX1, hW, hs1, A1, A, hb⟩ := box_fate W0 fa fs.length fc e
  obtain ⟨N, hN⟩ : ∃ N, N = l.length := ⟨_, rfl⟩
  obtain ⟨K, hK⟩ : ∃ K, K = fs.length := ⟨_, rfl⟩
  obtain ⟨m, hm⟩ : ∃ m, m = l.map EntD.dat := ⟨_, rfl⟩
  have up : ∀ Z, Below W.heap.size W Z → Below W0.heap.size W0 Z := fun Z b => A.trans (b.mono A.size)
  have hc := hl.cap
  obtain ⟨kf, hkf⟩ : ∃ kf : Nat, e.fam = (kf : Int) := ⟨e.fam.toNat, by have := (hU.un e em).f0; omega⟩
  have hkl : kf < fs.length := by have := (hU.un e em).fK; omega
  obtain ⟨bf, of, fd, rfl, hfd, hcf⟩ := fam_cell hr hkl
  have HFm : Hid (famAt (mt fs) e.dat.fam = (fd.mx, fd.tl)) := by
    show famAt (mt fs) e.fam = _
    rw [hkf, fam_mt hfd]
  have HL := Lib.hid (fun (Z : World) (b : Below W.heap.size W Z) => hl.later (up Z b))
  have HOk := Lib.hid (fun (Z : World) (b : Below W.heap.size W Z) => he.later (up Z b))
  have HGr := Lib.hid (fun (h3 : e.kind ≤ 3) (Z : World) (b : Below W.heap.size W Z) => group_in (fa := some ⟨bf, of, none⟩) (fc := fc) clock hU (hl.later (up Z b)) em h3 hn)
  have HMk := Lib.hid (fun (h3 : e.kind ≤ 3) (Z : World) (b : Below W.heap.size W Z) => refMask_any (hl.later (up Z b)) (he.later (up Z b)) h3 hn)
  have HEx := Lib.hid (fun (Z : World) (b : Below W.heap.size W Z) => refExpired_any clock (hr.later (up Z b)) (hU.un e em) hU.tl)
  have HRk := Lib.hid (fun (Z : World) (b : Below W.heap.size W Z) => refRank_any clock (hr.later (up Z b)) hU (hl.later (up Z b)) (he.later (up Z b)) hn)
  have HCf : Hid (∀ Z, Below W.heap.size W Z → Z.cell? ⟨bf, of + kf * 3 + 1, none⟩ = some (.int .i64 fd.mx)) := fun Z b => (hcf Z (up Z b)).1
  have HMi : Hid (m[i]? = some e.dat) := by unfold Hid; rw [hm, List.getElem?_map, hi]; rfl
  have HVa : Hid (Va e.dat) := hU.va e.dat (List.mem_map_of_mem em)
  have hat := hl.at_
  rcases hat with h0 | ⟨bl, ol, rfl, -⟩
  · rw [h0] at hi; simp at hi
  have hcl := fun j u hj => (hl.later A1).cells (Below.refl _ _) hi j u hj
  have d0 := hcl 0 _ rfl
  have d1 := hcl 1 _ rfl
  have d2 := hcl 2 _ rfl
  have d3 := hcl 3 _ rfl
  have d4 := hcl 4 _ rfl
  have d5 := hcl 5 _ rfl
  have d6 := hcl 6 _ rfl
  simp only [Nat.add_zero] at d0
  obtain ⟨_, a1, n1, e1, -⟩ := id he.1
  obtain ⟨_, a2, n2, e2, -⟩ := id he.2.1
  obtain ⟨_, a3, n3, e3, -⟩ := id he.2.2
  rw [← hN, ← hm] at HGr HMk
  rw [← hK] at HEx
  rw [← hN, ← hK, ← hm] at HRk
  rw [← hK] at hb hX1 hkl
  rw [← hN] at hn hc hil
  rw [← hm] at hne ⊢
  rw [← hN, ← hK]
  have HFk : Hid (∀ Z, Below W.heap.size W Z → FK Z W0.heap.size (W0.heap.size + 1) X1.heap.size (.slice (some ⟨bf, of, none⟩) K fc) e) := fun Z b => ⟨(hb Z b).1, (hb Z b).2.1, (hb Z b).2.2⟩
  have HC : Hid (∀ Z, Below W.heap.size W Z → Z.cell? ⟨X1.heap.size, 0, none⟩ = some (.slice a1 e.row.length n1) ∧ Z.cell? ⟨X1.heap.size, 1, none⟩ = some (.int .i64 e.fam) ∧ Z.cell? ⟨X1.heap.size, 2, none⟩ = some (.slice a2 e.qual.length n2) ∧ Z.cell? ⟨X1.heap.size, 3, none⟩ = some (.int .i64 e.ts) ∧ Z.cell? ⟨X1.heap.size, 4, none⟩ = some (.int .i64 e.seq) ∧ Z.cell? ⟨X1.heap.size, 5, none⟩ = some (.int .i64 e.kind) ∧ Z.cell? ⟨X1.heap.size, 6, none⟩ = some (.slice a3 e.val.length n3)) := fun Z b => by
    have h := (HFk.out Z b).be.cells7
    rw [e1, e2, e3] at h
    exact h
  unfold EntD.cells at hW HGr HMk HEx HRk
  simp only [e1, e2, e3] at HGr HMk HEx HRk
  rw [e1, e2, e3] at hW
  rw [e1] at d0
  rw [e2] at d2
  rw [e3] at d6
  have HEe := Lib.hid (And.intro e1 (And.intro e2 e3))
  have HW := Lib.hid hW
  have HX1 := Lib.hid hX1
  have HS1 := Lib.hid hs1
  have HA := Lib.hid A
  have HN := Lib.hid hN
  have HM := Lib.hid hm
  have HUp := Lib.hid up
  have HE := Lib.hid he
  have HNe := Lib.hid hne
  have HPt := Lib.hid hi
  have hi0 : (0 : Int) ≤ (i : Int) := by omega
  have hiN : (i : Int) < (N : Int) := by omega
  have k0 : (0 : Int) ≤ (kf : Int) := by omega
  have kK : (kf : Int) < (K : Int) := by omega
  have HKf := Lib.hid hkf
  clear hX1 hs1 A1 hW A hb hN hl hr hU up hm hK he hne hi hfd hcf hkf e1 e2 e3 hcl em
  go_enter Tryz.func56, Tryz.ntmps56
  go_upto_region 1 with fail
  rw [← HX1.out]
  clear HX1
  go_upto_region 2 with fail
  rw [← HW.out]
  clear HW d0 d1 d2 d3 d4 d5 d6
  have HV : Hid (Calls Tryz.prog 61 #[.agg e.cells] W fun r w' => r = .returned (.bool (decide (e.kind ≤ 3))) ∧ Below W.heap.size W w') := version_any
  unfold EntD.cells at HV
  rw [HEe.out.1, HEe.out.2.1, HEe.out.2.2] at HV
  obtain ⟨y0, y1, y2, y3, y4, y5, y6⟩ := HC.out W (Below.refl _ _)
  go_wp2_with fail
  refine Calls.mono HV.out ?_
  rintro r w1 ⟨rfl, b1⟩
  have B1 := Lib.hid b1
  clear b1 y0 y1 y2 y3 y4 y5 y6 HV
  have k3 : e.kind ≤ 3 := by omega
  rw [decide_eq_true k3]
  have HFn : Hid (fateN (mt fs) clock major low m e.dat = _) := fateN_ver (show e.dat.kind ≤ 3 from k3)
  have HSm : Hid (fateE m e.dat = if hasPut m e.dat = false then e.dat else hk e.dat) := by unfold Hid fateE; rw [if_neg (show ¬ 4 ≤ e.dat.kind from by have := k4; show ¬ 4 ≤ e.kind; omega)]
  have HG := Lib.hid (HGr.out k3)
  have HMk2 := Lib.hid (HMk.out k3)
  clear k3 k4 HGr HMk
  obtain ⟨dd, hdd⟩ : ∃ dd, dd = decidesS m e.dat := ⟨_, rfl⟩
  obtain ⟨mk, hmk⟩ : ∃ mk, mk = maskOf m e.dat := ⟨_, rfl⟩
  obtain ⟨xx, hxx⟩ : ∃ xx, xx = expS (mt fs) clock e.dat := ⟨_, rfl⟩
  obtain ⟨rk, hrk⟩ : ∃ rk, rk = above (mt fs) clock m e.dat + 1 := ⟨_, rfl⟩
  rw [← hdd] at HG HFn
  rw [← hmk] at HMk2 HFn
  rw [← hxx] at HEx HFn
  rw [← hrk] at HRk HFn
  rw [HFm.out] at HFn
  have HDd := Lib.hid hdd
  clear hdd hmk hxx hrk
  obtain ⟨y0, y1, y2, y3, y4, y5, y6⟩ := HC.out _ B1.out
  go_wp2_with fail
  refine Calls.mono (HG.out _ B1.out) ?_
  rintro r w2 ⟨kk, rfl, hk0, hkk, b2⟩
  have B2 := Lib.hid (B1.out.trans (b2.mono B1.out.size))
  have HK0 := Lib.hid hk0
  have HKk := Lib.hid (hkk HNe.out)
  clear b2 hk0 hkk HG y0 y1 y2 y3 y4 y5 y6
  cases dd with
  | false =>
    have HF5 : Hid ((1 : Int) = fateN (mt fs) clock major low m e.dat) := by unfold Hid; rw [HFn.out]; rfl
    obtain ⟨y0, y1, y2, y3, y4, y5, y6⟩ := HC.out _ B2.out
    obtain ⟨z0, z1, z2, z3, z4, z5, z6⟩ := (HFk.out _ B2.out).z
    obtain ⟨f0, f1, f2, f3, f4, f5, f6⟩ := (HFk.out _ B2.out).f
    have HBr := Lib.hid (HUp.out _ B2.out)
    go_wp2
    refine bodyPost_ret (v := .tuple #[.agg #[.slice a1 e.row.length n1, .int .i64 e.fam, .slice a2 e.qual.length n2, .int .i64 e.ts, .int .i64 e.seq, .int .i64 e.kind, .slice a3 e.val.length n3], .int .i64 1]) ?_ rfl ?_
    · simp [results, Tryz.results56, go_sem, z0, z1, z2, z3, z4, z5, z6]
    · exact ⟨_, e, by simp only [EntD.cells, HEe.out.1, HEe.out.2.1, HEe.out.2.2], FateP.same (HF5.out) HE.out (below7 HBr.out (by omega) _ _ _ _ _ _ _) (fun z => absurd z (by decide))⟩
  | true =>
    have D0 : Below W.heap.size W w2.drew := B2.out.drew
    skip
    go_wp2_with fail
    go_region_held3 (fun Z => Z.cell? ⟨X1.heap.size, 0, none⟩ = some (.slice a1 e.row.length n1) ∧ Z.cell? ⟨X1.heap.size, 1, none⟩ = some (.int .i64 e.fam) ∧ Z.cell? ⟨X1.heap.size, 2, none⟩ = some (.slice a2 e.qual.length n2) ∧ Z.cell? ⟨X1.heap.size, 3, none⟩ = some (.int .i64 e.ts) ∧ Z.cell? ⟨X1.heap.size, 4, none⟩ = some (.int .i64 e.seq) ∧ Z.cell? ⟨X1.heap.size, 5, none⟩ = some (.int .i64 e.kind) ∧ Z.cell? ⟨X1.heap.size, 6, none⟩ = some (.slice a3 e.val.length n3)) (first | exact HC.out _ D1 | exact HC.out _ D0) ((go_at_call 90; refine Calls.mono (HMk2.out _ D0) ?_; rintro e1 w3 ⟨rfl, hb1⟩; have D1 := D0.trans (hb1.mono D0.size)))
    have B3 := Lib.hid D1
    clear D0 D1 HMk2
    by_cases cm : e.ts ≤ mk
    · have qm : decide (e.ts ≤ mk) = true := decide_eq_true cm
      have HF5 : Hid ((2 : Int) = fateN (mt fs) clock major low m e.dat) := by unfold Hid; rw [HFn.out]; simp [EntD.dat, cm]

      obtain ⟨y0, y1, y2, y3, y4, y5, y6⟩ := HC.out _ B3.out
      obtain ⟨z0, z1, z2, z3, z4, z5, z6⟩ := (HFk.out _ B3.out).z
      obtain ⟨f0, f1, f2, f3, f4, f5, f6⟩ := (HFk.out _ B3.out).f
      have HBr := Lib.hid (HUp.out _ B3.out)
      go_wp2
      refine bodyPost_ret (v := .tuple #[.agg #[.slice a1 e.row.length n1, .int .i64 e.fam, .slice a2 e.qual.length n2, .int .i64 e.ts, .int .i64 e.seq, .int .i64 e.kind, .slice a3 e.val.length n3], .int .i64 2]) ?_ rfl ?_
      · simp [results, Tryz.results56, go_sem, z0, z1, z2, z3, z4, z5, z6]
      · exact ⟨_, e, by simp only [EntD.cells, HEe.out.1, HEe.out.2.1, HEe.out.2.2], FateP.same (HF5.out) HE.out (below7 HBr.out (by omega) _ _ _ _ _ _ _) (fun z => absurd z (by decide))⟩
    · have qm : decide (e.ts ≤ mk) = false := decide_eq_false cm
      have HFn2 : Hid (fateN (mt fs) clock major low m e.dat = if xx = true then 3 else if hasPut m e.dat = false then (if major = true then 5 else 0) else if fd.mx < rk then 4 else 0) := by unfold Hid; rw [HFn.out]; simp [EntD.dat, cm]
      clear HFn
      obtain ⟨y0, y1, y2, y3, y4, y5, y6⟩ := HC.out _ B3.out
      have sc := (HFk.out _ B3.out).sc
      go_wp2_with fail
      refine Calls.mono (HEx.out _ B3.out) ?_
      rintro r w4 ⟨rfl, b4⟩
      have B4 := Lib.hid (B3.out.trans (b4.mono B3.out.size))
      clear b4 HEx y0 y1 y2 y3 y4 y5 y6 sc
      cases xx with
      | true =>
        have HF5 : Hid ((3 : Int) = fateN (mt fs) clock major low m e.dat) := by unfold Hid; rw [HFn2.out]; rfl
        obtain ⟨y0, y1, y2, y3, y4, y5, y6⟩ := HC.out _ B4.out
        obtain ⟨z0, z1, z2, z3, z4, z5, z6⟩ := (HFk.out _ B4.out).z
        obtain ⟨f0, f1, f2, f3, f4, f5, f6⟩ := (HFk.out _ B4.out).f
        have HBr := Lib.hid (HUp.out _ B4.out)
        go_wp2
        refine bodyPost_ret (v := .tuple #[.agg #[.slice a1 e.row.length n1, .int .i64 e.fam, .slice a2 e.qual.length n2, .int .i64 e.ts, .int .i64 e.seq, .int .i64 e.kind, .slice a3 e.val.length n3], .int .i64 3]) ?_ rfl ?_
        · simp [results, Tryz.results56, go_sem, z0, z1, z2, z3, z4, z5, z6]
        · exact ⟨_, e, by simp only [EntD.cells, HEe.out.1, HEe.out.2.1, HEe.out.2.2], FateP.same (HF5.out) HE.out (below7 HBr.out (by omega) _ _ _ _ _ _ _) (fun z => absurd z (by decide))⟩
      | false =>
        by_cases ck : kk = 0
        · have qk : (kk == 0) = true := by simpa using ck
          have hp : Hid (hasPut m e.dat = false) := HK0.out.1 ck
          clear ck
          cases major with
          | true =>
            have HF5 : Hid ((5 : Int) = fateN (mt fs) clock true low m e.dat) := by unfold Hid; rw [HFn2.out, hp.out]; rfl
            obtain ⟨y0, y1, y2, y3, y4, y5, y6⟩ := HC.out _ B4.out
            obtain ⟨z0, z1, z2, z3, z4, z5, z6⟩ := (HFk.out _ B4.out).z
            obtain ⟨f0, f1, f2, f3, f4, f5, f6⟩ := (HFk.out _ B4.out).f
            have HBr := Lib.hid (HUp.out _ B4.out)
            go_wp2
            refine bodyPost_ret (v := .tuple #[.agg #[.slice a1 e.row.length n1, .int .i64 e.fam, .slice a2 e.qual.length n2, .int .i64 e.ts, .int .i64 e.seq, .int .i64 e.kind, .slice a3 e.val.length n3], .int .i64 5]) ?_ rfl ?_
            · simp [results, Tryz.results56, go_sem, z0, z1, z2, z3, z4, z5, z6]
            · exact ⟨_, e, by simp only [EntD.cells, HEe.out.1, HEe.out.2.1, HEe.out.2.2], FateP.same (HF5.out) HE.out (below7 HBr.out (by omega) _ _ _ _ _ _ _) (fun z => absurd z (by decide))⟩
          | false =>
            have HF5 : Hid ((0 : Int) = fateN (mt fs) clock false low m e.dat) := by unfold Hid; rw [HFn2.out, hp.out]; rfl
            have HSame : Hid (e.dat = fateE m e.dat) := by unfold Hid; rw [HSm.out, hp.out]; rfl
            obtain ⟨y0, y1, y2, y3, y4, y5, y6⟩ := HC.out _ B4.out
            obtain ⟨z0, z1, z2, z3, z4, z5, z6⟩ := (HFk.out _ B4.out).z
            obtain ⟨f0, f1, f2, f3, f4, f5, f6⟩ := (HFk.out _ B4.out).f
            have HBr := Lib.hid (HUp.out _ B4.out)
            go_wp2
            refine bodyPost_ret (v := .tuple #[.agg #[.slice a1 e.row.length n1, .int .i64 e.fam, .slice a2 e.qual.length n2, .int .i64 e.ts, .int .i64 e.seq, .int .i64 e.kind, .slice a3 e.val.length n3], .int .i64 0]) ?_ rfl ?_
            · simp [results, Tryz.results56, go_sem, z0, z1, z2, z3, z4, z5, z6]
            · exact ⟨_, e, by simp only [EntD.cells, HEe.out.1, HEe.out.2.1, HEe.out.2.2], FateP.same (HF5.out) HE.out (below7 HBr.out (by omega) _ _ _ _ _ _ _) (fun _ => HSame.out)⟩
        · have qk : (kk == 0) = false := by simpa using ck
          have hp : Hid (hasPut m e.dat = true) := by
            unfold Hid
            cases z : hasPut m e.dat with
            | true => rfl
            | false => exact absurd (HK0.out.2 z) ck
          have HFn3 : Hid (fateN (mt fs) clock major low m e.dat = if fd.mx < rk then 4 else 0) := by unfold Hid; rw [HFn2.out, hp.out]; rfl
          have HSm2 : Hid (fateE m e.dat = hk e.dat) := by unfold Hid; rw [HSm.out, hp.out]; rfl
          have HKe : Hid (kk = (hk e.dat).kind) := HKk.out (by first | exact trivial | rfl) hp.out
          clear ck HFn2
          have D0 : Below W.heap.size W w4.drew := B4.out.drew
          have HC2 : Hid (∀ Z, Below W.heap.size W Z → Z.cell? ⟨W0.heap.size, 0, none⟩ = some (.slice (some ⟨bf, of, none⟩) K fc) ∧ Z.cell? ⟨bf, of + kf * 3 + 1, none⟩ = some (.int .i64 fd.mx) ∧ Z.cell? ⟨X1.heap.size, 0, none⟩ = some (.slice a1 e.row.length n1) ∧ Z.cell? ⟨X1.heap.size, 1, none⟩ = some (.int .i64 (kf : Int)) ∧ Z.cell? ⟨X1.heap.size, 2, none⟩ = some (.slice a2 e.qual.length n2) ∧ Z.cell? ⟨X1.heap.size, 3, none⟩ = some (.int .i64 e.ts) ∧ Z.cell? ⟨X1.heap.size, 4, none⟩ = some (.int .i64 e.seq) ∧ Z.cell? ⟨X1.heap.size, 5, none⟩ = some (.int .i64 e.kind) ∧ Z.cell? ⟨X1.heap.size, 6, none⟩ = some (.slice a3 e.val.length n3)) := fun Z b => by
            obtain ⟨q0, q1, q2, q3, q4, q5, q6⟩ := HC.out Z b
            rw [HKf.out] at q1
            exact ⟨(HFk.out Z b).sc, HCf.out Z b, q0, q1, q2, q3, q4, q5, q6⟩
          rw [HKf.out] at HRk
          go_wp2_with fail
          go_region_held3 (fun Z => Z.cell? ⟨W0.heap.size, 0, none⟩ = some (.slice (some ⟨bf, of, none⟩) K fc) ∧ Z.cell? ⟨bf, of + kf * 3 + 1, none⟩ = some (.int .i64 fd.mx) ∧ Z.cell? ⟨X1.heap.size, 0, none⟩ = some (.slice a1 e.row.length n1) ∧ Z.cell? ⟨X1.heap.size, 1, none⟩ = some (.int .i64 (kf : Int)) ∧ Z.cell? ⟨X1.heap.size, 2, none⟩ = some (.slice a2 e.qual.length n2) ∧ Z.cell? ⟨X1.heap.size, 3, none⟩ = some (.int .i64 e.ts) ∧ Z.cell? ⟨X1.heap.size, 4, none⟩ = some (.int .i64 e.seq) ∧ Z.cell? ⟨X1.heap.size, 5, none⟩ = some (.int .i64 e.kind) ∧ Z.cell? ⟨X1.heap.size, 6, none⟩ = some (.slice a3 e.val.length n3)) (first | exact HC2.out _ D1 | exact HC2.out _ D0) ((go_at_call 88; refine Calls.mono (HRk.out _ D0) ?_; rintro e1 w5 ⟨rfl, hb1⟩; have D1 := D0.trans (hb1.mono D0.size)))
          have B5 := Lib.hid D1
          clear D0 D1 HRk HC2
          by_cases cr : fd.mx < rk
          · have qr : decide (fd.mx < rk) = true := decide_eq_true cr
            have HF5 : Hid ((4 : Int) = fateN (mt fs) clock major low m e.dat) := by unfold Hid; rw [HFn3.out, if_pos cr]
            obtain ⟨y0, y1, y2, y3, y4, y5, y6⟩ := HC.out _ B5.out
            rw [HKf.out] at y1
            obtain ⟨z0, z1, z2, z3, z4, z5, z6⟩ := (HFk.out _ B5.out).z
            obtain ⟨f0, f1, f2, f3, f4, f5, f6⟩ := (HFk.out _ B5.out).f
            have HBr := Lib.hid (HUp.out _ B5.out)
            go_wp2
            refine bodyPost_ret (v := .tuple #[.agg #[.slice a1 e.row.length n1, .int .i64 (kf : Int), .slice a2 e.qual.length n2, .int .i64 e.ts, .int .i64 e.seq, .int .i64 e.kind, .slice a3 e.val.length n3], .int .i64 4]) ?_ rfl ?_
            · simp [results, Tryz.results56, go_sem, z0, z1, z2, z3, z4, z5, z6]
            · exact ⟨_, e, by unfold EntD.cells; rw [HEe.out.1, HEe.out.2.1, HEe.out.2.2, HKf.out], FateP.same (HF5.out) HE.out (below7 HBr.out (by omega) _ _ _ _ _ _ _) (fun z => absurd z (by decide))⟩
          · have qr : decide (fd.mx < rk) = false := decide_eq_false cr
            have HF5 : Hid ((0 : Int) = fateN (mt fs) clock major low m e.dat) := by unfold Hid; rw [HFn3.out, if_neg cr]

            by_cases c2 : kk = 2
            · have q2 : (kk == 2) = true := by simpa using c2
              have Hk2 : Hid ((hk e.dat).kind = 2) := HKe.out.symm.trans c2
              clear c2 HKe HKk HK0 qk
              have HEb := Lib.hid (HFk.out _ B5.out)
              have y5 := HEb.out.be.kind
              have y6 := HEb.out.be.vv
              have g5 := HEb.out.be.fzA 5
              have g6 := HEb.out.be.fzA 6
              go_upto_region 30 with fail
              obtain ⟨X, hX⟩ : ∃ X : World, X = (w5.setCell ⟨X1.heap.size, 5, none⟩ (.int .i64 2)).setCell ⟨X1.heap.size, 6, none⟩ (.slice none 0 0) := ⟨_, rfl⟩
              have HKX : Hid (FK X W0.heap.size (W0.heap.size + 1) X1.heap.size (.slice (some ⟨bf, of, none⟩) K fc) ⟨e.vr, e.fam, e.vq, e.ts, e.seq, 2, .slice none 0 0, e.row, e.qual, []⟩) := by
                have k1 : ∀ g, g ≠ X1.heap.size → X.heap[g]? = w5.heap[g]? := fun g hg => by
                  rw [hX, Below.heap_setCell _ _ _ _ hg, Below.heap_setCell _ _ _ _ hg]
                refine ⟨?_, (k1 _ (by have := HS1.out; omega)).trans HEb.out.rz, ?_⟩
                · have := HEb.out.sc
                  unfold World.cell? at this ⊢
                  rw [k1 _ (show W0.heap.size ≠ X1.heap.size by have := HS1.out; omega)]
                  exact this
                · rw [hX]
                  exact (HEb.out.be.set5 2).set6 (.slice none 0 0) []
              have HBX : Hid (Below W0.heap.size W0 X) := by
                unfold Hid
                rw [hX]
                exact ((HUp.out _ B5.out).setCell (p := ⟨X1.heap.size, 5, none⟩) (by have := HS1.out; show W0.heap.size ≤ X1.heap.size; omega) _).setCell (p := ⟨X1.heap.size, 6, none⟩) (by have := HS1.out; show W0.heap.size ≤ X1.heap.size; omega) _
              rw [← hX]
              clear hX y5 y6 g5 g6
              obtain ⟨y0, y1, y2, y3, y4, y5, y6⟩ := HKX.out.be.cells7
              rw [HEe.out.1] at y0
              rw [HEe.out.2.1] at y2
              obtain ⟨z0, z1, z2, z3, z4, z5, z6⟩ := HKX.out.z
              obtain ⟨f0, f1, f2, f3, f4, f5, f6⟩ := HKX.out.f
              have HDt := Lib.hid (husk_dat HVa.out Hk2.out)
              have HBb := Lib.hid ( below7 (gr := W0.heap.size + 1) HBX.out (by omega) (.slice a1 e.row.length n1) (.int .i64 e.fam) (.slice a2 e.qual.length n2) (.int .i64 e.ts) (.int .i64 e.seq) (.int .i64 2) (.slice none 0 0))
              go_wp2
              refine bodyPost_ret (v := .tuple #[.agg #[.slice a1 e.row.length n1, .int .i64 e.fam, .slice a2 e.qual.length n2, .int .i64 e.ts, .int .i64 e.seq, .int .i64 2, .slice none 0 0], .int .i64 0]) ?_ rfl ?_
              · simp [results, Tryz.results56, go_sem, z0, z1, z2, z3, z4, z5, z6]
              · exact ⟨_, ⟨e.vr, e.fam, e.vq, e.ts, e.seq, 2, .slice none 0 0, e.row, e.qual, []⟩, by simp only [EntD.cells, HEe.out.1, HEe.out.2.1], HF5.out, ⟨(HE.out.later HBb.out).1, (HE.out.later HBb.out).2.1, rd_none _⟩, ⟨rfl, rfl, .inr rfl⟩, fun _ => HDt.out.trans HSm2.out.symm, HBb.out⟩
            · have q2 : (kk == 2) = false := by simpa using c2
              have HSame : Hid (e.dat = fateE m e.dat) := by
                unfold Hid
                rw [HSm2.out]
                rcases (hk_eq e.dat).2.2.2.2.2.2 with ⟨_, q⟩ | ⟨q, _⟩
                · exact absurd (HKe.out.trans q) c2
                · unfold hk; rw [if_neg q]
              clear c2
              obtain ⟨y0, y1, y2, y3, y4, y5, y6⟩ := HC.out _ B5.out
              rw [HKf.out] at y1
              obtain ⟨z0, z1, z2, z3, z4, z5, z6⟩ := (HFk.out _ B5.out).z
              obtain ⟨f0, f1, f2, f3, f4, f5, f6⟩ := (HFk.out _ B5.out).f
              have HBr := Lib.hid (HUp.out _ B5.out)
              go_wp2
              refine bodyPost_ret (v := .tuple #[.agg #[.slice a1 e.row.length n1, .int .i64 (kf : Int), .slice a2 e.qual.length n2, .int .i64 e.ts, .int .i64 e.seq, .int .i64 e.kind, .slice a3 e.val.length n3], .int .i64 0]) ?_ rfl ?_
              · simp [results, Tryz.results56, go_sem, z0, z1, z2, z3, z4, z5, z6]
              · exact ⟨_, e, by unfold EntD.cells; rw [HEe.out.1, HEe.out.2.1, HEe.out.2.2, HKf.out], FateP.same (HF5.out) HE.out (below7 HBr.out (by omega) _ _ _ _ _ _ _) (fun _ => HSame.out)⟩
end Go.Proofs.YtganmnckdmkcbaaGreat
