import Derived.Test.YtemdhpjoakldhaaJ25
import Derived.Test.YtemdhpjoakldhaaJ24
import Derived.Test.YtemdhpjoakldhaaJ09
import Derived.Test.YtemdhpjoakldhaaChecked
namespace Go.Proofs.Ytemdhpjoakldhaa
open Go.RowKit
set_option linter.unusedVariables false

/-- What RetainCollects finds of an entry that is left. -/
structure CF (fs : List FamD) (low : Int) (zs vs : List EntD) (x : EntD) : Prop where
  f0 : 0 ≤ x.fam
  fK : x.fam < fs.length
  k1 : 1 ≤ x.kind
  k5 : x.kind ≤ 5
  k3 : x.kind ≠ 3
  v2 : x.kind = 2 → x.val = []
  t4 : 4 ≤ x.kind → low < x.ts
  put : x.kind = 1 → ∃ y ∈ vs, hit y.dat x.dat
  col : ((zs.filter fun y => decide (y.kind ≤ 2) && mates y.dat x.dat).length : Int) ≤ (famAt (mt fs) x.fam).1
theorem famAt_nn {fs : List FamD} (h : SchemaOk fs) (i : Int) : 0 ≤ (famAt (mt fs) i).1 := by
  unfold famAt mt
  rw [List.getD_eq_getElem?_getD, List.getElem?_map]
  cases hf : fs[i.toNat]? with
  | none => simp
  | some f =>
    have := (h.2 i.toNat f hf).1.2.1.1
    simp
    omega
theorem filter_dat (zs : List EntD) (P : En → Bool) : (zs.filter fun y => P y.dat).map EntD.dat = (zs.map EntD.dat).filter P := by
  rw [List.filter_map]
  rfl
theorem cf_of {fs : List FamD} {clock low : Int} {l zs vs : List EntD} {m : List En} (hC : SchemaOk fs) (ho : IsOrd fs.length (l.map EntD.dat) m) (dz : zs.map EntD.dat = outS true low (verdictsS (mt fs) clock m)) (dv : vs.map EntD.dat = (m.filter fun x => shw 1099511627776 (sv (mt fs) clock m x)).map (tld m)) :
    (∀ x ∈ zs, CF fs low zs vs x) ∧ (zs.filter fun y => decide (y.kind = 1)).length = vs.length := by
  have hL := ho.left (fs := mt fs) (clock := clock) (low := low) true
  have e0 : zs.map EntD.dat = leftL (mt fs) clock m true low := dz.trans (out_tld ho.ah ho.va true low)
  have hts : ∀ e ∈ m, e.ts ≤ 1099511627776 := fun e he => by
    have := (check_zero.1 (ho.ck e he)).1.2.2.2.1
    simp only [EntD.ofEn] at this
    omega
  have hp := collects_puts (fs := mt fs) (clock := clock) (low := low) hts
  rw [← dv, ← e0, ← filter_dat] at hp
  refine ⟨fun x hx => ?_, ?_⟩
  · have xm : x.dat ∈ zs.map EntD.dat := List.mem_map_of_mem hx
    have xL : x.dat ∈ leftL (mt fs) clock m true low := e0 ▸ xm
    have ck := check_zero.1 (hL.ck x.dat (dz ▸ xm))
    simp only [EntD.ofEn, EntD.dat] at ck
    have kk := collects_kind ho.va xL
    refine ⟨?_, ?_, ?_, ?_, kk.1, kk.2.1, kk.2.2, fun z => ?_, ?_⟩
    · have := ck.1.2.1; omega
    · have := ck.2; omega
    · have := ck.1.2.2.2.2.2.1; omega
    · have := ck.1.2.2.2.2.2.1; omega
    · have : x ∈ zs.filter fun y => decide (y.kind = 1) := List.mem_filter.2 ⟨hx, by simpa using z⟩
      have hm : x.dat ∈ vs.map EntD.dat := by
        rw [← hp]
        exact List.mem_map_of_mem this
      obtain ⟨y, hy, e⟩ := List.mem_map.1 hm
      exact ⟨y, hy, by rw [e]; exact ⟨rfl, rfl, rfl, rfl, rfl, rfl⟩⟩
    · have := collects_col (low := low) ho.ah ho.va x.dat (famAt_nn hC x.fam) (clock := clock)
      rw [← e0, ← filter_dat, List.length_map] at this
      exact this
  · have := congrArg List.length hp
    rw [List.length_map, List.length_map] at this
    exact this
end Go.Proofs.Ytemdhpjoakldhaa

namespace Go.Proofs.Ytemdhpjoakldhaa
open Go.RowKit
set_option linter.unusedVariables false

/-- What the law counts: of x's column, puts and husks. -/
def cndC (x y : EntD) : Bool := decide (y.kind ≤ 2) && decide (x.kind ≤ 2) && mates y.dat x.dat
set_option maxRecDepth 100000 in
set_option maxHeartbeats 8000000 in
theorem retainCollects_walk {W : World} {fa : Option Addr} {n fc : Nat} {fs : List FamD} (hr : RdF W (.slice fa n fc) fs) (hn : fa = none → fc = 0) (clock low : Int) {v : Value} {l : List EntD} (h0 : RdE3 W v l) :
    Calls Try.prog 7 #[.agg #[.slice fa n fc], .int .i64 clock, .int .i64 low, v] W fun e w' => e = .returned (.bool true) ∧ Below W.heap.size W w' := by
  obtain ⟨a, cap, rfl, h0, hl⟩ := h0
  obtain ⟨C, hC⟩ : ∃ C : Nat, (C = 0 ↔ SchemaOk fs) ∧ (C = 0 ∨ C = 28) := by
    by_cases h : SchemaOk fs
    · exact ⟨0, ⟨fun _ => h, fun _ => rfl⟩, .inl rfl⟩
    · exact ⟨28, ⟨(fun z => by cases z), fun z => absurd z h⟩, .inr rfl⟩
  obtain rfl : n = fs.length := by
    obtain ⟨_, _, e, _⟩ := hr
    simp only [Value.slice.injEq] at e
    exact e.2.1
  have HR := Lib.hid hr
  have H0 := Lib.hid h0
  have HC := Lib.hid hC
  clear hr h0 hC
  obtain ⟨N, hN⟩ : ∃ N, N = l.length := ⟨_, rfl⟩
  obtain ⟨K, hK⟩ : ∃ K, K = fs.length := ⟨_, rfl⟩
  have HL : Hid (l.length ≤ 1353245080300) := hl
  rw [← hN, ← hK]
  obtain ⟨X0, hX0⟩ : ∃ X0, X0 = W.alloc (.cells #[.slice fa K fc] 24) := ⟨_, rfl⟩
  have A1 : Below W.heap.size W X0 := by rw [hX0]; exact (Below.refl _ _).alloc (Nat.le_refl _) _
  have hcell : X0.cell? ⟨W.heap.size, 0, none⟩ = some (.slice fa K fc) := by rw [hX0]; exact cell_at9 (heap_new9 _ _ rfl) rfl
  have HCell : Hid (∀ Z, Below X0.heap.size X0 Z → Z.cell? ⟨W.heap.size, 0, none⟩ = some (.slice fa K fc)) := fun Z b => (b.cell (p := ⟨W.heap.size, 0, none⟩) (World.block_lt_of_cell? _ _ hcell)).trans hcell
  have HA1 := Lib.hid A1
  have HX0 := Lib.hid hX0
  clear hX0 A1 hcell
  have HG := Lib.hid (fun (Z : World) (b : Below X0.heap.size X0 Z) major (hE : squashE C fs clock low l = 0) => squash_good (HR.out.later (HA1.out.trans (b.mono HA1.out.size))) hn C HC.out clock low major (H0.out.later (HA1.out.trans (b.mono HA1.out.size))) HL.out hE)
  have HBd := Lib.hid (fun (Z : World) (b : Below X0.heap.size X0 Z) major (hE : squashE C fs clock low l ≠ 0) => squash_bad (HR.out.later (HA1.out.trans (b.mono HA1.out.size))) hn C HC.out clock low major (H0.out.later (HA1.out.trans (b.mono HA1.out.size))) HL.out hE)
  have HVg := Lib.hid (fun (Z : World) (b : Below X0.heap.size X0 Z) (hE : squashE C fs clock low l = 0) => vis_good (HR.out.later (HA1.out.trans (b.mono HA1.out.size))) hn C HC.out clock (H0.out.later (HA1.out.trans (b.mono HA1.out.size))) HL.out (vis_of_squash hE))
  rw [← hN, ← hK] at HG HBd HVg
  have HK := Lib.hid hK
  have HL2 : Hid (N ≤ 1353245080300) := by unfold Hid; rw [hN]; exact HL.out
  clear hl hN hK
  go_enter Try.func7, Try.ntmps7
  go_wp2_with fail
  rw [← HX0.out]
  refine Calls.mono (started3 _) ?_
  rintro e1 w1 ⟨rfl, b1⟩
  have B1 := Lib.hid b1
  have s1 := HCell.out _ b1
  clear b1
  by_cases hE : squashE C fs clock low l = 0
  · have HE := Lib.hid hE
    clear hE
    go_wp2_with fail
    refine Calls.mono (HG.out _ B1.out true HE.out) ?_
    rintro e1 w2 ⟨b2, zs, m, a2, c2, ho, rfl, rd2, dz, ln2⟩
    rw [HK.out] at ho
    have B2 := Lib.hid (B1.out.trans (b2.mono B1.out.size))
    have s2 := HCell.out _ B2.out
    have F2 := Lib.hid (And.intro ho (And.intro rd2 (And.intro dz ln2)))
    clear b2 ho rd2 dz ln2
    go_wp2_with (go_at_call 15; refine (num_sym _ _).mono ?_; rintro e1 wn ⟨rfl, rfl⟩)
    refine Calls.mono (HVg.out _ B2.out HE.out) ?_
    rintro e1 w3 ⟨b3, vs, m', a3, c3, ho3, rfl, rd3, dv, ln3⟩
    rw [HK.out] at ho3
    have em := ho3.unique F2.out.1
    subst em
    have B3 := Lib.hid (B2.out.trans (b3.mono B2.out.size))
    have s3 := HCell.out _ B3.out
    have F3 := Lib.hid (And.intro (F2.out.2.1.later b3) (And.intro rd3 (And.intro dv ln3)))
    clear b3 ho3 rd3 dv ln3
    go_wp2_with (go_at_call 15; refine (num_sym _ _).mono ?_; rintro e1 wn ⟨rfl, rfl⟩)
    have hS : SchemaOk fs := HC.out.1.1 (vis_zero (vis_of_squash HE.out)).1
    obtain ⟨hcf, hput⟩ := cf_of hS F2.out.1 F2.out.2.2.1 F3.out.2.2.1
    obtain ⟨M, hM⟩ : ∃ M, M = zs.length := ⟨_, rfl⟩
    obtain ⟨Q, hQ⟩ : ∃ Q, Q = vs.length := ⟨_, rfl⟩
    have HCF := Lib.hid hcf
    have HPut := Lib.hid hput
    have mL : M ≤ 1353245080300 := by rw [hM]; exact Nat.le_trans F2.out.2.2.2 HL2.out
    have mC : M ≤ c2 := by rw [hM]; exact F2.out.2.1.cap.1
    have HSO := Lib.hid hS
    have HRm : Hid (∀ Z, Below w3.heap.size w3 Z → RdL3 Z a2 c2 zs) := fun Z b => F3.out.1.later b
    have HSh : Hid (∀ Z, Below w3.heap.size w3 Z → ∀ x ∈ zs, x.kind = 1 → Calls Try.prog 20 #[.slice a3 Q c3, .agg x.cells] Z fun r w' => r = .returned (.bool true) ∧ Below Z.heap.size Z w') := fun Z b x hx hk => by
      rw [hQ]
      refine Calls.mono (shown_any (F3.out.2.1.later b) ((F3.out.1.later b).ok x hx) (Nat.le_trans F3.out.2.2.2 HL2.out)) ?_
      rintro r w' ⟨q, rfl, hq, hb⟩
      rw [hq.2 ((hcf x hx).put hk)]
      exact ⟨rfl, hb⟩
    have HSc : Hid (∀ Z, Below w3.heap.size w3 Z → Z.cell? ⟨W.heap.size, 0, none⟩ = some (.slice fa K fc)) := fun Z b => HCell.out _ (B3.out.trans (b.mono B3.out.size))
    have HRf : Hid (∀ Z, Below w3.heap.size w3 Z → RdF Z (.slice fa fs.length fc) fs) := fun Z b => HR.out.later (HA1.out.trans ((B3.out.trans (b.mono B3.out.size)).mono HA1.out.size))
    have KW := Lib.hid (HA1.out.trans (B3.out.mono HA1.out.size))
    have HM := Lib.hid hM
    have HQ := Lib.hid hQ
    rw [← hM, ← hQ]
    clear hS hcf hput hM hQ F2 F3 B1 B2 B3 s1 s2 s3 HG HBd HVg
    go_loopw [9, 14, 15, 16, 17] (fun ok p i _ _ wr => ∃ t : Nat, t ≤ M ∧ ok = .bool true ∧ p = .int .i64 (((zs.take t).filter fun y => decide (y.kind = 1)).length : Int) ∧ i = .int .i64 (t : Int) ∧ Hid (Below w3.heap.size w3 wr)) (fun _ _ i _ _ _ => M - (intOf i).toNat)
    case atStart => exact ⟨0, Nat.zero_le _, rfl, by simp, rfl, Below.refl _ _⟩
    case round =>
      obtain ⟨t, ht, rfl, rfl, rfl, HBw⟩ := hrel
      have t0 : (0 : Int) ≤ (t : Int) := by omega
      obtain ⟨pc, hpc⟩ : ∃ pc : Nat, pc = ((zs.take t).filter fun y => decide (y.kind = 1)).length := ⟨_, rfl⟩
      rw [← hpc]
      have HPc := Lib.hid hpc
      clear hpc
      by_cases hlt : t < M
      · have hlt2 : (t : Int) < (M : Int) := by omega
        obtain ⟨x, hx⟩ : ∃ x, zs[t]? = some x := ⟨zs[t]'(by rw [← HM.out]; exact hlt), List.getElem?_eq_getElem _⟩
        obtain ⟨ba, oa, rfl⟩ : ∃ b off, a2 = some ⟨b, off, none⟩ := by
          rcases (HRm.out _ HBw.out).at_ with h0 | ⟨b, off, q, _⟩
          · rw [h0] at hx; simp at hx
          · exact ⟨b, off, q⟩
        have hcx := HCF.out x (List.mem_of_getElem? hx)
        have HXm := Lib.hid hx
        have HCx := Lib.hid hcx
        have f0 := hcx.f0
        have fK : x.fam < (K : Int) := by rw [HK.out]; exact hcx.fK
        have u1 := (HRm.out _ HBw.out).cells (Below.refl _ _) hx 1 _ rfl
        have sc := HSc.out _ HBw.out
        obtain ⟨kf, hkf⟩ : ∃ kf : Nat, x.fam = (kf : Int) := ⟨x.fam.toNat, by omega⟩
        have hkl : kf < fs.length := by rw [← HK.out]; omega
        obtain ⟨fd, hfd⟩ : ∃ fd, fs[kf]? = some fd := ⟨fs[kf], List.getElem?_eq_getElem _⟩
        have HKl : Hid (kf < K) := by unfold Hid; omega
        have HMx : Hid (x.kind ≤ 2 → ((zs.filter (cndC x)).length : Int) ≤ fd.mx) := fun h2 => by
          have e : zs.filter (cndC x) = zs.filter fun y => decide (y.kind ≤ 2) && mates y.dat x.dat := by
            apply List.filter_congr
            intro y _
            simp [cndC, h2]
          have e2 : (famAt (mt fs) x.fam).1 = fd.mx := by
            unfold famAt mt
            rw [hkf, List.getD_eq_getElem?_getD, List.getElem?_map]
            simp [hfd]
          rw [e, ← e2]
          exact hcx.col
        obtain ⟨fb, fo, rfl⟩ : ∃ b off, fa = some ⟨b, off, none⟩ := by
          obtain ⟨a', c', e, _, _, _, h5⟩ := HRf.out _ HBw.out
          rcases h5 with h5 | ⟨b, off, q, _⟩
          · rw [h5] at hfd; simp at hfd
          · simp only [Value.slice.injEq] at e
            exact ⟨b, off, e.1.trans q⟩
        have HCs : Hid (∀ Z, Below w3.heap.size w3 Z → (Z.cell? ⟨ba, oa + t * 7, none⟩ = some x.vr ∧ Z.cell? ⟨ba, oa + t * 7 + 1, none⟩ = some (.int .i64 (kf : Int)) ∧ Z.cell? ⟨ba, oa + t * 7 + 2, none⟩ = some x.vq ∧ Z.cell? ⟨ba, oa + t * 7 + 3, none⟩ = some (.int .i64 x.ts) ∧ Z.cell? ⟨ba, oa + t * 7 + 4, none⟩ = some (.int .i64 x.seq) ∧ Z.cell? ⟨ba, oa + t * 7 + 5, none⟩ = some (.int .i64 x.kind) ∧ Z.cell? ⟨ba, oa + t * 7 + 6, none⟩ = some x.vv) ∧ Z.cell? ⟨W.heap.size, 0, none⟩ = some (.slice (some ⟨fb, fo, none⟩) K fc) ∧ Z.cell? ⟨fb, fo + kf * 3 + 1, none⟩ = some (.int .i64 fd.mx)) := fun Z b => by
          have cx := (HRm.out _ b).cells (Below.refl _ _) hx
          have y1 := cx 1 _ rfl
          rw [hkf] at y1
          refine ⟨⟨by have := cx 0 _ rfl; simpa using this, y1, cx 2 _ rfl, cx 3 _ rfl, cx 4 _ rfl, cx 5 _ rfl, cx 6 _ rfl⟩, HSc.out _ b, ?_⟩
          obtain ⟨a', c', e, _, _, _, h5⟩ := HRf.out _ b
          rcases h5 with h5 | ⟨b', off', q, hc⟩
          · rw [h5] at hfd; simp at hfd
          · simp only [Value.slice.injEq] at e
            have := e.1.trans q
            cases this
            exact (hc kf fd hfd).2.1
        have HKf := Lib.hid hkf
        clear hkf hkl hfd
        have n1 : ¬ x.fam < 0 := by omega
        have n2 : ¬ (K : Int) ≤ x.fam := by omega
        clear hx hcx
        go_wp2_with fail
        go_quiet (fail)
        go_wp2
        go_loopw [16, 17] (fun n k wq => ∃ u : Nat, u ≤ M ∧ n = .int .i64 (((zs.take u).filter (cndC x)).length : Int) ∧ k = .int .i64 (u : Int) ∧ Hid (Below w3.heap.size w3 wq)) (fun _ k _ => M - (intOf k).toNat)
        case atStart => exact ⟨0, Nat.zero_le _, by simp, rfl, below_drewN HBw.out _⟩
        case round =>
          obtain ⟨u, hu, rfl, rfl, HBq⟩ := hrel
          have v0 : (0 : Int) ≤ (u : Int) := by omega
          obtain ⟨nu, hnu⟩ : ∃ nu : Nat, nu = ((zs.take u).filter (cndC x)).length := ⟨_, rfl⟩
          rw [← hnu]
          have nuM : nu ≤ 1353245080300 := by
            rw [hnu]
            refine Nat.le_trans (List.length_filter_le _ _) (Nat.le_trans (List.length_take_le' _ _) ?_)
            rw [← HM.out]; exact mL
          have HNu := Lib.hid hnu
          clear hnu
          by_cases hlu : u < M
          · have hlu2 : (u : Int) < (M : Int) := by omega
            obtain ⟨y, hy⟩ : ∃ y, zs[u]? = some y := ⟨zs[u]'(by rw [← HM.out]; exact hlu), List.getElem?_eq_getElem _⟩
            have HYm := Lib.hid hy
            have cy := (HRm.out _ HBq.out).cells (Below.refl _ _) hy
            have cx := (HRm.out _ HBq.out).cells (Below.refl _ _) HXm.out
            have y0 := cy 0 _ rfl
            have y1 := cy 1 _ rfl
            have y2 := cy 2 _ rfl
            have y5 := cy 5 _ rfl
            have x0 := cx 0 _ rfl
            have x1 := cx 1 _ rfl
            have x2 := cx 2 _ rfl
            have x5 := cx 5 _ rfl
            simp only [Nat.add_zero] at y0 x0
            have HAr : Hid (∀ Z, Below wr.heap.size wr Z → Calls Try.prog 19 #[y.vr, x.vr] Z fun r w' => r = .returned (.bool (decide (y.row = x.row))) ∧ w' = Z) := fun Z b => by
              have k := HRm.out _ (HBq.out.trans (b.mono HBq.out.size))
              exact alike_any (k.ok y (List.mem_of_getElem? HYm.out)).1 (k.ok x (List.mem_of_getElem? HXm.out)).1
            have HAq : Hid (∀ Z, Below wr.heap.size wr Z → Calls Try.prog 19 #[y.vq, x.vq] Z fun r w' => r = .returned (.bool (decide (y.qual = x.qual))) ∧ w' = Z) := fun Z b => by
              have k := HRm.out _ (HBq.out.trans (b.mono HBq.out.size))
              exact alike_any (k.ok y (List.mem_of_getElem? HYm.out)).2.1 (k.ok x (List.mem_of_getElem? HXm.out)).2.1
            have HNo : Hid (cndC x y = false → ((zs.take (u + 1)).filter (cndC x)).length = nu) := fun h => by
              rw [List.take_add_one, HYm.out, List.filter_append, List.length_append, ← HNu.out]
              simp [h]
            have HYes : Hid (cndC x y = true → ((zs.take (u + 1)).filter (cndC x)).length = nu + 1) := fun h => by
              rw [List.take_add_one, HYm.out, List.filter_append, List.length_append, ← HNu.out]
              simp [h]
            clear hy cy cx
            by_cases c0 : y.kind ≤ 2
            · by_cases c1 : x.kind ≤ 2
              · by_cases c2 : y.fam = x.fam
                · by_cases c3 : y.row = x.row
                  · rw [decide_eq_true c3] at HAr
                    by_cases c4 : y.qual = x.qual
                    · rw [decide_eq_true c4] at HAq
                      have q9 := Lib.hid (HYes.out (by simp [cndC, c0, c1, mates, EntD.dat, c2, c3, c4]))
                      have nw : IntKind.i64.wrap ((nu : Int) + 1) = (nu : Int) + 1 := by simp [IntKind.wrap, IntKind.bits, IntKind.signed]; omega
                      go_wp2_with fail
                      go_quiet (first | (go_at_call 19; with_reducible exact Calls.quiet_of_same (HAr.out _ (below_dn (Below.refl _ _) _))) | (go_at_call 19; with_reducible exact Calls.quiet_of_same (HAq.out _ (below_dn (Below.refl _ _) _))))
                      go_wp2
                      go_roundw
                      case rel => exact ⟨u + 1, by omega, by rw [q9.out]; go_num, by go_num, below_drewN HBq.out _⟩
                      case measure => simp only [intOf]; omega
                    · rw [decide_eq_false c4] at HAq
                      have q9 := Lib.hid (HNo.out (by simp [cndC, mates, EntD.dat, c4]))
                      go_wp2_with fail
                      go_quiet (first | (go_at_call 19; with_reducible exact Calls.quiet_of_same (HAr.out _ (below_dn (Below.refl _ _) _))) | (go_at_call 19; with_reducible exact Calls.quiet_of_same (HAq.out _ (below_dn (Below.refl _ _) _))))
                      go_wp2
                      go_roundw
                      case rel => exact ⟨u + 1, by omega, by rw [q9.out], by go_num, below_drewN HBq.out _⟩
                      case measure => simp only [intOf]; omega
                  · rw [decide_eq_false c3] at HAr
                    have q9 := Lib.hid (HNo.out (by simp [cndC, mates, EntD.dat, c3]))
                    go_wp2_with fail
                    go_quiet (first | (go_at_call 19; with_reducible exact Calls.quiet_of_same (HAr.out _ (below_dn (Below.refl _ _) _))) | (go_at_call 19; with_reducible exact Calls.quiet_of_same (HAq.out _ (below_dn (Below.refl _ _) _))))
                    go_wp2
                    go_roundw
                    case rel => exact ⟨u + 1, by omega, by rw [q9.out], by go_num, below_drewN HBq.out _⟩
                    case measure => simp only [intOf]; omega
                · have c9 : (y.fam == x.fam) = false := by simpa using c2
                  have q9 := Lib.hid (HNo.out (by simp [cndC, mates, EntD.dat, c2]))
                  go_wp2_with fail
                  go_quiet (first | (go_at_call 19; with_reducible exact Calls.quiet_of_same (HAr.out _ (below_dn (Below.refl _ _) _))) | (go_at_call 19; with_reducible exact Calls.quiet_of_same (HAq.out _ (below_dn (Below.refl _ _) _))))
                  go_wp2
                  go_roundw
                  case rel => exact ⟨u + 1, by omega, by rw [q9.out], by go_num, below_drewN HBq.out _⟩
                  case measure => simp only [intOf]; omega
              · have c9 : decide (x.kind ≤ 2) = false := by simpa using c1
                have q9 := Lib.hid (HNo.out (by simp [cndC, c1]))
                go_wp2_with fail
                go_quiet (first | (go_at_call 19; with_reducible exact Calls.quiet_of_same (HAr.out _ (below_dn (Below.refl _ _) _))) | (go_at_call 19; with_reducible exact Calls.quiet_of_same (HAq.out _ (below_dn (Below.refl _ _) _))))
                go_wp2
                go_roundw
                case rel => exact ⟨u + 1, by omega, by rw [q9.out], by go_num, below_drewN HBq.out _⟩
                case measure => simp only [intOf]; omega
            · have c9 : decide (y.kind ≤ 2) = false := by simpa using c0
              have q9 := Lib.hid (HNo.out (by simp [cndC, c0]))
              go_wp2_with fail
              go_quiet (first | (go_at_call 19; with_reducible exact Calls.quiet_of_same (HAr.out _ (below_dn (Below.refl _ _) _))) | (go_at_call 19; with_reducible exact Calls.quiet_of_same (HAq.out _ (below_dn (Below.refl _ _) _))))
              go_wp2
              go_roundw
              case rel => exact ⟨u + 1, by omega, by rw [q9.out], by go_num, below_drewN HBq.out _⟩
              case measure => simp only [intOf]; omega
          · have hgu : ¬ (u : Int) < (M : Int) := by omega
            have eu : u = M := by omega
            have HEnd : Hid (nu = (zs.filter (cndC x)).length) := by
              unfold Hid
              rw [HNu.out, eu, List.take_of_length_le (by rw [← HM.out]; omega)]
            have HP1 : Hid (x.kind = 1 → ((zs.take (t + 1)).filter fun y => decide (y.kind = 1)).length = pc + 1) := fun h => by
              rw [List.take_add_one, HXm.out, List.filter_append, List.length_append, ← HPc.out]
              simp [h]
            have HP0 : Hid (x.kind ≠ 1 → ((zs.take (t + 1)).filter fun y => decide (y.kind = 1)).length = pc) := fun h => by
              rw [List.take_add_one, HXm.out, List.filter_append, List.length_append, ← HPc.out]
              simp [h]
            have pcM : pc ≤ 1353245080300 := by
              rw [HPc.out]
              refine Nat.le_trans (List.length_filter_le _ _) (Nat.le_trans (List.length_take_le' _ _) ?_)
              rw [← HM.out]; exact mL
            obtain ⟨⟨y0, y1, y2, y3, y4, y5, y6⟩, ysc, ymx⟩ := HCs.out _ HBq.out
            have kK : (kf : Int) < (K : Int) := by have := HKl.out; omega
            have kf0 : (0 : Int) ≤ (kf : Int) := by omega
            clear eu u1 sc
            by_cases k1 : x.kind = 1
            · have k9 : (x.kind == 1) = true := by simpa using k1
              have q2 : decide (x.kind ≤ 2) = true := by simp [k1]
              have nmx : ¬ fd.mx < (nu : Int) := by have := HMx.out (by omega); rw [← HEnd.out] at this; omega
              have HK1 := Lib.hid k1
              have pw : IntKind.i64.wrap ((pc : Int) + 1) = (pc : Int) + 1 := by simp [IntKind.wrap, IntKind.bits, IntKind.signed]; omega
              have HShx := Lib.hid (HSh.out _ HBq.out x (List.mem_of_getElem? HXm.out) k1)
              unfold EntD.cells at HShx
              rw [HKf.out] at HShx
              clear k1
              go_wp2_with fail
              refine Calls.mono HShx.out ?_
              rintro r w4 ⟨rfl, b4⟩
              have B4 := Lib.hid (HBq.out.trans (b4.mono HBq.out.size))
              clear b4 y0 y1 y2 y3 y4 y5 y6 ysc ymx HShx
              obtain ⟨⟨y0, y1, y2, y3, y4, y5, y6⟩, ysc, ymx⟩ := HCs.out _ B4.out
              go_wp2_with fail
              go_quiet (fail)
              go_wp2
              go_roundw
              case rel => exact ⟨t + 1, by omega, rfl, by rw [HP1.out HK1.out]; go_num, by go_num, below_drewN B4.out _⟩
              case measure => simp only [intOf]; omega
            · have HK1 := Lib.hid k1
              have k9 : (x.kind == 1) = false := by simpa using k1
              by_cases k2 : x.kind = 2
              · have k8 : (x.kind == 2) = true := by simpa using k2
                have q2 : decide (x.kind ≤ 2) = true := by simp [k2]
                have nmx : ¬ fd.mx < (nu : Int) := by have := HMx.out (by omega); rw [← HEnd.out] at this; omega
                obtain ⟨_, a3', n3, e3, -⟩ := ((HRm.out _ HBq.out).ok x (List.mem_of_getElem? HXm.out)).2.2
                rw [HCx.out.v2 k2] at e3
                rw [e3] at y6
                clear k1 k2 e3
                go_wp2_with fail
                go_quiet (fail)
                go_wp2
                go_roundw
                case rel => exact ⟨t + 1, by omega, rfl, by rw [HP0.out HK1.out], by go_num, below_drewN HBq.out _⟩
                case measure => simp only [intOf]; omega
              · have k8 : (x.kind == 2) = false := by simpa using k2
                have k7 : (x.kind == 3) = false := by simpa using HCx.out.k3
                have q2 : decide (x.kind ≤ 2) = false := by
                  have := HCx.out.k1
                  simp only [decide_eq_false_iff_not]
                  omega
                have tl : low < x.ts := HCx.out.t4 (by have := HCx.out.k1; have := HCx.out.k3; omega)
                clear k1 k2
                go_wp2_with fail
                go_quiet (fail)
                go_wp2
                go_roundw
                case rel => exact ⟨t + 1, by omega, rfl, by rw [HP0.out HK1.out], by go_num, below_drewN HBq.out _⟩
                case measure => simp only [intOf]; omega
      · have hgt : ¬ (t : Int) < (M : Int) := by omega
        have HF : Hid (pc = Q) := by
          unfold Hid
          rw [HPc.out, List.take_of_length_le (by rw [← HM.out]; omega), HPut.out, HQ.out]
        obtain rfl : pc = Q := HF.out
        go_wp2
        go_ret
        exact ⟨rfl, KW.out.trans (HBw.out.mono KW.out.size)⟩
  · have HE := Lib.hid hE
    go_wp2_with fail
    refine Calls.mono (HBd.out _ B1.out true hE) ?_
    rintro e1 w2 ⟨b2, rfl⟩
    have B2 := Lib.hid (HA1.out.trans ((B1.out.trans (b2.mono B1.out.size)).mono HA1.out.size))
    have b0 : (squashE C fs clock low l != 0) = true := by simpa using hE
    clear b2 hE
    go_wp2_with (go_at_call 15; refine (num_sym _ _).mono ?_; rintro e1 wn ⟨rfl, rfl⟩)
    go_ret
    exact ⟨rfl, B2.out⟩
end Go.Proofs.Ytemdhpjoakldhaa

namespace Go.Proofs.Ytemdhpjoakldhaa
open Go.ChangeShapes Go.WideShapes Go.ChangeAt Go.RowKit
set_option linter.unusedVariables false

set_option maxRecDepth 100000 in
theorem und_family : Try.prog.underlying 47 = some (.struct #[{ name := "Name", type := 9, offset := 0, embedded := false, tag := "", pkgPath := "", byteOffset := 0 }, { name := "Max", type := 3, offset := 1, embedded := false, tag := "", pkgPath := "", byteOffset := 16 }, { name := "TTL", type := 3, offset := 2, embedded := false, tag := "", pkgPath := "", byteOffset := 24 }]) := by kernel_rfl
theorem und_schema : Try.prog.underlying 24 = some (.struct #[{ name := "Fams", type := 22, offset := 0, embedded := false, tag := "", pkgPath := "", byteOffset := 0 }]) := by kernel_rfl
theorem und_families : Try.prog.underlying 22 = some (.slice 47) := by kernel_rfl
theorem cells_family : Try.prog.cellsOf 47 = 3 := by kernel_rfl
theorem cells_families : Try.prog.cellsOf 22 = 1 := by kernel_rfl
theorem cells_schema : Try.prog.cellsOf 24 = 1 := by kernel_rfl
theorem cells_string : Try.prog.cellsOf 9 = 1 := by kernel_rfl

set_option maxRecDepth 100000 in
theorem open_family {H : Type} {enc : TypeId × Value → H} {W : World} {base fuel : Nat} {held : Bool} {cs : List Value} {x : DataW H × List MemPlace} (h : DataW.trod enc Try.prog W base (fun _ => true) held fuel 47 cs = some x) :
    ∃ f : FamD, cs = [.string f.nm, .int .i64 f.mx, .int .i64 f.tl] := by
  obtain ⟨xs, n, rfl, rfl, hcl, hxl, hf⟩ := DataW.trod_struct und_family h
  rw [cells_family] at hcl
  obtain ⟨c0, c1, c2, rfl⟩ : ∃ c0 c1 c2, cs = [c0, c1, c2] := by
    match cs, hcl with
    | [c0, c1, c2], _ => exact ⟨_, _, _, rfl⟩
  obtain ⟨x0, x1, x2, rfl⟩ : ∃ x0 x1 x2, xs = [x0, x1, x2] := by
    match xs, hxl with
    | [c0, c1, c2], _ => exact ⟨_, _, _, rfl⟩
  have f0 := hf 0 _ rfl
  have f1 := hf 1 _ rfl
  have f2 := hf 2 _ rfl
  simp [cells_int, cells_string] at f0 f1 f2
  obtain ⟨n1, e1, _, w1⟩ := DataW.trod_int und_int f1
  obtain ⟨n2, e2, _, w2⟩ := DataW.trod_int und_int f2
  obtain ⟨s0, e0, _, w0⟩ := DataW.trod_string und_string f0
  simp at e0 e1 e2
  subst e0 e1 e2
  exact ⟨⟨s0, n1, n2⟩, rfl⟩

set_option maxRecDepth 100000 in
/-- A schema that came in. -/
theorem open_schema {H : Type} {enc : TypeId × Value → H} {W : World} {base : Nat} {held : Bool} {v : Value} {d : DataW H} {p : List MemPlace} (h0 : DataW.Trod enc Try.prog W base (fun _ => true) held 24 v d p) (hv : ∃ cs, v = .agg cs ∧ cs.size = Try.prog.cellsOf 24)
    (hs : (d.weights Try.prog 24).all (fun x => decide (x ≤ reachBytes)) = true) :
    ∃ a n c fs, v = .agg #[.slice a n c] ∧ (a = none → c = 0) ∧ RdF W (.slice a n c) fs := by
  obtain ⟨csA, rfl, hcs⟩ := hv
  obtain ⟨fuel, h⟩ := h0
  obtain ⟨cs⟩ := csA
  simp only [Value.cells] at h
  obtain ⟨xs, n, hx, hdp, hcl, hxl, hf⟩ := DataW.trod_struct und_schema h
  simp only [Prod.mk.injEq] at hdp
  obtain ⟨rfl, rfl⟩ := hdp
  rw [cells_schema] at hcl
  obtain ⟨c0, rfl⟩ : ∃ c0, cs = [c0] := by
    match cs, hcl with
    | [c0], _ => exact ⟨_, rfl⟩
  obtain ⟨x0, rfl⟩ : ∃ x0, xs = [x0] := by
    match xs, hxl with
    | [c0], _ => exact ⟨_, rfl⟩
  have f0 := hf 0 _ rfl
  simp [cells_families] at f0
  obtain ⟨⟨a, n, c, rfl⟩, t0⟩ := slice_one und_families f0
  have hs2 : (DataW.weightsEach Try.prog [22] ([x0.1] ++ [])).all (fun x => decide (x ≤ reachBytes)) = true := by
    simp only [DataW.weights, und_schema] at hs
    simpa using hs
  obtain ⟨fuel2, hf2⟩ := t0
  rcases Deep.open_slice und_families hf2 with ⟨hcs, hx⟩ | ⟨x, l, c', m, k, D, Pl, hcs, _, hl, hm, hmm, hx, hel⟩
  · simp [Value.cells] at hcs
    obtain ⟨rfl, rfl, rfl⟩ := hcs
    exact ⟨none, 0, 0, [], rfl, fun _ => rfl, none, 0, rfl, by simp, by decide, by simp, .inl rfl⟩
  · simp [Value.cells] at hcs
    obtain ⟨rfl, rfl, rfl⟩ := hcs
    simp only [if_true] at hmm
    simp only [Prod.mk.injEq] at hx
    obtain ⟨hx1, _⟩ := hx
    have hn : n ≤ 281474976710656 := by
      rw [hx1] at hs2
      have := sized_slice hs2 (j := 0) (t := 22) rfl rfl und_families
      rw [show Try.prog.bytesOf 47 = 32 by kernel_rfl] at this
      simp at this
      unfold reachBytes at this
      omega
    rw [cells_family] at hel
    have hop : ∀ i, i < n → ∃ f : FamD, W.cell? ((x.add (i * 3)).add 0) = some (.string f.nm) ∧ W.cell? ((x.add (i * 3)).add 1) = some (.int .i64 f.mx) ∧ W.cell? ((x.add (i * 3)).add 2) = some (.int .i64 f.tl) := by
      intro i hi
      obtain ⟨cs', hc1, hc2⟩ := hel i (by omega)
      obtain ⟨f, rfl⟩ := open_family hc2
      obtain ⟨_, hlen, hget⟩ := World.cells?_some hc1
      exact ⟨f, by rw [hget 0 (by omega)]; rfl, by rw [hget 1 (by omega)]; rfl, by rw [hget 2 (by omega)]; rfl⟩
    have build : ∀ q, q ≤ n → ∃ fs : List FamD, fs.length = q ∧ ∀ i f, fs[i]? = some f → W.cell? ((x.add (i * 3)).add 0) = some (.string f.nm) ∧ W.cell? ((x.add (i * 3)).add 1) = some (.int .i64 f.mx) ∧ W.cell? ((x.add (i * 3)).add 2) = some (.int .i64 f.tl) := by
      intro q
      induction q with
      | zero => intro _; exact ⟨[], rfl, fun i o h => by simp at h⟩
      | succ q ih =>
        intro hq
        obtain ⟨os, hol, hos⟩ := ih (by omega)
        obtain ⟨o, ho⟩ := hop q (by omega)
        refine ⟨os ++ [o], by simp [hol], fun i o' h => ?_⟩
        by_cases hi : i < os.length
        · rw [List.getElem?_append_left hi] at h
          exact hos i o' h
        · rw [List.getElem?_append_right (by omega)] at h
          have hi2 : i = q := by
            by_cases h9 : i - os.length = 0
            · omega
            · rw [List.getElem?_eq_none (by simp; omega)] at h; cases h
          subst hi2
          rw [hol, Nat.sub_self] at h
          simp at h
          subst h
          exact ho
    obtain ⟨fs, hol, hos⟩ := build n (Nat.le_refl _)
    refine ⟨some x, n, c, fs, rfl, fun h => (by cases h), some x, c, by rw [hol], by omega, hm, by omega, ?_⟩
    by_cases hn0 : n = 0
    · left; exact List.eq_nil_of_length_eq_zero (by omega)
    · right
      obtain ⟨b, off, spot⟩ := x
      obtain ⟨o, hc0, _⟩ := (hop 0 (by omega))
      have hspot : spot = none := by simpa [Addr.add] using World.cell?_spot hc0
      subst hspot
      refine ⟨b, off, rfl, fun i f hi => ?_⟩
      have := hos i f hi
      have e : ∀ q r : Nat, ((⟨b, q, none⟩ : Addr).add r) = ⟨b, q + r, none⟩ := fun q r => by unfold Addr.add; split <;> simp_all
      simp only [e] at this
      simpa using this

end Go.Proofs.Ytemdhpjoakldhaa

namespace Go.Proofs.Ytemdhpjoakldhaa.retainCollectsRow
open Go.ChangeShapes Go.WideShapes Go.ChangeAt Go.RowKit
set_option linter.unusedVariables false

set_option maxRecDepth 100000 in
theorem contract (H : Type) (enc : TypeId × Value → H) (W : World) (base : Nat) (args : Array Value) (ds gs : List (DataW H)) (before : List MemPlace)
    (hval0 : ∀ (j : Nat) t v, Try.f7.params[j]? = some t → args[j]? = some v → Value.okWide Try.prog W .any base t v)
    (hW : DataW.Whole enc Try.prog Try.f7.params.toList Rows.retainCollectsSpec.vars false W args.toList ds gs before) (hsz : (DataW.weightsEach Try.prog (Try.f7.params.toList ++ DataSpec.varTypes Try.prog (OpenSpec.ofChange Rows.retainCollectsSpec).bare.plain) (ds ++ gs)).all (fun x => decide (x ≤ reachBytes)) = true) :
    Calls Try.prog 7 args W fun e W' => ∃ v, e = .returned v ∧ Rows.retainCollectsSpec.post enc Try.prog Try.f7 false true false false W args v W' := by
  have hW' := hW
  obtain ⟨p, q, hA0, hV, rfl, hfz, hnd⟩ := hW
  have hA : DataW.TrodAll enc Try.prog W 0 (fun _ => true) true Try.f7.params.toList args.toList ds p := hA0
  have hval := hval0
  rw [Try.params7] at hA hval
  obtain ⟨v0, vs0, d0, ds0, p0, q0, hargs, rfl, rfl, h0, r0⟩ := trodAll_cons hA
  obtain ⟨v1, vs1, d1, ds1, p1, q1, rfl, rfl, rfl, h1, r1⟩ := trodAll_cons r0
  obtain ⟨v2, vs2, d2, ds2, p2, q2, rfl, rfl, rfl, h2, r2⟩ := trodAll_cons r1
  obtain ⟨v3, vs3, d3, ds3, p3, q3, rfl, rfl, rfl, h3, r3⟩ := trodAll_cons r2
  obtain ⟨rfl, rfl, rfl⟩ := trodAll_nil r3
  obtain rfl : args = #[v0, v1, v2, v3] := by cases args; simp_all
  obtain ⟨rfl, rfl⟩ := trodVars_none hV
  have hsz2 : (DataW.weightsEach Try.prog [24, 3, 3, 25] ([d0, d1, d2, d3] ++ [])).all (fun x => decide (x ≤ reachBytes)) = true := by
    have e : Try.f7.params.toList ++ DataSpec.varTypes Try.prog (OpenSpec.ofChange Rows.retainCollectsSpec).bare.plain = [24, 3, 3, 25] := by kernel_rfl
    rw [e] at hsz
    exact hsz
  have s0 := okWide_struct und_schema (hval 0 24 v0 rfl rfl)
  have k0 := h0
  have lt0 : ∀ x ∈ p0, x.block < W.heap.size := by obtain ⟨m, hm⟩ := k0; exact DataW.trod_lt m _ _ _ hm
  obtain ⟨a0, n0, c0, x0, rfl, nn0, rd0⟩ := open_schema h0 s0 (weight_at hsz2 0 rfl rfl)
  obtain ⟨x1, rfl, rfl, rfl, wf1⟩ := open_int und_int (hval 1 3 v1 rfl rfl) h1
  obtain ⟨x2, rfl, rfl, rfl, wf2⟩ := open_int und_int (hval 2 3 v2 rfl rfl) h2
  have s3 := okWide_slice und_ents (hval 3 25 v3 rfl rfl)
  have k3 := h3
  have lt3 : ∀ x ∈ p3, x.block < W.heap.size := by obtain ⟨m, hm⟩ := k3; exact DataW.trod_lt m _ _ _ hm
  obtain ⟨x3, rd3⟩ := open_ents h3 s3 (weight_at hsz2 3 rfl rfl)
  clear hA0 hval0
  refine (retainCollects_walk rd0 nn0 x1 x2 rd3).mono fun e W' ⟨he, bel⟩ => ?_
  subst he
  exact ⟨_, rfl, _, _, _, [], _, [], hW', trodAll_mk1 (shut_bool und_bool _), (trodAll_cons_mk (Below.trod laid_out (by kernel_rfl) (of_decide_eq_true (by kernel_rfl)) k0 bel lt0) (trodAll_cons_mk (shut_int und_int wf1) (trodAll_cons_mk (shut_int und_int wf2) (trodAll_cons_mk (Below.trod laid_out (by kernel_rfl) (of_decide_eq_true (by kernel_rfl)) k3 bel lt3) trodAll_mk0)))), rfl, bel.frame _, fun h => by cases h⟩

theorem laid_met (os : Os) : laidMet Try.prog Rows.retainCollectsRow.laid ((World.holding Try.prog os ⟨#[], #[], []⟩ : World).forCall (fun _ _ => 0) ⟨#[], #[.agg #[.slice none 0 0], .int .i64 0, .int .i64 0, .slice none 0 0], []⟩).memory :=
  laidMet_of_run' 8 (by kernel_rfl) (by kernel_rfl)
theorem reads (os : Os) {H : Type} (enc : TypeId × Value → H) : ∃ places, DataW.whole enc Try.prog ((World.holding Try.prog os ⟨#[], #[], []⟩ : World).forCall (fun _ _ => 0) ⟨#[], #[.agg #[.slice none 0 0], .int .i64 0, .int .i64 0, .slice none 0 0], []⟩).memory Try.f7.params.toList Rows.retainCollectsSpec.vars false (#[.agg #[.slice none 0 0], .int .i64 0, .int .i64 0, .slice none 0 0] : Array Value).toList 8 = some ([.agg [.nil], .lit (.int .i64 0), .lit (.int .i64 0), .nil], [], places) :=
  ⟨[], by kernel_rfl⟩

set_option maxRecDepth 100000 in
theorem lifted (os : Os) (started : os.Started) (H : Type) (enc : TypeId × Value → H) (F : Stop.Interp) :
    ReturnsInHanded {} Try.checked os 7 .any ((OpenSpec.ofChange Rows.retainCollectsSpec).preRow enc Try.prog Try.f7 Rows.retainCollectsRow.domain false Rows.retainCollectsRow.laid) (((OpenSpec.ofChange Rows.retainCollectsSpec).at F).post enc Try.prog Try.f7 false true false false) := by
  obtain ⟨places, hx⟩ := reads os enc
  refine returnsInHanded_of_row (C := Try.checked) (s := OpenSpec.ofChange Rows.retainCollectsSpec) own_knob started (by kernel_rfl) Try.func7
    (witness_row_at (enc := enc) (C := Try.checked) false (World.holding Try.prog os ⟨#[], #[], []⟩) #[.agg #[.slice none 0 0], .int .i64 0, .int .i64 0, .slice none 0 0] rfl (by kernel_rfl) (by kernel_rfl) (by kernel_rfl)
      (OpenSpec.preRow_of_cond 8 hx (by kernel_rfl) (fun k hk => by cases hk) (by kernel_rfl) (laid_met os))) ?_
  intro W base args ds gs before hval hW _ hcond hsz hL _ _
  exact contract H enc W base args ds gs before hval hW hsz

end Go.Proofs.Ytemdhpjoakldhaa.retainCollectsRow
namespace Go.Proofs.Ytemdhpjoakldhaa
open Go.ChangeShapes Go.WideShapes Go.ChangeAt Go.RowKit

theorem retainCollects_holds : Rows.RetainCollectsSaid :=
  OpenClaim.holds_of_cond 7 Try.f7 rfl rfl rfl rfl rfl rfl rfl ⟨rfl, rfl, rfl, rfl, rfl⟩ rfl rfl rfl rfl rfl (by kernel_rfl) Try.func7 (by kernel_rfl)
    (of_decide_eq_true (by kernel_rfl)) (by unfold Func.isWrapper; first | (rw [if_pos (by decide +kernel)]; kernel_rfl) | (rw [if_neg (by decide +kernel)]; exact ⟨rfl, rfl⟩))
    (fun os started H enc _ F => by rw [OpenClaim.pre_eq_preRow]; exact retainCollectsRow.lifted os started H enc F)
#print axioms retainCollects_holds
end Go.Proofs.Ytemdhpjoakldhaa
