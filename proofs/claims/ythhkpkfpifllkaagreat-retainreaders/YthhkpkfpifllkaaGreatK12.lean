import Derived.Test.YthhkpkfpifllkaaGreatK11
namespace Go.Proofs.YthhkpkfpifllkaaGreat
open Go.RowKit
set_option linter.unusedVariables false

def pushE (k : Nat) (s : SpD) (e : EntD) : Int := if check3S k e ≠ 0 then check3S k e else if s.begun = true then (if compareS e s.last < 0 then 30 else if sameS e s.last = true then 0 else if e.seq = s.last.seq then 31 else 0) else 0
def pushS (k : Nat) (fs : List (Int × Int)) (clock : Int) (s : SpD) (e : EntD) : List Vd × Sp := if pushE k s e ≠ 0 then ([], s.dat) else if s.begun = true ∧ sameS e s.last = true then ([⟨e.dat, 1, 0⟩], s.dat) else stepS fs clock s.dat e.dat
section
variable {W0 : Base} {W W' : World} {wb g rb : Nat} {fv : Value} {fs : List FamD} {clock : Int} {T : World → (Nat → Prop) → List Vd → Prop} {O : Nat → Prop} {s : SpD} {vs : List Vd} {e : EntD}
def Lst (s : SpD) (i : Nat) : Prop := s.last.vr.ownBlock = some i ∨ s.last.vq.ownBlock = some i ∨ s.last.vv.ownBlock = some i
theorem Wk.rebase (ht : Teller g rb T) (h : Wk W0 wb g rb fv fs clock T W O s vs) (hO : ∀ i, O i → i = rb) (hs : W.heap.size ≤ W'.heap.size) (hw : W'.heap[wb]? = W.heap[wb]?) (hr : W'.heap[rb]? = W.heap[rb]?) (hm : ∀ i, Lst s i → W'.heap[i]? = W.heap[i]?) (hf : ∀ Z, Fr0 ⟨W', W0.lo, Lst s⟩ wb rb Z → RdF Z fv fs) : Wk ⟨W', W0.lo, Lst s⟩ wb g rb fv fs clock T W' O s vs := by
  refine ⟨h.box.keep hw, hf, ht.keep h.tell (fun i hi => by rw [hO i hi]; exact hr) hs, ⟨own_same h.own.1 (fun k hk => hm k (.inl hk)), own_same h.own.2.1 (fun k hk => hm k (.inr (.inl hk))), own_same h.own.2.2 (fun k hk => hm k (.inr (.inr hk)))⟩, fun k hk => .inl hk, h.apart, h.apO, fun i hi => .inl (hO i hi), Nat.le_trans h.lo (Nat.le_trans h.fr.1 hs), ⟨Nat.lt_of_lt_of_le h.box.lt hs, h.wlow.2.1, fun k => h.lastw _ k rfl⟩, h.rank, h.mask, h.bys, h.few, h.wait, rfl, rfl, rfl, Nat.le_refl _, fun i _ _ _ _ => rfl⟩
set_option maxRecDepth 100000 in
set_option maxHeartbeats 4000000 in
theorem wpush_any (ht : Teller g rb T) (h : Wk W0 wb g rb fv fs clock T W O s vs) (he : ∀ Z, Fr0 W0 wb rb Z → EntD.Ok Z e) (hv : vs.length + 4 < 1353245080339) (hfs : ∀ f ∈ fs, 0 ≤ f.tl ∧ f.tl ≤ 1099511627776) (hr : s.rank ≤ vs.length) (hwb : s.waiting = true → s.begun = true) :
    Calls Tryz.prog 107 #[.pointer (some ⟨wb, 0, none⟩), .agg e.cells] W fun r W' => r = .returned (.int .i64 (pushE fs.length s e)) ∧ ∃ O' s', Wk W0 wb g rb fv fs clock T W' O' s' (vs ++ (pushS fs.length (mt fs) clock s e).1) ∧ s'.dat = (pushS fs.length (mt fs) clock s e).2 := by
  have A := (Below.refl W.heap.size W).alloc (Nat.le_refl _) (.cells e.cells 84)
  have eb := EBox.new W e
  have h1 := h.later ht A
  obtain ⟨qb, hqb⟩ : ∃ q, q = W.heap.size := ⟨_, rfl⟩
  have hqb' := hqb.symm
  rw [← hqb] at eb
  obtain ⟨X, hX⟩ : ∃ X, X = W.alloc (.cells e.cells 84) := ⟨_, rfl⟩
  rw [← hX] at eb h1
  have HX := Lib.hid hX
  have HT := Lib.hid ht
  have HE := Lib.hid he
  have HFs := Lib.hid hfs
  have HWb := Lib.hid hwb
  have HU : Hid (∀ Z, Below X.heap.size X Z → Wk W0 wb g rb fv fs clock T Z O s vs ∧ EBox Z qb e ∧ EntD.Ok Z e ∧ EntD.Ok Z s.last) := fun Z b => by
    have k := h1.later ht b
    exact ⟨k, eb.later b, he Z k.fr, k.ok⟩
  have HCs : Hid (∀ Z, Below X.heap.size X Z → (Z.cell? ⟨qb, 0, none⟩ = some e.vr ∧ Z.cell? ⟨qb, 1, none⟩ = some (.int .i64 e.fam) ∧ Z.cell? ⟨qb, 2, none⟩ = some e.vq ∧ Z.cell? ⟨qb, 3, none⟩ = some (.int .i64 e.ts) ∧ Z.cell? ⟨qb, 4, none⟩ = some (.int .i64 e.seq) ∧ Z.cell? ⟨qb, 5, none⟩ = some (.int .i64 e.kind) ∧ Z.cell? ⟨qb, 6, none⟩ = some e.vv) ∧ (Z.cell? ⟨wb, 4, none⟩ = some s.last.vr ∧ Z.cell? ⟨wb, 5, none⟩ = some (.int .i64 s.last.fam) ∧ Z.cell? ⟨wb, 6, none⟩ = some s.last.vq ∧ Z.cell? ⟨wb, 7, none⟩ = some (.int .i64 s.last.ts) ∧ Z.cell? ⟨wb, 8, none⟩ = some (.int .i64 s.last.seq) ∧ Z.cell? ⟨wb, 9, none⟩ = some (.int .i64 s.last.kind) ∧ Z.cell? ⟨wb, 10, none⟩ = some s.last.vv)) := fun Z b => ⟨EBox.cells7 (HU.out Z b).2.1, (HU.out Z b).1.box.last7⟩
  have HC1 : Hid (Calls Tryz.prog 94 #[.pointer (some ⟨wb, 0, none⟩), .agg e.cells] X fun r W' => r = .returned (.int .i64 (check3S fs.length e)) ∧ Below X.heap.size X W') := by
    obtain ⟨k1, k2, k3, k4⟩ := HU.out X (Below.refl _ _)
    obtain ⟨fa, fc, hfv, -⟩ := k1.fam X k1.fr
    exact check3_any (by rw [← hfv]; exact k1.box) k3
  have HC2 : Hid (∀ Z, Below X.heap.size X Z → Calls Tryz.prog 81 #[.agg e.cells, .agg s.last.cells] Z fun r W' => r = .returned (.int .i64 (compareS e s.last)) ∧ Below X.heap.size X W') := fun Z b => (compare_any (HU.out Z b).2.2.1 (HU.out Z b).2.2.2).mono (fun r w' k => ⟨k.1, b.trans (k.2.mono b.size)⟩)
  have HC3 : Hid (∀ Z, Below X.heap.size X Z → Calls Tryz.prog 108 #[.agg e.cells, .agg s.last.cells] Z fun r W' => r = .returned (.bool (sameS e s.last)) ∧ Below X.heap.size X W') := fun Z b => (same3_any (HU.out Z b).2.2.1 (HU.out Z b).2.2.2).mono (fun r w' k => ⟨k.1, b.trans (k.2.mono b.size)⟩)
  have HC4 : Hid (∀ Z, Below X.heap.size X Z → check3S fs.length e = 0 → Calls Tryz.prog g #[.pointer (some ⟨rb, 0, none⟩), vdV e 1 0] Z fun r W' => r = .returned (.tuple #[]) ∧ ∃ O', Wk W0 wb g rb fv fs clock T W' O' s (vs ++ [⟨e.dat, 1, 0⟩]) ∧ EBox W' qb e) := fun Z b hc => (ht.say 1 0 (HU.out Z b).1.tell (HU.out Z b).2.2.1 (fit_of_check hc) (by omega)).mono (fun r w' k => ⟨k.1, k.2.choose, (HU.out Z b).1.told k.2.choose_spec.1 k.2.choose_spec.2, k.2.choose_spec.2.ebox (h.fresh ht (by rw [hqb]; exact Nat.le_refl _)) (HU.out Z b).2.1⟩)
  have HC5 : Hid (∀ Z, Below X.heap.size X Z → check3S fs.length e = 0 → Calls Tryz.prog 95 #[.pointer (some ⟨wb, 0, none⟩), .agg e.cells] Z fun r W' => r = .returned (.tuple #[]) ∧ ∃ O' s', Wk W0 wb g rb fv fs clock T W' O' s' (vs ++ (stepS (mt fs) clock s.dat e.dat).1) ∧ s'.dat = (stepS (mt fs) clock s.dat e.dat).2) := fun Z b hc => step_any HT.out (HU.out Z b).1 HE.out (fit_of_check hc) hv HFs.out hr HWb.out
  have HEE : Hid (pushE fs.length s e = if check3S fs.length e ≠ 0 then check3S fs.length e else if s.begun = true then (if compareS e s.last < 0 then 30 else if sameS e s.last = true then 0 else if e.seq = s.last.seq then 31 else 0) else 0) := rfl
  have HSS : Hid (pushS fs.length (mt fs) clock s e = if pushE fs.length s e ≠ 0 then ([], s.dat) else if s.begun = true ∧ sameS e s.last = true then ([⟨e.dat, 1, 0⟩], s.dat) else stepS (mt fs) clock s.dat e.dat) := rfl
  have HS0 : Hid (sameS e s.last = true → compareS e s.last = 0) := fun k => by unfold sameS at k; simp at k; exact k.1
  obtain ⟨C, hC⟩ : ∃ C, C = check3S fs.length e := ⟨_, rfl⟩
  obtain ⟨P, hP⟩ : ∃ P, P = compareS e s.last := ⟨_, rfl⟩
  obtain ⟨M, hM⟩ : ∃ M, M = sameS e s.last := ⟨_, rfl⟩
  obtain ⟨E, hE⟩ : ∃ E, E = pushE fs.length s e := ⟨_, rfl⟩
  obtain ⟨D, hD⟩ : ∃ D, D = pushS fs.length (mt fs) clock s e := ⟨_, rfl⟩
  rw [← hC] at HC1 HC4 HC5 HEE
  rw [← hP] at HC2 HS0 HEE
  rw [← hM] at HC3 HS0 HEE HSS
  rw [← hE] at HEE HSS ⊢
  rw [← hD] at HSS ⊢
  have eg := ht.enters
  have xs := (HCs.out X (Below.refl _ _)).1
  rw [hX] at xs
  obtain ⟨x0, x1, x2, x3, x4, x5, x6⟩ := xs
  unfold vdV at HC4
  unfold EntD.cells at HX HC1 HC2 HC3 HC5 x0 x1 x2 x3 x4 x5 x6 ⊢
  clear ht h he hfs hwb A eb h1 hX hqb hC hP hM hE hD
  go_enter Tryz.func107, Tryz.ntmps107
  go_wp2_with fail
  rw [← HX.out]
  (try rw [hqb'])
  refine Calls.mono HC1.out ?_
  rintro z X1 ⟨rfl, b1⟩
  have HB1 := Lib.hid b1
  clear x0 x1 x2 x3 x4 x5 x6 HC1 HX hqb' b1
  by_cases hc : C = 0
  · subst hc
    have c3 := (HU.out X1 HB1.out).1.box.c3
    obtain ⟨⟨x0, x1, x2, x3, x4, x5, x6⟩, y4, y5, y6, y7, y8, y9, y10⟩ := HCs.out X1 HB1.out
    cases hbg : s.begun with
    | false =>
      rw [hbg] at c3
      have HE0 : Hid (E = 0 ∧ D = stepS (mt fs) clock s.dat e.dat) := by
        have q : E = 0 := by rw [HEE.out]; simp [hbg]
        exact ⟨q, by rw [HSS.out]; simp [hbg, q]⟩
      have HC6 := Lib.hid (HC5.out X1 HB1.out rfl)
      clear hbg HEE HSS
      go_wp2_with fail
      refine Calls.mono HC6.out ?_
      rintro z2 X2 ⟨rfl, O', s', k1, k2⟩
      have HK := Lib.hid (And.intro k1 k2)
      clear k1 k2 HC6 c3 x0 x1 x2 x3 x4 x5 x6 y4 y5 y6 y7 y8 y9 y10
      go_wp2
      go_ret
      rw [HE0.out.2]
      exact ⟨by rw [HE0.out.1]; rfl, O', s', HK.out.1, HK.out.2⟩
    | true =>
      rw [hbg] at c3
      have HEE2 : Hid (E = if P < 0 then 30 else if M = true then 0 else if e.seq = s.last.seq then 31 else 0) := by unfold Hid; rw [HEE.out]; simp [hbg]
      have HSS2 : Hid (D = if E ≠ 0 then ([], s.dat) else if M = true then ([⟨e.dat, 1, 0⟩], s.dat) else stepS (mt fs) clock s.dat e.dat) := by unfold Hid; rw [HSS.out]; simp [hbg]
      clear hbg HEE HSS
      have D1 : Below X1.heap.size X1 X1.drew := (Below.refl _ _).drew
      have B2 := HB1.out.trans (D1.mono HB1.out.size)
      have HC6 := Lib.hid (HC2.out _ B2)
      have z1 := HCs.out _ B2
      go_upto_region 5 with fail
      go_region_held3 (fun Z => (Z.cell? ⟨qb, 0, none⟩ = some e.vr ∧ Z.cell? ⟨qb, 1, none⟩ = some (.int .i64 e.fam) ∧ Z.cell? ⟨qb, 2, none⟩ = some e.vq ∧ Z.cell? ⟨qb, 3, none⟩ = some (.int .i64 e.ts) ∧ Z.cell? ⟨qb, 4, none⟩ = some (.int .i64 e.seq) ∧ Z.cell? ⟨qb, 5, none⟩ = some (.int .i64 e.kind) ∧ Z.cell? ⟨qb, 6, none⟩ = some e.vv) ∧ (Z.cell? ⟨wb, 4, none⟩ = some s.last.vr ∧ Z.cell? ⟨wb, 5, none⟩ = some (.int .i64 s.last.fam) ∧ Z.cell? ⟨wb, 6, none⟩ = some s.last.vq ∧ Z.cell? ⟨wb, 7, none⟩ = some (.int .i64 s.last.ts) ∧ Z.cell? ⟨wb, 8, none⟩ = some (.int .i64 s.last.seq) ∧ Z.cell? ⟨wb, 9, none⟩ = some (.int .i64 s.last.kind) ∧ Z.cell? ⟨wb, 10, none⟩ = some s.last.vv)) (first | exact HCs.out _ b3 | exact z1) ((refine Calls.mono HC6.out ?_; rintro z2 X2 ⟨rfl, b3⟩))
      have HB3 := Lib.hid b3
      clear c3 x0 x1 x2 x3 x4 x5 x6 y4 y5 y6 y7 y8 y9 y10 z1 D1 B2 HC6 b3
      by_cases hp : P < 0
      · have q : Hid (E = 30 ∧ D = ([], s.dat)) := by
          have q1 : E = 30 := by rw [HEE2.out, if_pos hp]
          exact ⟨q1, by rw [HSS2.out, if_pos (by rw [q1]; decide)]⟩
        have hpd : decide (P < 0) = true := decide_eq_true hp
        clear HEE2 HSS2
        go_wp2
        go_ret
        rw [q.out.2]
        exact ⟨by rw [q.out.1]; rfl, O, s, by simpa using (HU.out _ HB3.out).1, rfl⟩
      · have hpd : decide (P < 0) = false := decide_eq_false hp
        have HEE3 : Hid (E = if M = true then 0 else if e.seq = s.last.seq then 31 else 0) := by unfold Hid; rw [HEE2.out, if_neg hp]
        clear HEE2
        go_upto_region 8 with fail
        go_cut [28] (fun c wx => c = .bool M ∧ Hid (Below X.heap.size X wx))
        case first =>
          by_cases h0 : P = 0
          · subst h0
            have D1 : Below X2.heap.size X2 X2.drew := (Below.refl _ _).drew
            have B2 := HB3.out.trans (D1.mono HB3.out.size)
            have HC6 := Lib.hid (HC3.out _ B2)
            have z1 := HCs.out _ B2
            go_region_held3 (fun Z => (Z.cell? ⟨qb, 0, none⟩ = some e.vr ∧ Z.cell? ⟨qb, 1, none⟩ = some (.int .i64 e.fam) ∧ Z.cell? ⟨qb, 2, none⟩ = some e.vq ∧ Z.cell? ⟨qb, 3, none⟩ = some (.int .i64 e.ts) ∧ Z.cell? ⟨qb, 4, none⟩ = some (.int .i64 e.seq) ∧ Z.cell? ⟨qb, 5, none⟩ = some (.int .i64 e.kind) ∧ Z.cell? ⟨qb, 6, none⟩ = some e.vv) ∧ (Z.cell? ⟨wb, 4, none⟩ = some s.last.vr ∧ Z.cell? ⟨wb, 5, none⟩ = some (.int .i64 s.last.fam) ∧ Z.cell? ⟨wb, 6, none⟩ = some s.last.vq ∧ Z.cell? ⟨wb, 7, none⟩ = some (.int .i64 s.last.ts) ∧ Z.cell? ⟨wb, 8, none⟩ = some (.int .i64 s.last.seq) ∧ Z.cell? ⟨wb, 9, none⟩ = some (.int .i64 s.last.kind) ∧ Z.cell? ⟨wb, 10, none⟩ = some s.last.vv)) (first | exact HCs.out _ b3 | exact z1) ((refine Calls.mono HC6.out ?_; rintro z3 X3 ⟨rfl, b3⟩))
            have HB4 := Lib.hid b3
            clear z1 D1 B2 HC6 b3
            go_wp2_with fail
            go_meet
            exact ⟨rfl, HB4.out⟩
          · have hM : M = false := by cases hm : M; rfl; exact absurd (HS0.out hm) h0
            subst hM
            have b0 : (P == 0) = false := by simp [h0]
            go_quiet (fail)
            go_wp2_with fail
            go_meet
            exact ⟨rfl, below_dn HB3.out _⟩
        case rest =>
        obtain ⟨rfl, HB4⟩ := hcut
        obtain ⟨X3, hX3⟩ : ∃ X3, X3 = wc := ⟨_, rfl⟩
        subst hX3
        have D1 : Below X3.heap.size X3 X3.drew := (Below.refl _ _).drew
        have B5 := HB4.out.trans (D1.mono HB4.out.size)
        cases M with
        | true =>
          have q : Hid (E = 0 ∧ D = ([⟨e.dat, 1, 0⟩], s.dat)) := by
            have q1 : E = 0 := by rw [HEE3.out, if_pos rfl]
            exact ⟨q1, by rw [HSS2.out, if_neg (by rw [q1]; decide), if_pos rfl]⟩
          have HC6 := Lib.hid (HC4.out _ B5 (by trivial))
          have z1 := (HU.out _ B5).1.box.c2
          have z2 := (HCs.out _ B5).1
          clear HEE3 HSS2
          go_upto_region 9 with fail
          go_region_held3 (fun Z => Z.cell? ⟨wb, 2, none⟩ = some (.func (.func g) #[.pointer (some ⟨rb, 0, none⟩)] #[]) ∧ (Z.cell? ⟨qb, 0, none⟩ = some e.vr ∧ Z.cell? ⟨qb, 1, none⟩ = some (.int .i64 e.fam) ∧ Z.cell? ⟨qb, 2, none⟩ = some e.vq ∧ Z.cell? ⟨qb, 3, none⟩ = some (.int .i64 e.ts) ∧ Z.cell? ⟨qb, 4, none⟩ = some (.int .i64 e.seq) ∧ Z.cell? ⟨qb, 5, none⟩ = some (.int .i64 e.kind) ∧ Z.cell? ⟨qb, 6, none⟩ = some e.vv)) (first | exact ⟨k5.box.c2, EBox.cells7 k6⟩ | exact ⟨z1, z2⟩) ((refine Calls.mono HC6.out ?_; rintro z4 X4 ⟨rfl, O4, k5, k6⟩))
          have HK := Lib.hid k5
          clear k5 k6 z1 z2 HC6 D1 B5
          go_wp2
          go_ret
          rw [q.out.2]
          exact ⟨by rw [q.out.1]; rfl, O4, s, HK.out, rfl⟩
        | false =>
          have HEE4 : Hid (E = if e.seq = s.last.seq then 31 else 0) := by unfold Hid; rw [HEE3.out, if_neg (by decide)]
          obtain ⟨⟨x0, x1, x2, x3, x4, x5, x6⟩, y4, y5, y6, y7, y8, y9, y10⟩ := HCs.out X3 HB4.out
          clear HEE3
          by_cases hq : e.seq = s.last.seq
          · have q : Hid (E = 31 ∧ D = ([], s.dat)) := by
              have q1 : E = 31 := by rw [HEE4.out, if_pos hq]
              exact ⟨q1, by rw [HSS2.out, if_pos (by rw [q1]; decide)]⟩
            have hqb : (e.seq == s.last.seq) = true := by simp [hq]
            clear HEE4 HSS2 hq
            go_upto_region 11 with fail
            go_region
            go_wp2
            go_ret
            rw [q.out.2]
            exact ⟨by rw [q.out.1]; rfl, O, s, by simpa using (HU.out _ B5).1, rfl⟩
          · have q : Hid (E = 0 ∧ D = stepS (mt fs) clock s.dat e.dat) := by
              have q1 : E = 0 := by rw [HEE4.out, if_neg hq]
              exact ⟨q1, by rw [HSS2.out, if_neg (by rw [q1]; decide), if_neg (by decide)]⟩
            have hqb : (e.seq == s.last.seq) = false := by simp [hq]
            have HC6 := Lib.hid (HC5.out _ B5 (by trivial))
            clear HEE4 HSS2 hq
            go_upto_region 11 with fail
            go_region
            clear x0 x1 x2 x3 x4 x5 x6 y4 y5 y6 y7 y8 y9 y10
            obtain ⟨x0, x1, x2, x3, x4, x5, x6⟩ := (HCs.out _ B5).1
            go_wp2_with fail
            refine Calls.mono HC6.out ?_
            rintro z4 X4 ⟨rfl, O', s', k1, k2⟩
            have HK := Lib.hid (And.intro k1 k2)
            clear k1 k2 HC6 x0 x1 x2 x3 x4 x5 x6 D1 B5
            go_wp2
            go_ret
            rw [q.out.2]
            exact ⟨by rw [q.out.1]; rfl, O', s', HK.out.1, HK.out.2⟩
  · have q : Hid (E = C ∧ D = ([], s.dat)) := by
      have q1 : E = C := by rw [HEE.out, if_pos hc]
      exact ⟨q1, by rw [HSS.out, if_pos (by rw [q1]; exact hc)]⟩
    have b0 : (C != 0) = true := by simp [hc]
    clear HEE HSS hc
    go_wp2
    go_ret
    rw [q.out.2]
    exact ⟨by rw [q.out.1]; rfl, O, s, by simpa using (HU.out _ HB1.out).1, rfl⟩
end
end Go.Proofs.YthhkpkfpifllkaaGreat

namespace Go.Proofs.YthhkpkfpifllkaaGreat
open Go.RowKit
set_option linter.unusedVariables false

structure Hands (g fb N : Nat) (c0 : Value) (T : List En → World → (Nat → Prop) → List Vd → Prop) : Prop where
  tl : ∀ hd, Teller g fb (T hd)
  out : ∀ {hd : List En} {W : World} {O : Nat → Prop} {vs : List Vd}, T hd W O vs → ∃ (xs : List EntD) (a : Option Addr) (c : Nat) (cs : List Value) (ty : TypeId) (Or : Nat → Prop), SBx W fb c0 (.slice a xs.length c) cs ty ∧ Rw W N (.slice a xs.length c) xs Or ∧ ¬ Or fb ∧ (∀ i, Or i → O i) ∧ O fb ∧ ∀ W', SBx W' fb c0 (.slice none 0 0) cs ty → W.grownBy W' (some fb) → T (hd ++ xs.map EntD.dat) W' (fun i => i = fb) vs
theorem reader_hands (fb N : Nat) (cp : Option Addr) (tm n : Int) : Hands 71 fb N (.pointer cp) (fun hd => TR hd fb N cp tm n) := by
  refine ⟨fun hd => reader_teller hd fb N cp tm n, fun {hd W O vs} h => ?_⟩
  obtain ⟨xs, ov, Or, hb, hr, hno, hsub, hx⟩ := h.st
  obtain ⟨a, c, rfl⟩ := rows_form3 hr.row
  refine ⟨xs, a, c, _, _, Or, hb, hr, hno, hsub, h.of, fun W' sb gr => ?_⟩
  exact ⟨⟨[], .slice none 0 0, fun _ => False, sb, Rw.nil _ _ _, fun z => z, fun _ z => z.elim, by simpa using hx⟩, h.ok, rfl, fun i hi => by rw [hi]; exact sb.lt, Nat.le_trans h.low gr.size⟩
section
variable {W0 : Base} {W W' : World} {wb g rb N : Nat} {fv : Value} {fs : List FamD} {clock : Int} {hd : List En} {T : List En → World → (Nat → Prop) → List Vd → Prop} {O O' : Nat → Prop} {s : SpD} {vs : List Vd} {e : EntD}
theorem Wk.swap {T0 T1 : World → (Nat → Prop) → List Vd → Prop} (h : Wk W0 wb g rb fv fs clock T0 W O s vs) (t : T1 W' O' vs) (f : Tf W W' O O') : Wk W0 wb g rb fv fs clock T1 W' O' s vs := by
  have hlt := h.lastlt
  have sm : ∀ k, s.last.vr.ownBlock = some k ∨ s.last.vq.ownBlock = some k ∨ s.last.vv.ownBlock = some k → W'.heap[k]? = W.heap[k]? := fun k hk => f.block k (hlt k hk).2 (h.apO k hk)
  refine ⟨h.box.keep (f.block wb h.box.lt h.notO), h.fam, t, ⟨own_same h.own.1 (fun k hk => sm k (.inl hk)), own_same h.own.2.1 (fun k hk => sm k (.inr (.inl hk))), own_same h.own.2.2 (fun k hk => sm k (.inr (.inr hk)))⟩, h.lastL, h.apart, fun k hk ho => ?_, fun i hi => ?_, h.lo, h.wlow, h.rank, h.mask, h.bys, h.few, h.wait, f.os.trans h.os, f.tape.trans h.tape, f.output.trans h.output, Nat.le_trans h.fr.1 f.size, fun i hi h1 h2 h3 => ?_⟩
  · rcases f.own k ho with k1 | k1
    · exact h.apO k hk k1
    · have := (hlt k hk).2; omega
  · rcases f.own i hi with k1 | k1
    · exact h.low i k1
    · exact .inr (Nat.le_trans h.fr.1 k1)
  · rw [f.block i (Nat.lt_of_lt_of_le hi h.fr.1) (fun k => by rcases h.low i k with e | e; exact h2 e; omega)]
    exact h.fr.2 i hi h1 h2 h3
structure Gone (W0 : Base) (wb g rb N : Nat) (fv : Value) (fs : List FamD) (clock : Int) (T : List En → World → (Nat → Prop) → List Vd → Prop) (hd : List En) (W' : World) (v : Value) (xs : List EntD) (Or : Nat → Prop) (s' : SpD) (vs : List Vd) : Prop where
  rw_ : Rw W' N v xs Or
  new : ∀ i, Or i → W0.heap.size ≤ i ∧ i < W'.heap.size
  ap : ∀ i, Or i → ¬ Lst s' i ∧ i ≠ wb ∧ i ≠ rb
  wk : Wk W0 wb g rb fv fs clock (T (hd ++ xs.map EntD.dat)) W' (fun i => i = rb) s' vs
theorem gone_of (H : Hands g rb N (.pointer (some ⟨wb, 0, none⟩)) T) (k : Wk W0 wb g rb fv fs clock (T hd) W O s vs) {xs : List EntD} {a : Option Addr} {c : Nat} {Or : Nat → Prop} (hr : Rw W N (.slice a xs.length c) xs Or) (hno : ¬ Or rb) (hsub : ∀ i, Or i → O i) (hof : O rb) (hre : T (hd ++ xs.map EntD.dat) W' (fun i => i = rb) vs) (gr : W.grownBy W' (some rb)) : Gone W0 wb g rb N fv fs clock T hd W' (.slice a xs.length c) xs Or s vs := by
  refine ⟨hr.keep (fun i hi => gr.block i ((H.tl hd).lt k.tell (hsub i hi)) (fun z => by cases z; exact hno hi)), fun i hi => ⟨?_, Nat.lt_of_lt_of_le ((H.tl hd).lt k.tell (hsub i hi)) gr.size⟩, fun i hi => ⟨fun l => k.apO i l (hsub i hi), fun z => k.notO (by rw [← z]; exact hsub i hi), fun z => hno (by rw [← z]; exact hi)⟩, k.swap hre ⟨gr.os, gr.tape, gr.output, gr.size, fun i hi hn => gr.block i hi (fun z => by cases z; exact hn hof), fun i hi => .inl (by rw [hi]; exact hof)⟩⟩
  rcases k.low i (hsub i hi) with z | z
  · exact absurd (by rw [← z]; exact hi) hno
  · exact z

set_option maxRecDepth 100000 in
set_option maxHeartbeats 4000000 in
theorem spush_any (H : Hands g rb N (.pointer (some ⟨wb, 0, none⟩)) T) (h : Wk W0 wb g rb fv fs clock (T hd) W O s vs) (he : ∀ Z, Fr0 W0 wb rb Z → EntD.Ok Z e) (hv : vs.length + 4 < 1353245080339) (hfs : ∀ f ∈ fs, 0 ≤ f.tl ∧ f.tl ≤ 1099511627776) (hr : s.rank ≤ vs.length) (hwb : s.waiting = true → s.begun = true) :
    Calls Tryz.prog 73 #[.pointer (some ⟨rb, 0, none⟩), .agg e.cells] W fun r W' => ∃ xs a c Or s', r = .returned (.tuple #[.slice a xs.length c, .int .i64 (pushE fs.length s e)]) ∧ Gone W0 wb g rb N fv fs clock T hd W' (.slice a xs.length c) xs Or s' (vs ++ (pushS fs.length (mt fs) clock s e).1) ∧ s'.dat = (pushS fs.length (mt fs) clock s e).2 := by
  have A := (Below.refl W.heap.size W).alloc (Nat.le_refl _) (.cells e.cells 84)
  have eb := EBox.new W e
  have ht0 := H.tl hd
  have h1 := h.later ht0 A
  have hfr := h.fresh ht0 (Nat.le_refl W.heap.size)
  have hlt := h.lastlt
  obtain ⟨qb, hqb⟩ : ∃ q, q = W.heap.size := ⟨_, rfl⟩
  have hqb' := hqb.symm
  rw [← hqb] at eb hfr
  have K0 := h1.ext eb hfr (by rw [hqb]; exact h.fr.1) (fun k hk => by have := (hlt k hk).2; omega)
  have ht : Teller g rb (TE (T hd) qb (.cells e.cells 84 (0, 0))) := ht0.ext
  obtain ⟨TT, hTT⟩ : ∃ TT, TT = TE (T hd) qb (.cells e.cells 84 (0, 0)) := ⟨_, rfl⟩
  rw [← hTT] at K0 ht
  have HTT := Lib.hid hTT
  obtain ⟨X, hX⟩ : ∃ X, X = W.alloc (.cells e.cells 84) := ⟨_, rfl⟩
  rw [← hX] at K0
  have HX := Lib.hid hX
  have HH := Lib.hid H
  have HCE : Hid (∀ Z O' s' us, Wk W0 wb g rb fv fs clock TT Z O' s' us → Z.cell? ⟨rb, 0, none⟩ = some (.pointer (some ⟨wb, 0, none⟩)) ∧ Z.cell? ⟨qb, 0, none⟩ = some e.vr ∧ Z.cell? ⟨qb, 1, none⟩ = some (.int .i64 e.fam) ∧ Z.cell? ⟨qb, 2, none⟩ = some e.vq ∧ Z.cell? ⟨qb, 3, none⟩ = some (.int .i64 e.ts) ∧ Z.cell? ⟨qb, 4, none⟩ = some (.int .i64 e.seq) ∧ Z.cell? ⟨qb, 5, none⟩ = some (.int .i64 e.kind) ∧ Z.cell? ⟨qb, 6, none⟩ = some e.vv) := fun Z O' s' us k => by
    rw [hTT] at k
    obtain ⟨xs, a, c, cs, ty, Or, sb, -⟩ := H.out k.tell.2.2
    exact ⟨sb.c00, EBox.cells7 k.tell.1⟩
  have D4 : Below X.heap.size X X.drew := (Below.refl _ _).drew
  have K4 := K0.later ht D4
  have z1 := HCE.out _ _ _ _ K4
  have HC1 := Lib.hid (wpush_any ht K4 he hv hfs hr hwb)
  obtain ⟨E, hE⟩ : ∃ E, E = pushE fs.length s e := ⟨_, rfl⟩
  obtain ⟨D, hD⟩ : ∃ D, D = pushS fs.length (mt fs) clock s e := ⟨_, rfl⟩
  rw [← hE, ← hD] at HC1 ⊢
  unfold EntD.cells at HX HC1 ⊢
  clear H ht0 ht h he hv hfs hr hwb A eb h1 hfr hlt hX hqb K0 K4 D4 hE hD hTT
  go_enter Tryz.func73, Tryz.ntmps73
  go_upto_region 1 with fail
  rw [← HX.out]
  (try rw [hqb'])
  clear HX hqb'
  go_region_held3 (fun Z => Z.cell? ⟨rb, 0, none⟩ = some (.pointer (some ⟨wb, 0, none⟩)) ∧ Z.cell? ⟨qb, 0, none⟩ = some e.vr ∧ Z.cell? ⟨qb, 1, none⟩ = some (.int .i64 e.fam) ∧ Z.cell? ⟨qb, 2, none⟩ = some e.vq ∧ Z.cell? ⟨qb, 3, none⟩ = some (.int .i64 e.ts) ∧ Z.cell? ⟨qb, 4, none⟩ = some (.int .i64 e.seq) ∧ Z.cell? ⟨qb, 5, none⟩ = some (.int .i64 e.kind) ∧ Z.cell? ⟨qb, 6, none⟩ = some e.vv) (first | exact HCE.out _ _ _ _ K5 | exact z1) ((go_at_call 107; refine Calls.mono HC1.out ?_; rintro z X1 ⟨rfl, O1, s1, K5, d5⟩))
  rw [HTT.out] at K5
  have K6 := K5.unext
  obtain ⟨xs, a, c, cs, ty, Or, sb, rw1, hno, hsub, hof, hre⟩ := HH.out.out K6.tell
  have HO := Lib.hid (handOut_any sb)
  have HK : Hid (∀ X2, SBx X2 rb (.pointer (some ⟨wb, 0, none⟩)) (.slice none 0 0) cs ty → X1.grownBy X2 (some rb) → Gone W0 wb g rb N fv fs clock T hd X2 (.slice a xs.length c) xs Or s1 (vs ++ D.1)) := fun X2 sb2 gr2 => gone_of HH.out K6 rw1 hno hsub hof (hre X2 sb2 gr2) gr2
  have HD5 := Lib.hid d5
  obtain ⟨n, hn⟩ : ∃ n, n = xs.length := ⟨_, rfl⟩
  rw [← hn] at HO HK
  have HN := Lib.hid hn
  clear K5 K6 d5 z1 HCE HC1 sb rw1 hno hsub hof hre hn
  go_wp2_with fail
  refine Calls.mono HO.out ?_
  rintro z2 X2 ⟨rfl, sb2, gr2⟩
  have HG := Lib.hid (HK.out X2 sb2 gr2)
  clear sb2 gr2 HO HK
  go_wp2
  go_ret2
  exact ⟨xs, a, c, Or, s1, by rw [← HN.out]; rfl, by rw [← HN.out]; exact HG.out, HD5.out⟩

set_option maxRecDepth 100000 in
set_option maxHeartbeats 4000000 in
theorem send_any (H : Hands g rb N (.pointer (some ⟨wb, 0, none⟩)) T) (h : Wk W0 wb g rb fv fs clock (T hd) W O s vs) (hv : vs.length < 1353245080339) (hfs : ∀ f ∈ fs, 0 ≤ f.tl ∧ f.tl ≤ 1099511627776) (hr : s.rank ≤ vs.length) (hwb : s.waiting = true → s.begun = true) :
    Calls Tryz.prog 72 #[.pointer (some ⟨rb, 0, none⟩)] W fun r W' => ∃ xs a c Or, r = .returned (.slice a xs.length c) ∧ Gone W0 wb g rb N fv fs clock T hd W' (.slice a xs.length c) xs Or spZ (vs ++ (resolveS (mt fs) clock s.dat 3).1) := by
  have HC1 := Lib.hid (end_any (H.tl hd) h hv hfs hr hwb)
  have HH := Lib.hid H
  obtain ⟨xs, a, c, cs, ty, Or, sb, -⟩ := H.out h.tell
  have c0 := sb.c00
  obtain ⟨D, hD⟩ : ∃ D, D = (resolveS (mt fs) clock s.dat 3).1 := ⟨_, rfl⟩
  rw [← hD] at HC1 ⊢
  clear H h hv hfs hr hwb sb hD
  go_enter Tryz.func72, Tryz.ntmps72
  go_wp2_with fail
  refine Calls.mono HC1.out ?_
  rintro z X1 ⟨rfl, O1, K6⟩
  clear c0 HC1
  obtain ⟨xs, a, c, cs, ty, Or, sb, rw1, hno, hsub, hof, hre⟩ := HH.out.out K6.tell
  have HO := Lib.hid (handOut_any sb)
  have HK : Hid (∀ X2, SBx X2 rb (.pointer (some ⟨wb, 0, none⟩)) (.slice none 0 0) cs ty → X1.grownBy X2 (some rb) → Gone W0 wb g rb N fv fs clock T hd X2 (.slice a xs.length c) xs Or spZ (vs ++ D)) := fun X2 sb2 gr2 => gone_of HH.out K6 rw1 hno hsub hof (hre X2 sb2 gr2) gr2
  obtain ⟨n, hn⟩ : ∃ n, n = xs.length := ⟨_, rfl⟩
  rw [← hn] at HO HK
  have HN := Lib.hid hn
  clear K6 sb rw1 hno hsub hof hre hn
  go_wp2_with fail
  refine Calls.mono HO.out ?_
  rintro z2 X2 ⟨rfl, sb2, gr2⟩
  have HG := Lib.hid (HK.out X2 sb2 gr2)
  clear sb2 gr2 HO HK
  go_wp2
  go_ret
  exact ⟨xs, a, c, Or, by rw [← HN.out]; rfl, by rw [← HN.out]; exact HG.out⟩
end
end Go.Proofs.YthhkpkfpifllkaaGreat

namespace Go.Proofs.YthhkpkfpifllkaaGreat
open Go.RowKit
set_option linter.unusedVariables false

structure Rest (B wb g rb : Nat) (fv : Value) (fs : List FamD) (clock : Int) (T : World → (Nat → Prop) → List Vd → Prop) (W : World) (s : SpD) (vs : List Vd) : Prop where
  wk : Wk ⟨W, B, Lst s⟩ wb g rb fv fs clock T W (fun i => i = rb) s vs
  fam : ∃ a c, fv = .slice a fs.length c ∧ OwnF W B (.slice a fs.length c) fs.length fs
  far : ∀ k, fv.ownBlock = some k → k ≠ wb ∧ k ≠ rb ∧ ¬ Lst s k
  l8 : fs.length ≤ 8
def Its (wb rb : Nat) (fv : Value) (s : SpD) (i : Nat) : Prop := i = wb ∨ i = rb ∨ Lst s i ∨ fv.ownBlock = some i
section
variable {W0 : Base} {W W' : World} {B wb g rb N : Nat} {fv : Value} {fs : List FamD} {clock : Int} {hd : List En} {T : World → (Nat → Prop) → List Vd → Prop} {s s' : SpD} {vs us : List Vd} {e : EntD}
theorem fam_frame (hf : ∃ a c, fv = .slice a fs.length c ∧ OwnF W B (.slice a fs.length c) fs.length fs) (far : ∀ k, fv.ownBlock = some k → k ≠ wb ∧ k ≠ rb ∧ ¬ Lst s k) (l8 : fs.length ≤ 8) (Z : World) (hZ : Fr0 ⟨W, B, Lst s⟩ wb rb Z) : RdF Z fv fs := by
  obtain ⟨a, c, rfl, ho⟩ := hf
  refine OwnF.rd ⟨ho.1, row_same ho.2 (fun k hk => ?_)⟩ l8
  exact hZ.2 k (ho.2.lt k hk).2 (far k hk).1 (far k hk).2.1 (far k hk).2.2
theorem Rest.keep (ht : Teller g rb T) (h : Rest B wb g rb fv fs clock T W s vs) (hs : W.heap.size ≤ W'.heap.size) (hm : ∀ i, Its wb rb fv s i → W'.heap[i]? = W.heap[i]?) : Rest B wb g rb fv fs clock T W' s vs := by
  obtain ⟨a, c, e1, ho⟩ := h.fam
  have f2 : ∃ a c, fv = .slice a fs.length c ∧ OwnF W' B (.slice a fs.length c) fs.length fs := ⟨a, c, e1, ho.1, row_same ho.2 (fun k hk => hm k (.inr (.inr (.inr (by rw [e1]; exact hk)))))⟩
  exact ⟨h.wk.rebase ht (fun i hi => hi) hs (hm wb (.inl rfl)) (hm rb (.inr (.inl rfl))) (fun i hi => hm i (.inr (.inr (.inl hi)))) (fun Z hZ => fam_frame f2 h.far h.l8 Z hZ), f2, h.far, h.l8⟩
theorem Rest.lt (h : Rest B wb g rb fv fs clock T W s vs) (ht : Teller g rb T) (i : Nat) (hi : Its wb rb fv s i) : i < W.heap.size := by
  rcases hi with rfl | rfl | hi | hi
  · exact h.wk.box.lt
  · exact ht.lt h.wk.tell rfl
  · exact (h.wk.lastlt i hi).2
  · obtain ⟨a, c, e1, ho⟩ := h.fam
    rw [e1] at hi
    exact (ho.2.lt i hi).2
theorem Rest.later (ht : Teller g rb T) (h : Rest B wb g rb fv fs clock T W s vs) (b : Below W.heap.size W W') : Rest B wb g rb fv fs clock T W' s vs := h.keep ht b.size (fun i hi => b.block i (h.lt ht i hi))
structure Step (B wb g rb N : Nat) (fv : Value) (fs : List FamD) (clock : Int) (T : List En → World → (Nat → Prop) → List Vd → Prop) (hd : List En) (W W' : World) (s s' : SpD) (v : Value) (xs : List EntD) (Or : Nat → Prop) (vs : List Vd) : Prop where
  rest : Rest B wb g rb fv fs clock (T (hd ++ xs.map EntD.dat)) W' s' vs
  rw_ : Rw W' N v xs Or
  new : ∀ i, Or i → W.heap.size ≤ i ∧ i < W'.heap.size
  ap : ∀ i, Or i → ¬ Its wb rb fv s' i
  its : ∀ i, Its wb rb fv s' i → Its wb rb fv s i ∨ W.heap.size ≤ i
  os : W'.os = W.os
  tape : W'.tape = W.tape
  output : W'.output = W.output
  size : W.heap.size ≤ W'.heap.size
  block : ∀ i, i < W.heap.size → ¬ Its wb rb fv s i → W'.heap[i]? = W.heap[i]?
theorem Step.of {T : List En → World → (Nat → Prop) → List Vd → Prop} (H : Hands g rb N (.pointer (some ⟨wb, 0, none⟩)) T) {v : Value} {xs : List EntD} {Or : Nat → Prop} (h : Rest B wb g rb fv fs clock (T hd) W s vs) (k : Gone ⟨W, B, Lst s⟩ wb g rb N fv fs clock T hd W' v xs Or s' us) : Step B wb g rb N fv fs clock T hd W W' s s' v xs Or us := by
  obtain ⟨a, c, e1, ho⟩ := h.fam
  have hfl : ∀ i, fv.ownBlock = some i → i < W.heap.size := fun i hi => by rw [e1] at hi; exact (ho.2.lt i hi).2
  have f2 : ∃ a c, fv = .slice a fs.length c ∧ OwnF W' B (.slice a fs.length c) fs.length fs := ⟨a, c, e1, ho.1, row_same ho.2 (fun i hi => by
    have q := h.far i (by rw [e1]; exact hi)
    exact k.wk.fr.2 i (ho.2.lt i hi).2 q.1 q.2.1 q.2.2)⟩
  have far2 : ∀ i, fv.ownBlock = some i → i ≠ wb ∧ i ≠ rb ∧ ¬ Lst s' i := fun i hi => by
    refine ⟨(h.far i hi).1, (h.far i hi).2.1, fun l => ?_⟩
    rcases k.wk.lastL i l with z | z
    · exact (h.far i hi).2.2 z
    · have := hfl i hi
      exact absurd this (Nat.not_lt.2 z)
  refine ⟨⟨k.wk.rebase (H.tl _) (fun i hi => hi) (Nat.le_refl _) rfl rfl (fun _ _ => rfl) (fun Z hZ => fam_frame f2 far2 h.l8 Z hZ), f2, far2, h.l8⟩, k.rw_, k.new, fun i hi q => ?_, fun i hi => ?_, k.wk.os, k.wk.tape, k.wk.output, k.wk.fr.1, fun i hi hn => k.wk.fr.2 i hi (fun z => hn (.inl z)) (fun z => hn (.inr (.inl z))) (fun z => hn (.inr (.inr (.inl z))))⟩
  · rcases q with q | q | q | q
    · exact (k.ap i hi).2.1 q
    · exact (k.ap i hi).2.2 q
    · exact (k.ap i hi).1 q
    · exact absurd (hfl i q) (Nat.not_lt.2 (k.new i hi).1)
  · rcases hi with q | q | q | q
    · exact .inl (.inl q)
    · exact .inl (.inr (.inl q))
    · rcases k.wk.lastL i q with z | z
      · exact .inl (.inr (.inr (.inl z)))
      · exact .inr z
    · exact .inl (.inr (.inr (.inr q)))
theorem Step.box {T : List En → World → (Nat → Prop) → List Vd → Prop} {v : Value} {xs : List EntD} {Or : Nat → Prop} {q : Nat} (k : Step B wb g rb N fv fs clock T hd W W' s s' v xs Or us) (hq : EBox W q e) (hn : ¬ Its wb rb fv s q) : EBox W' q e := (k.block q (Array.getElem?_eq_some_iff.1 hq).1 hn).trans hq

set_option maxRecDepth 100000 in
set_option maxHeartbeats 4000000 in
theorem rPush_any {T : List En → World → (Nat → Prop) → List Vd → Prop} (H : Hands g rb N (.pointer (some ⟨wb, 0, none⟩)) T) (h : Rest B wb g rb fv fs clock (T hd) W s vs) (he : ∀ Z, Fr0 ⟨W, B, Lst s⟩ wb rb Z → EntD.Ok Z e) (hv : vs.length + 4 < 1353245080339) (hfs : ∀ f ∈ fs, 0 ≤ f.tl ∧ f.tl ≤ 1099511627776) (hr : s.rank ≤ vs.length) (hwb : s.waiting = true → s.begun = true) :
    Calls Tryz.prog 37 #[.pointer (some ⟨rb, 0, none⟩), .agg e.cells] W fun r W' => ∃ xs a c Or s', r = .returned (.tuple #[.slice a xs.length c, .int .i64 (pushE fs.length s e)]) ∧ Step B wb g rb N fv fs clock T hd W W' s s' (.slice a xs.length c) xs Or (vs ++ (pushS fs.length (mt fs) clock s e).1) ∧ s'.dat = (pushS fs.length (mt fs) clock s e).2 := by
  have A := (Below.refl W.heap.size W).alloc (Nat.le_refl _) (.cells e.cells 84)
  have eb := EBox.new W e
  have hlt := h.lt (H.tl hd)
  obtain ⟨qb, hqb⟩ : ∃ q, q = W.heap.size := ⟨_, rfl⟩
  have hqb' := hqb.symm
  have hqn : ¬ Its wb rb fv s qb := fun z => by have := hlt qb z; omega
  rw [← hqb] at eb
  obtain ⟨X, hX⟩ : ∃ X, X = W.alloc (.cells e.cells 84) := ⟨_, rfl⟩
  rw [← hX] at A eb
  have D4 : Below X.heap.size X X.drew := (Below.refl _ _).drew
  have A2 := A.trans (D4.mono A.size)
  have R2 := h.later (H.tl hd) A2
  have he2 : ∀ Z, Fr0 ⟨X.drew, B, Lst s⟩ wb rb Z → EntD.Ok Z e := fun Z hZ => he Z ⟨Nat.le_trans A2.size hZ.1, fun i hi h1 h2 h3 => (hZ.2 i (Nat.lt_of_lt_of_le hi A2.size) h1 h2 h3).trans (A2.block i hi)⟩
  have eb2 : EBox X.drew qb e := eb.later D4
  have HC1 : Hid (Calls Tryz.prog 73 #[.pointer (some ⟨rb, 0, none⟩), .agg e.cells] X.drew fun r W' => ∃ xs a c Or s', r = .returned (.tuple #[.slice a xs.length c, .int .i64 (pushE fs.length s e)]) ∧ (Step B wb g rb N fv fs clock T hd W W' s s' (.slice a xs.length c) xs Or (vs ++ (pushS fs.length (mt fs) clock s e).1) ∧ EBox W' qb e) ∧ s'.dat = (pushS fs.length (mt fs) clock s e).2) := by
    refine (spush_any H R2.wk he2 hv hfs hr hwb).mono ?_
    rintro r W' ⟨xs, a, c, Or, s', h1, h2, h3⟩
    have st := Step.of H R2 h2
    have sz : W.heap.size ≤ X.drew.heap.size := A2.size
    exact ⟨xs, a, c, Or, s', h1, ⟨⟨st.rest, st.rw_, fun i hi => ⟨Nat.le_trans sz (st.new i hi).1, (st.new i hi).2⟩, st.ap, fun i hi => (st.its i hi).imp id (Nat.le_trans sz), st.os.trans A2.os, st.tape.trans A2.tape, st.output.trans A2.output, Nat.le_trans sz st.size, fun i hi hn => (st.block i (Nat.lt_of_lt_of_le hi sz) hn).trans (A2.block i hi)⟩, st.box eb2 hqn⟩, h3⟩
  have z1 := EBox.cells7 eb2
  have HX := Lib.hid hX
  obtain ⟨E, hE⟩ : ∃ E, E = pushE fs.length s e := ⟨_, rfl⟩
  obtain ⟨D, hD⟩ : ∃ D, D = pushS fs.length (mt fs) clock s e := ⟨_, rfl⟩
  rw [← hE, ← hD] at HC1 ⊢
  unfold EntD.cells at HX HC1 ⊢
  clear H h he hv hfs hr hwb A eb hlt hX hqb hqn D4 A2 R2 he2 eb2 hE hD
  go_enter Tryz.func37, Tryz.ntmps37
  go_upto_region 1 with fail
  rw [← HX.out]
  (try rw [hqb'])
  clear HX hqb'
  go_region_held3 (fun Z => Z.cell? ⟨qb, 0, none⟩ = some e.vr ∧ Z.cell? ⟨qb, 1, none⟩ = some (.int .i64 e.fam) ∧ Z.cell? ⟨qb, 2, none⟩ = some e.vq ∧ Z.cell? ⟨qb, 3, none⟩ = some (.int .i64 e.ts) ∧ Z.cell? ⟨qb, 4, none⟩ = some (.int .i64 e.seq) ∧ Z.cell? ⟨qb, 5, none⟩ = some (.int .i64 e.kind) ∧ Z.cell? ⟨qb, 6, none⟩ = some e.vv) (first | exact EBox.cells7 k5.2 | exact z1) ((go_at_call 73; refine Calls.mono HC1.out ?_; rintro z X1 ⟨xs, a, c, Or, s1, rfl, k5, d5⟩))
  have HK := Lib.hid (And.intro k5.1 d5)
  clear k5 d5 z1 HC1
  go_wp2
  go_ret2
  exact ⟨xs, a, c, Or, s1, rfl, HK.out.1, HK.out.2⟩

set_option maxRecDepth 100000 in
set_option maxHeartbeats 4000000 in
theorem rEnd_any {T : List En → World → (Nat → Prop) → List Vd → Prop} (H : Hands g rb N (.pointer (some ⟨wb, 0, none⟩)) T) (h : Rest B wb g rb fv fs clock (T hd) W s vs) (hv : vs.length < 1353245080339) (hfs : ∀ f ∈ fs, 0 ≤ f.tl ∧ f.tl ≤ 1099511627776) (hr : s.rank ≤ vs.length) (hwb : s.waiting = true → s.begun = true) :
    Calls Tryz.prog 36 #[.pointer (some ⟨rb, 0, none⟩)] W fun r W' => ∃ xs a c Or, r = .returned (.slice a xs.length c) ∧ Step B wb g rb N fv fs clock T hd W W' s spZ (.slice a xs.length c) xs Or (vs ++ (resolveS (mt fs) clock s.dat 3).1) := by
  have HC1 : Hid (Calls Tryz.prog 72 #[.pointer (some ⟨rb, 0, none⟩)] W fun r W' => ∃ xs a c Or, r = .returned (.slice a xs.length c) ∧ Step B wb g rb N fv fs clock T hd W W' s spZ (.slice a xs.length c) xs Or (vs ++ (resolveS (mt fs) clock s.dat 3).1)) := by
    refine (send_any H h.wk hv hfs hr hwb).mono ?_
    rintro r W' ⟨xs, a, c, Or, h1, h2⟩
    exact ⟨xs, a, c, Or, h1, Step.of H h h2⟩
  clear H h hv hfs hr hwb
  go_enter Tryz.func36, Tryz.ntmps36
  go_wp2_with fail
  refine Calls.mono HC1.out ?_
  rintro z X1 ⟨xs, a, c, Or, rfl, k5⟩
  have HK := Lib.hid k5
  clear k5 HC1
  go_wp2
  go_ret
  exact ⟨xs, a, c, Or, rfl, HK.out⟩
end
end Go.Proofs.YthhkpkfpifllkaaGreat

namespace Go.Proofs.YthhkpkfpifllkaaGreat
open Go.RowKit Go.Maps
set_option linter.unusedVariables false

set_option maxRecDepth 100000 in
set_option maxHeartbeats 1000000 in
theorem copied3_any {v : Value} {bs : List Nat} {w : World} (hr : Rd w v bs) (hl : bs.length ≤ 140737488355328) :
    Calls Tryz.prog 74 #[v] w fun e w' => ∃ a m c, e = .returned (.slice a m c) ∧ Own w' w.heap.size (.slice a m c) m bs ∧ Below w.heap.size w w' := by
  obtain ⟨a, n, cap, rfl⟩ := rd_slice hr
  obtain ⟨hn, hle, hm, hl48⟩ := rd_lens hr
  rw [← hn] at hl
  clear hn
  go_enter Tryz.func74, Tryz.ntmps74
  go_wp2_with (at_builtin; refine wpList_append_at rfl _ _ rfl w.heap.size none 0 0 [] rfl ⟨rfl, World.ownsRow_nil _ _ _ _⟩ a n cap bs rfl hr (by omega) (Nat.le_refl _) ?_; intro a5 m5 c5 w5 own5 hb5)
  go_ret
  exact ⟨a5, m5, c5, rfl, by simpa using own5, hb5⟩
def Shrt (e : EntD) : Prop := e.row.length ≤ 140737488355328 ∧ e.qual.length ≤ 140737488355328 ∧ e.val.length ≤ 140737488355328
set_option maxRecDepth 100000 in
set_option maxHeartbeats 8000000 in
theorem cloneR_own {w : World} {e : EntD} (hx : EntD.Ok w e) (hl : Shrt e) :
    Calls Tryz.prog 35 #[.agg e.cells] w fun z w' => ∃ x : EntD, z = .returned (.agg x.cells) ∧ EntD.Same x e ∧ EOk (fun i => w.heap.size ≤ i) w' x ∧ O3 w' w.heap.size x ∧ Below w.heap.size w w' := by
  have A1 := (Below.refl w.heap.size w).alloc (Nat.le_refl _) (.cells e.cells 84)
  have bx0 := EBox.new w e
  obtain ⟨zc, hz⟩ : ∃ zc : Array Value, zc = #[.slice none 0 0, .int .i64 0, .slice none 0 0, .int .i64 0, .int .i64 0, .int .i64 0, .slice none 0 0] := ⟨_, rfl⟩
  have A2 := A1.alloc A1.size (.cells zc 84)
  have bx := bx0.later ((Below.refl (w.alloc (.cells e.cells 84)).heap.size _).alloc (Nat.le_refl _) (.cells zc 84))
  have rz : ((w.alloc (.cells e.cells 84)).alloc (.cells zc 84)).heap[w.heap.size + 1]? = some (.cells zc 84 (0, 0)) := by
    show ((w.alloc (.cells e.cells 84)).heap.push _)[w.heap.size + 1]? = _
    have e1 : w.heap.size + 1 = (w.alloc (.cells e.cells 84)).heap.size := (World.size_alloc w _).symm
    rw [e1]
    exact Array.getElem?_push_size
  obtain ⟨W, hW⟩ : ∃ W, W = (w.alloc (.cells e.cells 84)).alloc (.cells zc 84) := ⟨_, rfl⟩
  rw [← hW] at A2 bx rz
  have HW : Hid (W = _) := hW
  have hwl : w.heap.size + 1 < W.heap.size := by rw [hW]; simp
  clear hW A1 bx0
  have HK : Hid (∀ wx, Below w.heap.size w wx → EntD.Ok wx e) := fun wx b => hx.later b
  have HRZ := Lib.hid rz
  have HBX := Lib.hid bx
  have HA : Hid (Below w.heap.size w W) := A2
  have HY : Hid (Bys e.row ∧ Bys e.qual ∧ Bys e.val) := ⟨hx.1.1, hx.2.1.1, hx.2.2.1⟩
  have HL : Hid (Shrt e) := hl
  obtain ⟨vr, fam, vq, ts, seq, kind, vv, row, qual, val⟩ := e
  subst hz
  simp only [EntD.cells] at *
  have C1 : Hid (∀ wx, Below w.heap.size w wx → Calls Tryz.prog 74 #[vr] wx _) := fun wx b => copied3_any (HK.out _ b).1 HL.out.1
  have C2 : Hid (∀ wx, Below w.heap.size w wx → Calls Tryz.prog 74 #[vq] wx _) := fun wx b => copied3_any (HK.out _ b).2.1 HL.out.2.1
  have C3 : Hid (∀ wx, Below w.heap.size w wx → Calls Tryz.prog 74 #[vv] wx _) := fun wx b => copied3_any (HK.out _ b).2.2 HL.out.2.2
  have y0 : W.cell? ⟨w.heap.size, 0, none⟩ = some vr := bx.vr
  clear A2 bx rz hl hx
  go_enter Tryz.func35, Tryz.ntmps35
  go_wp2_with fail
  rw [← HW.out]
  clear HW
  go_wp2_with fail
  refine Calls.mono (C1.out _ HA.out) ?_
  rintro e1 w1 ⟨a1, m1, c1, rfl, o1, b1⟩
  have B1 := Lib.hid (HA.out.trans (b1.mono HA.out.size))
  have bx1 := HBX.out.later b1
  have g0 := bx1.fzA 0
  have v0 := bx1.vr
  have HO1 := Lib.hid (And.intro o1 (And.intro b1 bx1))
  clear o1 b1 bx1 y0
  go_upto_region 2 with fail
  have bx1 := HO1.out.2.2.put0 (.slice a1 m1 c1)
  have B1' := B1.out.setCell (p := ⟨w.heap.size, 0, none⟩) (Nat.le_refl _) (.slice a1 m1 c1)
  have K1 : KpG (fun i => W.heap.size ≤ i) w1 (w1.setCell ⟨w.heap.size, 0, none⟩ (.slice a1 m1 c1)) := (KpG.refl _ w1).setCell (by omega) _ _
  have R1 := (Below.heap_setCell w1 ⟨w.heap.size, 0, none⟩ (.slice a1 m1 c1) (w.heap.size + 1) (by show w.heap.size + 1 ≠ w.heap.size; omega)).trans ((HO1.out.2.1.block _ hwl).trans HRZ.out)
  have S1 : (w1.setCell ⟨w.heap.size, 0, none⟩ (.slice a1 m1 c1)).heap.size = w1.heap.size := World.size_setCell _ _ _
  generalize w1.setCell ⟨w.heap.size, 0, none⟩ (.slice a1 m1 c1) = X1 at *
  have y2 := bx1.vq
  have H1 := Lib.hid (And.intro bx1 (And.intro B1' (And.intro K1 (And.intro R1 S1))))
  clear bx1 B1' K1 R1 S1 v0 g0
  go_wp2_with fail
  refine Calls.mono (C2.out _ H1.out.2.1) ?_
  rintro e2 w2 ⟨a2, m2, c2, rfl, o2, b2⟩
  have bx2 := H1.out.1.later b2
  have g2 := bx2.fzA 2
  have v2 := bx2.vq
  have B2 := Lib.hid (H1.out.2.1.trans (b2.mono H1.out.2.1.size))
  have HO2 := Lib.hid (And.intro o2 (And.intro b2 bx2))
  clear o2 b2 bx2 y2
  go_upto_region 3 with fail
  have bx2 := HO2.out.2.2.put2 (.slice a2 m2 c2)
  have B2' := B2.out.setCell (p := ⟨w.heap.size, 2, none⟩) (Nat.le_refl _) (.slice a2 m2 c2)
  have K2 : KpG (fun i => W.heap.size ≤ i) w2 (w2.setCell ⟨w.heap.size, 2, none⟩ (.slice a2 m2 c2)) := (KpG.refl _ w2).setCell (by omega) _ _
  have sW1 : W.heap.size ≤ X1.heap.size := by rw [H1.out.2.2.2.2]; exact HO1.out.2.1.size
  have R2 := (Below.heap_setCell w2 ⟨w.heap.size, 2, none⟩ (.slice a2 m2 c2) (w.heap.size + 1) (by show w.heap.size + 1 ≠ w.heap.size; omega)).trans ((HO2.out.2.1.block (w.heap.size + 1) (by omega)).trans H1.out.2.2.2.1)
  have S2 : (w2.setCell ⟨w.heap.size, 2, none⟩ (.slice a2 m2 c2)).heap.size = w2.heap.size := World.size_setCell _ _ _
  generalize w2.setCell ⟨w.heap.size, 2, none⟩ (.slice a2 m2 c2) = X2 at *
  have y6 := bx2.vv
  have H2 := Lib.hid (And.intro bx2 (And.intro B2' (And.intro K2 (And.intro R2 S2))))
  clear bx2 B2' K2 R2 S2 v2 g2
  go_wp2_with fail
  refine Calls.mono (C3.out _ H2.out.2.1) ?_
  rintro e3 w3 ⟨a3, m3, c3, rfl, o3, b3⟩
  have bx3 := H2.out.1.later b3
  have g6 := bx3.fzA 6
  have v6 := bx3.vv
  have B3 := Lib.hid (H2.out.2.1.trans (b3.mono H2.out.2.1.size))
  have HO3 := Lib.hid (And.intro o3 (And.intro b3 bx3))
  clear o3 b3 bx3 y6
  go_upto_region 4 with fail
  have sW2 : W.heap.size ≤ X2.heap.size := by rw [H2.out.2.2.2.2]; exact Nat.le_trans sW1 HO2.out.2.1.size
  have BF := HO3.out.2.2.put6 (.slice a3 m3 c3)
  have BW := B3.out.setCell (p := ⟨w.heap.size, 6, none⟩) (Nat.le_refl _) (.slice a3 m3 c3)
  have K3 : KpG (fun i => W.heap.size ≤ i) w3 (w3.setCell ⟨w.heap.size, 6, none⟩ (.slice a3 m3 c3)) := (KpG.refl _ w3).setCell (by omega) _ _
  have RZ := (Below.heap_setCell w3 ⟨w.heap.size, 6, none⟩ (.slice a3 m3 c3) (w.heap.size + 1) (by show w.heap.size + 1 ≠ w.heap.size; omega)).trans ((HO3.out.2.1.block (w.heap.size + 1) (by omega)).trans H2.out.2.2.2.1)
  generalize w3.setCell ⟨w.heap.size, 6, none⟩ (.slice a3 m3 c3) = WF at *
  obtain ⟨o1, b1, -⟩ := HO1.out
  obtain ⟨o2, b2, -⟩ := HO2.out
  obtain ⟨o3, b3, -⟩ := HO3.out
  have q1 := H1.out.2.2.2.2
  have q2 := H2.out.2.2.2.2
  have l1 : ∀ g, (Value.slice a1 m1 c1).ownBlock = some g → W.heap.size ≤ g ∧ g < w1.heap.size := fun g hg => o1.2.lt g hg
  have l2 : ∀ g, (Value.slice a2 m2 c2).ownBlock = some g → w1.heap.size ≤ g ∧ g < w2.heap.size := fun g hg => by have := o2.2.lt g hg; omega
  have l3 : ∀ g, (Value.slice a3 m3 c3).ownBlock = some g → w2.heap.size ≤ g ∧ g < w3.heap.size := fun g hg => by have := o3.2.lt g hg; omega
  have s1 : W.heap.size ≤ w1.heap.size := b1.size
  have s2 : X1.heap.size ≤ w2.heap.size := b2.size
  have s3 : X2.heap.size ≤ w3.heap.size := b3.size
  have k3 : ∀ g, W.heap.size ≤ g → g < w3.heap.size → WF.heap[g]? = w3.heap[g]? := fun g h h' => K3.block g h' h
  have k2 : ∀ g, W.heap.size ≤ g → g < w2.heap.size → WF.heap[g]? = w2.heap[g]? := fun g h h' => (k3 g h (by omega)).trans ((b3.block g (by omega)).trans (H2.out.2.2.1.block g h' h))
  have k1 : ∀ g, W.heap.size ≤ g → g < w1.heap.size → WF.heap[g]? = w1.heap[g]? := fun g h h' => (k2 g h (by omega)).trans ((b2.block g (by omega)).trans (H1.out.2.2.1.block g h' h))
  have p1 := (own_same o1 (fun g hg => k1 g (l1 g hg).1 (l1 g hg).2)).base (fun g hg => (l1 g hg).1) o1.len
  have p2 := (own_same o2 (fun g hg => k2 g (by have := l2 g hg; omega) (l2 g hg).2)).base (fun g hg => Nat.le_trans s1 (l2 g hg).1) o2.len
  have p3 := (own_same o3 (fun g hg => k3 g (by have := l3 g hg; omega) (l3 g hg).2)).base (fun g hg => Nat.le_trans s1 (Nat.le_trans (by omega) (l3 g hg).1)) o3.len
  have HE : Hid (EOk (fun i => W.heap.size ≤ i) WF ⟨.slice a1 m1 c1, fam, .slice a2 m2 c2, ts, seq, kind, .slice a3 m3 c3, row, qual, val⟩) := ⟨RdG.of_own p1 HY.out.1 (by have := HL.out.1; rw [p1.len]; simp only at this; omega) (fun i hi => hi), RdG.of_own p2 HY.out.2.1 (by have := HL.out.2.1; rw [p2.len]; simp only at this; omega) (fun i hi => hi), RdG.of_own p3 HY.out.2.2 (by have := HL.out.2.2; rw [p3.len]; simp only at this; omega) (fun i hi => hi)⟩
  have HO : Hid (O3 WF W.heap.size ⟨.slice a1 m1 c1, fam, .slice a2 m2 c2, ts, seq, kind, .slice a3 m3 c3, row, qual, val⟩) := by
    refine ⟨p1, p2, p3, fun g h k => ?_, fun g h k => ?_, fun g h k => ?_⟩
    · have := l1 g h; have := l2 g k; omega
    · have := l1 g h; have := l3 g k; omega
    · have := l2 g h; have := l3 g k; omega
  have HBW : Hid (Below w.heap.size w WF) := BW
  obtain ⟨y0', y1', y2', y3', y4', y5', y6'⟩ := (⟨BF.vr, BF.fam, BF.vq, BF.ts, BF.seq, BF.kind, BF.vv⟩ : _ ∧ _ ∧ _ ∧ _ ∧ _ ∧ _ ∧ _)
  simp only at y0' y1' y2' y3' y4' y5' y6'
  have z0 : WF.cell? ⟨w.heap.size + 1, 0, none⟩ = some (.slice none 0 0) := by simp [World.cell?, RZ]
  have f0 : WF.frozen? ⟨w.heap.size + 1, 0, none⟩ = false := by simp [World.frozen?, RZ]
  have z1 : WF.cell? ⟨w.heap.size + 1, 1, none⟩ = some (.int .i64 0) := by simp [World.cell?, RZ]
  have f1 : WF.frozen? ⟨w.heap.size + 1, 1, none⟩ = false := by simp [World.frozen?, RZ]
  have z2 : WF.cell? ⟨w.heap.size + 1, 2, none⟩ = some (.slice none 0 0) := by simp [World.cell?, RZ]
  have f2 : WF.frozen? ⟨w.heap.size + 1, 2, none⟩ = false := by simp [World.frozen?, RZ]
  have z3 : WF.cell? ⟨w.heap.size + 1, 3, none⟩ = some (.int .i64 0) := by simp [World.cell?, RZ]
  have f3 : WF.frozen? ⟨w.heap.size + 1, 3, none⟩ = false := by simp [World.frozen?, RZ]
  have z4 : WF.cell? ⟨w.heap.size + 1, 4, none⟩ = some (.int .i64 0) := by simp [World.cell?, RZ]
  have f4 : WF.frozen? ⟨w.heap.size + 1, 4, none⟩ = false := by simp [World.frozen?, RZ]
  have z5 : WF.cell? ⟨w.heap.size + 1, 5, none⟩ = some (.int .i64 0) := by simp [World.cell?, RZ]
  have f5 : WF.frozen? ⟨w.heap.size + 1, 5, none⟩ = false := by simp [World.frozen?, RZ]
  have z6 : WF.cell? ⟨w.heap.size + 1, 6, none⟩ = some (.slice none 0 0) := by simp [World.cell?, RZ]
  have f6 : WF.frozen? ⟨w.heap.size + 1, 6, none⟩ = false := by simp [World.frozen?, RZ]
  clear RZ BF K3 BW o1 o2 o3 b1 b2 b3 v6 g6 l1 l2 l3 k1 k2 k3 p1 p2 p3 q1 q2 s1 s2 s3 H1 H2 HO1 HO2 HO3 B1 B2 B3 C1 C2 C3 sW1 sW2 HK
  go_wp2
  refine bodyPost_ret (v := .agg #[.slice a1 m1 c1, .int .i64 fam, .slice a2 m2 c2, .int .i64 ts, .int .i64 seq, .int .i64 kind, .slice a3 m3 c3]) (by simp [results, Tryz.results35, go_sem, z0, z1, z2, z3, z4, z5, z6]) rfl ?_
  refine ⟨⟨.slice a1 m1 c1, fam, .slice a2 m2 c2, ts, seq, kind, .slice a3 m3 c3, row, qual, val⟩, rfl, ⟨rfl, rfl, rfl, rfl, rfl, rfl, rfl⟩, ?_, ?_, ?_⟩
  · refine (HE.out.kept ?_).mono (fun i hi => Nat.le_trans HA.out.size hi)
    exact (((((((KpG.refl _ WF).setCell (by omega) _ _).setCell (by omega) _ _).setCell (by omega) _ _).setCell (by omega) _ _).setCell (by omega) _ _).setCell (by omega) _ _).setCell (by omega) _ _
  · refine (HO.out.kept ?_).mono HA.out.size
    exact (((((((KpG.refl _ WF).setCell (by omega) _ _).setCell (by omega) _ _).setCell (by omega) _ _).setCell (by omega) _ _).setCell (by omega) _ _).setCell (by omega) _ _).setCell (by omega) _ _
  · exact ((((((HBW.out.setCell (Nat.le_succ _) _).setCell (Nat.le_succ _) _).setCell (Nat.le_succ _) _).setCell (Nat.le_succ _) _).setCell (Nat.le_succ _) _).setCell (Nat.le_succ _) _).setCell (Nat.le_succ _) _
end Go.Proofs.YthhkpkfpifllkaaGreat

namespace Go.Proofs.YthhkpkfpifllkaaGreat
open Go.RowKit Go.Maps
set_option linter.unusedVariables false

structure Cl (W wr : World) (zs : List EntD) (v : Value) : Prop where
  row : wr.ownsRow W.heap.size 84 7 v zs.length (evals zs)
  ents : ∀ x ∈ zs, O3 wr W.heap.size x
  ap : zs.Pairwise Dsj
  below : Below W.heap.size W wr
theorem Cl.rw {W wr : World} {zs : List EntD} {v : Value} (h : Cl W wr zs v) : Rw wr W.heap.size v zs (fun i => W.heap.size ≤ i ∧ i < wr.heap.size) :=
  ⟨h.row, h.ents, h.ap, fun k hk => h.row.lt k hk, fun x hx k hk => (h.ents x hx).lt k hk⟩
theorem row_ku {W w w' : World} {zs : List EntD} {v : Value} {B : Nat} (h : w.ownsRow B 84 7 v zs.length (evals zs)) (g : w.grownBy w' v.ownBlock) : KU w w' :=
  KU.grown g fun r hr => by
    rcases h.2 with ⟨h1, _⟩ | ⟨g', cap, cur, h3, h4, h5, _⟩
    · rw [h1] at hr; cases hr
    · rw [h3] at hr; cases hr; exact ⟨cur, _, _, h5, by decide⟩
theorem Cl.add {W wr w1 w3 : World} {zs : List EntD} {v u : Value} {x : EntD} (h : Cl W wr zs v) (b : Below wr.heap.size wr w1) (o : O3 w1 wr.heap.size x) {ob : Obj} (g : (w1.alloc ob).grownBy w3 v.ownBlock) (r : w3.ownsRow W.heap.size 84 7 u (zs ++ [x]).length (evals (zs ++ [x]))) : Cl W w3 (zs ++ [x]) u := by
  have A := (Below.refl w1.heap.size w1).alloc (Nat.le_refl _) ob
  have r1 : (w1.alloc ob).ownsRow W.heap.size 84 7 v zs.length (evals zs) := row_same h.row (fun g hg => (A.block g (Nat.lt_of_lt_of_le (h.row.lt g hg).2 b.size)).trans (b.block g (h.row.lt g hg).2))
  have ku := (KU.of A).trans (row_ku (W := W) r1 g)
  have bb := h.below.trans (b.mono h.below.size)
  refine ⟨r, fun y hy => ?_, ?_, ?_⟩
  · rcases List.mem_append.1 hy with q | q
    · exact ((h.ents y q).later b).ku ku
    · rw [List.mem_singleton] at q
      subst q
      exact (o.mono h.below.size).ku ku
  · rw [List.pairwise_append]
    refine ⟨h.ap, List.pairwise_singleton _ _, fun a ha c hc g hg hk => ?_⟩
    rw [List.mem_singleton] at hc
    subst hc
    have := (h.ents a ha).lt g hg
    have := o.lt g hk
    omega
  · have bA := bb.trans (A.mono bb.size)
    exact bA.grown g bA.size (fun k hk => (h.row.lt k hk).1)
set_option maxRecDepth 100000 in
set_option maxHeartbeats 4000000 in
theorem cloneAll_any {W : World} {a : Option Addr} {cap : Nat} {l : List EntD} (h0 : RdL3 W a cap l) (hs : ∀ x ∈ l, Shrt x) (hl : l.length ≤ 1353245080300) :
    Calls Tryz.prog 14 #[.slice a l.length cap] W fun r W' => ∃ v zs, r = .returned v ∧ Cl W W' zs v ∧ zs.map EntD.dat = l.map EntD.dat := by
  obtain ⟨N, hN⟩ : ∃ N, N = l.length := ⟨_, rfl⟩
  rw [← hN] at hl ⊢
  have HN := Lib.hid hN
  have HR := Lib.hid h0
  have HS := Lib.hid hs
  clear hN h0 hs
  go_enter Tryz.func14, Tryz.ntmps14
  go_wp2
  go_loopw [3, 4] (fun o i wr => ∃ (k : Nat) (zs : List EntD) (a' : Option Addr) (c' : Nat), k ≤ N ∧ i = .int .i64 (k : Int) ∧ o = .slice a' zs.length c' ∧ Hid (Cl W wr zs (.slice a' zs.length c') ∧ zs.map EntD.dat = (l.take k).map EntD.dat)) (fun _ i _ => N - (intOf i).toNat)
  case atStart => exact ⟨0, [], none, 0, Nat.zero_le _, rfl, rfl, ⟨(Rw.nil W W.heap.size (fun _ => True)).row, by simp, List.Pairwise.nil, Below.refl _ _⟩, by simp⟩
  case round =>
    obtain ⟨k, zs, a', c', hk, rfl, rfl, HO⟩ := hrel
    have k0 : (0 : Int) ≤ (k : Int) := by omega
    by_cases hlt : k < N
    · have hlt2 : (k : Int) < (N : Int) := by omega
      obtain ⟨e, he⟩ : ∃ e, l[k]? = some e := ⟨l[k]'(by rw [← HN.out]; exact hlt), List.getElem?_eq_getElem _⟩
      have hrd := HR.out.later HO.out.1.below
      have hok := hrd.ok e (List.mem_of_getElem? he)
      rcases hrd.at_ with h0 | ⟨b, off, rfl, hc⟩
      · rw [h0] at he; simp at he
      have d0 := hc k e he 0 e.vr rfl
      have d1 := hc k e he 1 (.int .i64 e.fam) rfl
      have d2 := hc k e he 2 e.vq rfl
      have d3 := hc k e he 3 (.int .i64 e.ts) rfl
      have d4 := hc k e he 4 (.int .i64 e.seq) rfl
      have d5 := hc k e he 5 (.int .i64 e.kind) rfl
      have d6 := hc k e he 6 e.vv rfl
      simp only [Nat.add_zero] at d0
      have HE := Lib.hid he
      have HCl := Lib.hid (cloneR_own hok (HS.out e (List.mem_of_getElem? he)))
      have hzl : zs.length = k := by
        have := congrArg List.length HO.out.2
        rw [List.length_map, List.length_map, List.length_take] at this
        rw [HN.out] at hlt
        omega
      have HZl := Lib.hid hzl
      unfold EntD.cells at HCl
      clear hrd hok hc he hzl
      go_wp2_with fail
      refine Calls.mono HCl.out ?_
      rintro z1 w1 ⟨x, rfl, sx, ok1, o31, b1⟩
      have HSx := Lib.hid (EntD.dat_same.2 sx)
      have O31 := Lib.hid o31
      have B1 := Lib.hid b1
      obtain ⟨xr, xf, xq, xt, xs2, xk, xv, xrow, xqual, xval⟩ := x
      obtain ⟨ar, cr, er⟩ := own_form' o31.row
      obtain ⟨aq, cq, eq⟩ := own_form' o31.qual
      obtain ⟨aw, cw, ew⟩ := own_form' o31.val
      simp only at er eq ew
      subst er eq ew
      dsimp only
      clear sx ok1 o31 b1 HCl d0 d1 d2 d3 d4 d5 d6
      have A := Lib.hid ((Below.refl w1.heap.size w1).alloc (Nat.le_refl _) (.cells #[.slice ar xrow.length cr, .int .i64 xf, .slice aq xqual.length cq, .int .i64 xt, .int .i64 xs2, .int .i64 xk, .slice aw xval.length cw] 84))
      have HRow : Hid ((w1.alloc (.cells #[.slice ar xrow.length cr, .int .i64 xf, .slice aq xqual.length cq, .int .i64 xt, .int .i64 xs2, .int .i64 xk, .slice aw xval.length cw] 84)).ownsRow W.heap.size 84 7 (.slice a' zs.length c') zs.length (evals zs)) := row_same HO.out.1.row (fun g hg => (A.out.block g (Nat.lt_of_lt_of_le (HO.out.1.row.lt g hg).2 B1.out.size)).trans (B1.out.block g (HO.out.1.row.lt g hg).2))
      have HSz : Hid (W.heap.size ≤ (w1.alloc (.cells #[.slice ar xrow.length cr, .int .i64 xf, .slice aq xqual.length cq, .int .i64 xt, .int .i64 xs2, .int .i64 xk, .slice aw xval.length cw] 84)).heap.size) := Nat.le_trans HO.out.1.below.size (Nat.le_trans B1.out.size A.out.size)
      go_wp2_with (at_builtin; refine wpl_append_ent (x := (⟨.slice ar xrow.length cr, xf, .slice aq xqual.length cq, xt, xs2, xk, .slice aw xval.length cw, xrow, xqual, xval⟩ : EntD)) (xs := zs) rfl _ _ rfl rfl HRow.out ⟨w1.heap.size, 0, none⟩ rfl (ent_new w1 (⟨.slice ar xrow.length cr, xf, .slice aq xqual.length cq, xt, xs2, xk, .slice aw xval.length cw, xrow, xqual, xval⟩ : EntD)) (O3.cells_one O31.out) (by have := HZl.out; omega) HSz.out ?_)
      intro a4 c4 X4 row4 gr4
      have H4 := Lib.hid (HO.out.1.add B1.out O31.out gr4 (u := .slice a4 (zs.length + 1) c4) (by rw [List.length_append]; exact row4))
      have HD : Hid ((zs ++ [(⟨.slice ar xrow.length cr, xf, .slice aq xqual.length cq, xt, xs2, xk, .slice aw xval.length cw, xrow, xqual, xval⟩ : EntD)]).map EntD.dat = (l.take (k + 1)).map EntD.dat) := by
        unfold Hid
        rw [List.take_add_one, HE.out, List.map_append, List.map_append, HO.out.2]
        simp only [List.map_cons, List.map_nil, Option.toList_some]
        rw [HSx.out]
      clear row4 gr4 HRow HSz A
      go_wp2
      go_roundw
      case rel => exact ⟨k + 1, _, a4, c4, by omega, by go_num, by rw [List.length_append]; rfl, by rw [List.length_append]; exact H4.out, HD.out⟩
      case measure => simp only [intOf]; omega
    · have hg : ¬ (k : Int) < (N : Int) := by omega
      have HF : Hid (zs.map EntD.dat = l.map EntD.dat) := by
        unfold Hid
        rw [HO.out.2, List.take_of_length_le (by rw [← HN.out]; omega)]
      go_wp2
      go_ret
      exact ⟨_, rfl, zs, HO.out.1, HF.out⟩
theorem evals_app3 (a b : List EntD) : evals (a ++ b) = evals a ++ evals b := by simp [evals]
theorem evals_get3 : ∀ {xs : List EntD} {j : Nat} {u : Value}, (evals xs)[j]? = some u → ∃ x, xs[j / 7]? = some x ∧ x.cells.toList[j % 7]? = some u
  | [], j, u, h => by simp [evals] at h
  | x :: xs, j, u, h => by
    rw [evals_cons] at h
    by_cases hj : j < 7
    · rw [List.getElem?_append_left (show j < x.cells.toList.length from hj)] at h
      rw [Nat.div_eq_of_lt hj, Nat.mod_eq_of_lt hj]
      exact ⟨x, by simp, h⟩
    · rw [List.getElem?_append_right (show x.cells.toList.length ≤ j from by show 7 ≤ j; omega)] at h
      have h' : (evals xs)[j - 7]? = some u := h
      obtain ⟨y, h1, h2⟩ := evals_get3 h'
      have e1 : j / 7 = (j - 7) / 7 + 1 := by omega
      have e2 : j % 7 = (j - 7) % 7 := by omega
      rw [e1, e2]
      exact ⟨y, by simpa using h1, h2⟩
end Go.Proofs.YthhkpkfpifllkaaGreat
