import Derived.Test.YtemdhpjoakldhaaJ24
import Derived.Test.YtemdhpjoakldhaaJ22
import Derived.Test.YtemdhpjoakldhaaJ15
namespace Go.Proofs.Ytemdhpjoakldhaa
open Go.RowKit
set_option linter.unusedVariables false

theorem mu_self {m2 : Bool} {low : Int} : ∀ v, staysS m2 low v = true → staysS m2 low v = true := fun _ h => h
theorem mu_minor {low : Int} : ∀ v, staysS true low v = true → staysS false low v = true := fun v h => by
  unfold staysS at h ⊢
  by_cases h5 : v.fate = 5
  · simp [h5]
  · by_cases h6 : v.fate = 6
    · simp [h6]
    · by_cases h7 : v.fate = 7
      · simp [h7]
      · simp [h5, h6, h7] at h
set_option maxRecDepth 100000 in
set_option maxHeartbeats 4000000 in
theorem retainAgain_walk {W : World} {fa : Option Addr} {n fc : Nat} {fs : List FamD} (hr : RdF W (.slice fa n fc) fs) (hn : fa = none → fc = 0) (clock low : Int) {v : Value} {l : List EntD} (h0 : RdE3 W v l) :
    Calls Try.prog 5 #[.agg #[.slice fa n fc], .int .i64 clock, .int .i64 low, v] W fun e w' => e = .returned (.bool true) ∧ Below W.heap.size W w' := by
  obtain ⟨a, cap, rfl, h0, hl⟩ := h0
  obtain ⟨C, hC⟩ : ∃ C : Nat, (C = 0 ↔ SchemaOk fs) ∧ (C = 0 ∨ C = 28) := by
    by_cases h : SchemaOk fs
    · exact ⟨0, ⟨fun _ => h, fun _ => rfl⟩, .inl rfl⟩
    · exact ⟨28, ⟨(fun z => by cases z), fun z => absurd z h⟩, .inr rfl⟩
  obtain rfl : n = fs.length := by
    obtain ⟨_, _, e, _⟩ := hr
    simp only [Value.slice.injEq] at e
    exact e.2.1
  have HR := Lib.hid hr
  have H0 := Lib.hid h0
  have HC := Lib.hid hC
  clear hr h0 hC
  obtain ⟨N, hN⟩ : ∃ N, N = l.length := ⟨_, rfl⟩
  obtain ⟨K, hK⟩ : ∃ K, K = fs.length := ⟨_, rfl⟩
  have HL : Hid (l.length ≤ 1353245080300) := hl
  rw [← hN, ← hK]
  obtain ⟨X0, hX0⟩ : ∃ X0, X0 = W.alloc (.cells #[.slice fa K fc] 24) := ⟨_, rfl⟩
  have A1 : Below W.heap.size W X0 := by rw [hX0]; exact (Below.refl _ _).alloc (Nat.le_refl _) _
  have hcell : X0.cell? ⟨W.heap.size, 0, none⟩ = some (.slice fa K fc) := by rw [hX0]; exact cell_at9 (heap_new9 _ _ rfl) rfl
  have HCell : Hid (∀ Z, Below X0.heap.size X0 Z → Z.cell? ⟨W.heap.size, 0, none⟩ = some (.slice fa K fc)) := fun Z b => (b.cell (p := ⟨W.heap.size, 0, none⟩) (World.block_lt_of_cell? _ _ hcell)).trans hcell
  have HA1 := Lib.hid A1
  have HX0 := Lib.hid hX0
  clear hX0 A1 hcell
  have HG := Lib.hid (fun (Z : World) (b : Below X0.heap.size X0 Z) major (hE : squashE C fs clock low l = 0) => squash_good (HR.out.later (HA1.out.trans (b.mono HA1.out.size))) hn C HC.out clock low major (H0.out.later (HA1.out.trans (b.mono HA1.out.size))) HL.out hE)
  have HBd := Lib.hid (fun (Z : World) (b : Below X0.heap.size X0 Z) major (hE : squashE C fs clock low l ≠ 0) => squash_bad (HR.out.later (HA1.out.trans (b.mono HA1.out.size))) hn C HC.out clock low major (H0.out.later (HA1.out.trans (b.mono HA1.out.size))) HL.out hE)
  rw [← hN, ← hK] at HG HBd
  have HK := Lib.hid hK
  have HL2 : Hid (N ≤ 1353245080300) := by unfold Hid; rw [hN]; exact HL.out
  clear hl hN hK
  go_enter Try.func5, Try.ntmps5
  go_wp2_with fail
  rw [← HX0.out]
  refine Calls.mono (started3 _) ?_
  rintro e1 w1 ⟨rfl, b1⟩
  have B1 := Lib.hid b1
  have s1 := HCell.out _ b1
  clear b1
  by_cases hE : squashE C fs clock low l = 0
  · have HE := Lib.hid hE
    clear hE
    go_wp2_with fail
    refine Calls.mono (HG.out _ B1.out false HE.out) ?_
    rintro e1 w2 ⟨b2, zs, m, a2, c2, ho, rfl, rd2, dz, ln2⟩
    rw [HK.out] at ho
    have B2 := Lib.hid (B1.out.trans (b2.mono B1.out.size))
    have s2 := HCell.out _ B2.out
    have F2 := Lib.hid (And.intro ho (And.intro rd2 (And.intro dz ln2)))
    clear b2 ho rd2 dz ln2
    go_wp2_with fail
    refine Calls.mono (HG.out _ B2.out true HE.out) ?_
    rintro e1 w3 ⟨b3, ys, m', a3, c3, ho3, rfl, rd3, dy, ln3⟩
    rw [HK.out] at ho3
    have em := ho3.unique F2.out.1
    subst em
    have B3 := Lib.hid (B2.out.trans (b3.mono B2.out.size))
    have s3 := HCell.out _ B3.out
    have F3 := Lib.hid (And.intro (F2.out.2.1.later b3) (And.intro rd3 (And.intro dy ln3)))
    clear b3 ho3 rd3 dy ln3
    have HZ := Lib.hid (fun (Z : World) (b : Below w3.heap.size w3 Z) major => squash_good (HR.out.later (HA1.out.trans ((B3.out.trans (b.mono B3.out.size)).mono HA1.out.size))) hn C HC.out clock low major (F3.out.1.later b) (Nat.le_trans F2.out.2.2.2 HL2.out) (squashE_left HE.out F2.out.1 F2.out.2.2.1))
    have HY := Lib.hid (fun (Z : World) (b : Below w3.heap.size w3 Z) major => squash_good (HR.out.later (HA1.out.trans ((B3.out.trans (b.mono B3.out.size)).mono HA1.out.size))) hn C HC.out clock low major (F3.out.2.1.later b) (Nat.le_trans F3.out.2.2.2 HL2.out) (squashE_left HE.out F2.out.1 F3.out.2.2.1))
    rw [← HK.out] at HZ HY
    go_wp2_with (go_at_call 15; refine (num_sym _ _).mono ?_; rintro e1 wn ⟨rfl, rfl⟩)
    refine Calls.mono (HZ.out _ (Below.refl _ _) false) ?_
    rintro e1 w4 ⟨b4, cs, mc, a4, c4, ho4, rfl, rd4, dc, ln4⟩
    rw [HK.out] at ho4
    have ec : cs.map EntD.dat = zs.map EntD.dat := by rw [dc, left_ord F2.out.1 F2.out.2.2.1 ho4, again F2.out.1.ah F2.out.1.va mu_self, F2.out.2.2.1]
    have B4 := Lib.hid b4
    have s4 := HCell.out _ (B3.out.trans (b4.mono B3.out.size))
    have F4 := Lib.hid (And.intro rd4 (And.intro ec ln4))
    clear b4 ho4 rd4 dc ln4 ec
    go_wp2_with fail
    refine Calls.mono (HZ.out _ B4.out true) ?_
    rintro e1 w5 ⟨b5, ds, md, a5, c5, ho5, rfl, rd5, dd, ln5⟩
    rw [HK.out] at ho5
    have ed : ds.map EntD.dat = ys.map EntD.dat := by rw [dd, left_ord F2.out.1 F2.out.2.2.1 ho5, again F2.out.1.ah F2.out.1.va mu_minor, F3.out.2.2.1]
    have B5 := Lib.hid (B4.out.trans (b5.mono B4.out.size))
    have s5 := HCell.out _ (B3.out.trans (B5.out.mono B3.out.size))
    have F5 := Lib.hid (And.intro rd5 (And.intro ed (And.intro ln5 b5)))
    clear b5 ho5 rd5 dd ln5 ed
    go_wp2_with fail
    refine Calls.mono (HY.out _ B5.out true) ?_
    rintro e1 w6 ⟨b6, xs, mx, a6, c6, ho6, rfl, rd6, dx, ln6⟩
    rw [HK.out] at ho6
    have ex : xs.map EntD.dat = ys.map EntD.dat := by rw [dx, left_ord F2.out.1 F3.out.2.2.1 ho6, again F2.out.1.ah F2.out.1.va mu_self, F3.out.2.2.1]
    have B6 := Lib.hid (B5.out.trans (b6.mono B5.out.size))
    have HS1 : Hid (∀ Z, Below w6.heap.size w6 Z → Calls Try.prog 17 #[.slice a4 cs.length c4, .slice a2 zs.length c2] Z fun e w' => e = .returned (.bool true) ∧ Below Z.heap.size Z w') := fun Z b => sameAll_ok (((F4.out.1.later F5.out.2.2.2).later b6).later b) ((F3.out.1.later B6.out).later b) F4.out.2.1 (Nat.le_trans F4.out.2.2 (Nat.le_trans F2.out.2.2.2 HL2.out))
    have HS2 : Hid (∀ Z, Below w6.heap.size w6 Z → Calls Try.prog 17 #[.slice a5 ds.length c5, .slice a3 ys.length c3] Z fun e w' => e = .returned (.bool true) ∧ Below Z.heap.size Z w') := fun Z b => sameAll_ok ((F5.out.1.later b6).later b) ((F3.out.2.1.later B6.out).later b) F5.out.2.1 (Nat.le_trans F5.out.2.2.1 (Nat.le_trans F2.out.2.2.2 HL2.out))
    have HS3 : Hid (∀ Z, Below w6.heap.size w6 Z → Calls Try.prog 17 #[.slice a6 xs.length c6, .slice a3 ys.length c3] Z fun e w' => e = .returned (.bool true) ∧ Below Z.heap.size Z w') := fun Z b => sameAll_ok (rd6.later b) ((F3.out.2.1.later B6.out).later b) ex (Nat.le_trans ln6 (Nat.le_trans F3.out.2.2.2 HL2.out))
    have KW := Lib.hid (HA1.out.trans ((B3.out.trans (B6.out.mono B3.out.size)).mono HA1.out.size))
    have T0 : Below w6.heap.size w6 w6 := Below.refl _ _
    clear b6 ho6 rd6 dx ln6 ex F2 F3 F4 F5 B1 B2 B3 B4 B5 B6 s1 s2 s3 s4 s5 HZ HY HG HBd HE
    go_wp2_with (first | (go_at_call 15; refine (num_sym _ _).mono ?_; rintro e1 wn ⟨rfl, rfl⟩) | (have hq := T2; clear hq; (go_at_call 17; refine Calls.mono (HS3.out _ T2) ?_; rintro e1 z3 ⟨rfl, t3⟩; have T3 := T2.trans (t3.mono T2.size))) | (have hq := T1; clear hq; (go_at_call 17; refine Calls.mono (HS2.out _ T1) ?_; rintro e1 z2 ⟨rfl, t2⟩; have T2 := T1.trans (t2.mono T1.size))) | (go_at_call 17; refine Calls.mono (HS1.out _ T0) ?_; rintro e1 z1 ⟨rfl, t1⟩; have T1 := T0.trans (t1.mono T0.size)))
    go_ret
    exact ⟨rfl, KW.out.trans (T3.mono KW.out.size)⟩
  · have HE := Lib.hid hE
    go_wp2_with fail
    refine Calls.mono (HBd.out _ B1.out false hE) ?_
    rintro e1 w2 ⟨b2, rfl⟩
    have B2 := Lib.hid (B1.out.trans (b2.mono B1.out.size))
    have s2 := HCell.out _ B2.out
    clear b2
    go_wp2_with fail
    refine Calls.mono (HBd.out _ B2.out true HE.out) ?_
    rintro e1 w3 ⟨b3, rfl⟩
    have B3 := Lib.hid (HA1.out.trans ((B2.out.trans (b3.mono B2.out.size)).mono HA1.out.size))
    have b0 : (squashE C fs clock low l != 0) = true := by simpa using hE
    clear b3 hE
    go_wp2_with (go_at_call 15; refine (num_sym _ _).mono ?_; rintro e1 wn ⟨rfl, rfl⟩)
    go_ret
    exact ⟨rfl, B3.out⟩
end Go.Proofs.Ytemdhpjoakldhaa

namespace Go.Proofs.Ytemdhpjoakldhaa
open Go.RowKit
set_option linter.unusedVariables false

/-- Is it shown, up to the time tm? -/
def shw (tm : Int) (v : Vd) : Bool := decide (v.fate = 5 ∧ v.e.kind = 1 ∧ v.e.ts ≤ tm)
/-- What has been shown so far is all that may be. -/
structure SI (tm : Int) (vs : List Vd) (s : Sp) : Prop where
  c : 1 ≤ s.rank → 0 ≤ (showS tm 16 vs).1 ∧ (showS tm 16 vs).1 ≤ s.rank
  r : 0 ≤ s.rank
  out : (showS tm 16 vs).2 = (vs.filter (shw tm)).map Vd.e
section
variable {fs : List (Int × Int)} {clock tm : Int} {vs : List Vd} {s : Sp}
theorem SI.plain (h : SI tm vs s) (v : Vd) (h0 : v.rank = 0) (h5 : v.fate ≠ 5) : SI tm (vs ++ [v]) s := by
  have e : showS tm 16 (vs ++ [v]) = showS tm 16 vs := by
    rw [showS_snoc]
    unfold showStep
    rw [if_neg (by simp [h5]), if_neg (by omega)]
  refine ⟨by rw [e]; exact h.c, h.r, ?_⟩
  rw [e, h.out, List.filter_append, List.map_append]
  have : shw tm v = false := by unfold shw; simp [h5]
  simp [this]
theorem SI.to (h : SI tm vs s) {s' : Sp} (hr : s'.rank = s.rank ∨ s'.rank = 0) : SI tm vs s' := by
  refine ⟨fun z => ?_, ?_, h.out⟩
  · rcases hr with e | e
    · rw [e] at z ⊢; exact h.c z
    · omega
  · rcases hr with e | e
    · rw [e]; exact h.r
    · omega
theorem SI.decide (hM : ∀ i, (famAt fs i).1 ≤ 16) (h : SI tm vs s) (e : En) : SI tm (vs ++ [(decideS fs clock s e).1]) (decideS fs clock s e).2 := by
  unfold decideS
  split
  · exact h.plain _ rfl (by simp)
  · split
    · exact h.plain _ rfl (by simp)
    · split
      · exact h.plain _ rfl (by simp)
      · obtain ⟨v, hv⟩ : ∃ v : Vd, v = ⟨e, if (famAt fs e.fam).1 < s.rank + 1 then 4 else 5, s.rank + 1⟩ := ⟨_, rfl⟩
        simp only
        rw [← hv]
        have hM := hM e.fam
        have h0 := h.r
        have hrk : v.rank = s.rank + 1 := by rw [hv]
        have hft : v.fate = 5 → s.rank + 1 ≤ 16 := fun z => by
          rw [hv] at z
          simp only at z
          split at z
          · cases z
          · omega
        obtain ⟨c', hc'⟩ : ∃ c' : Int, c' = if v.rank = 1 then 0 else (showS tm 16 vs).1 := ⟨_, rfl⟩
        have hb : 0 ≤ c' ∧ c' ≤ s.rank := by
          rw [hc']
          by_cases z : v.rank = 1
          · rw [if_pos z]; omega
          · rw [if_neg z]; exact h.c (by omega)
        have es : showS tm 16 (vs ++ [v]) = if shw tm v = true then (c' + 1, (showS tm 16 vs).2 ++ [v.e]) else (c', (showS tm 16 vs).2) := by
          rw [showS_snoc]
          unfold showStep shw
          rw [← hc']
          by_cases z : v.fate = 5 ∧ v.e.kind = 1 ∧ v.e.ts ≤ tm
          · have := hft z.1
            rw [if_pos ⟨z.1, z.2.1, z.2.2, by omega⟩, if_pos (by simp [z])]
          · rw [if_neg (fun y => z ⟨y.1, y.2.1, y.2.2.1⟩), if_neg (by simpa using z)]
        refine ⟨fun _ => ?_, ?_, ?_⟩
        · rw [es]
          show _ ∧ _ ≤ s.rank + 1
          split
          · simp only; omega
          · simp only; omega
        · show 0 ≤ s.rank + 1; omega
        · rw [es, List.filter_append, List.map_append]
          cases z : shw tm v with
          | true => simp [z, h.out]
          | false => simp [z, h.out]
theorem SI.resolve (hM : ∀ i, (famAt fs i).1 ≤ 16) (h : SI tm vs s) (k : Int) : SI tm (vs ++ (resolveS fs clock s k).1) (resolveS fs clock s k).2 := by
  unfold resolveS
  split
  · exact SI.decide hM (h.to (s' := { s with waiting := false }) (.inl rfl)) _
  · simpa using h
theorem SI.enter (hM : ∀ i, (famAt fs i).1 ≤ 16) (h : SI tm vs s) (e : En) : SI tm (vs ++ (enterS fs clock s e).1) (enterS fs clock s e).2 := by
  unfold enterS
  split
  · simpa using h
  · refine (h.resolve hM 3).to ?_
    unfold leftS
    cases sameFam s e <;> cases sameCol s e <;> simp
theorem SI.step (hM : ∀ i, (famAt fs i).1 ≤ 16) (h : SI tm vs s) (e : En) : SI tm (vs ++ (stepS fs clock s e).1) (stepS fs clock s e).2 := by
  have hE := h.enter (clock := clock) hM e
  unfold stepS
  split
  · rw [← List.append_assoc]
    have : SI tm (vs ++ (enterS fs clock s e).1 ++ [(stretchS (enterS fs clock s e).2 e).1]) (enterS fs clock s e).2 := hE.plain _ (by unfold stretchS; split <;> rfl) (by unfold stretchS; split <;> simp)
    exact this.to (.inl (by unfold stretchS rememberS; split <;> rfl))
  · split
    · split
      · rw [← List.append_assoc, ← List.append_assoc]
        exact ((hE.resolve (clock := clock) hM 2).plain ⟨e, 1, 0⟩ rfl (by simp)).to (.inl rfl)
      · rw [← List.append_assoc]
        exact (hE.plain ⟨e, 1, 0⟩ rfl (by simp)).to (.inl rfl)
    · split
      · exact hE.to (.inl rfl)
      · rw [← List.append_assoc]
        exact (SI.decide hM hE e).to (.inl rfl)
theorem SI.walk (hM : ∀ i, (famAt fs i).1 ≤ 16) : ∀ (l : List En) {vs : List Vd} {s : Sp}, SI tm vs s → SI tm (vs ++ (walkS fs clock s l).1) (walkS fs clock s l).2
  | [], vs, s, h => by simpa [walkS] using h
  | e :: l, vs, s, h => by
    have := SI.walk hM l (h.step (clock := clock) hM e)
    rw [List.append_assoc] at this
    exact this
/-- All that may be shown is shown. -/
theorem show_all (hM : ∀ i, (famAt fs i).1 ≤ 16) (l : List En) : (showS tm 16 (verdictsS fs clock l)).2 = ((verdictsS fs clock l).filter (shw tm)).map Vd.e := by
  have h0 : SI tm [] Sp.zero := ⟨fun z => by simp [Sp.zero] at z, by simp [Sp.zero], rfl⟩
  have h1 := (SI.walk (clock := clock) hM l h0).resolve (clock := clock) hM 3
  rw [List.nil_append] at h1
  exact h1.out
theorem shw_kept {v : Vd} (h : shw tm v = true) : kept v = true := by
  unfold shw at h
  unfold kept
  simp only [decide_eq_true_eq] at h ⊢
  omega
/-- What is visible of a list in order. -/
theorem show_spec (hM : ∀ i, (famAt fs i).1 ≤ 16) {m : List En} (hs : m.Pairwise Ah) (hv : ∀ e ∈ m, Va e) : (showS tm 16 (verdictsS fs clock m)).2 = (m.filter fun x => shw tm (sv fs clock m x)).map (tld m) := by
  rw [show_all hM]
  have e1 : ∀ l : List Vd, l.filter (shw tm) = (l.filter kept).filter (shw tm) := fun l => by
    rw [List.filter_filter]
    apply List.filter_congr
    intro v _
    cases h : shw tm v with
    | false => rfl
    | true => rw [shw_kept h]; rfl
  rw [e1, verdicts_spec hs hv, ← e1, List.filter_map, List.map_map]
  apply List.map_congr_left
  intro x _
  exact sv_e m x
/-- No more of a column than the family's Max. -/
theorem col_max {m : List En} (hs : m.Pairwise Ah) (hx : ∀ e ∈ m, Va e) (e : En) (hm : 0 ≤ (famAt fs e.fam).1) : ((m.filter fun x => decide ((sv fs clock m x).fate = 5) && decide (x.kind ≤ 3) && mates x e).length : Int) ≤ (famAt fs e.fam).1 := by
  obtain ⟨F, hF⟩ : ∃ F, F = m.filter fun x => decide ((sv fs clock m x).fate = 5) && decide (x.kind ≤ 3) && mates x e := ⟨_, rfl⟩
  rw [← hF]
  rcases List.eq_nil_or_concat F with h0 | ⟨G, y, hG⟩
  · rw [h0]; simpa using hm
  · rw [List.concat_eq_append] at hG
    have hsF : F.Pairwise Ah := hF ▸ hs.filter _
    have hyF : y ∈ F := by rw [hG]; simp
    have hy := List.mem_filter.1 (hF ▸ hyF)
    simp only [Bool.and_eq_true, decide_eq_true_eq] at hy
    obtain ⟨ym, ⟨y5, y3⟩, yM⟩ := hy
    have st : ∀ x, (sv fs clock m x).fate = 5 → staysS false 0 (sv fs clock m x) = true := fun x h => by unfold staysS; rw [if_pos h]
    have k3 : ∀ x, x.kind ≤ 3 → (sv fs clock m x).fate = 5 → kd m x ≠ 3 := fun x h3 h5 z => by
      have s := stays_ver h3 (st x h5)
      rw [sv_ver h3 s.1 s.2.1 s.2.2.1, if_pos z] at h5
      cases h5
    have sy := stays_ver y3 (st y y5)
    have hab := sy.2.2.2 (k3 y y3 y5)
    have yf : (famAt fs y.fam).1 = (famAt fs e.fam).1 := by rw [(mates_iff.1 yM).2.1]
    have hle : (G.length : Int) ≤ above fs clock m y := by
      unfold above
      have : G.Sublist (m.filter fun x => counts fs clock m x && mates x y && decide (y.ts < x.ts)) := by
        have hGF : G.Sublist F := by rw [hG]; exact List.sublist_append_left _ _
        have hGm : G.Sublist m := hGF.trans (hF ▸ List.filter_sublist)
        have hGall : ∀ x ∈ G, (counts fs clock m x && mates x y && decide (y.ts < x.ts)) = true := fun x hxG => by
          have hxF : x ∈ F := hGF.subset hxG
          have h1 := List.mem_filter.1 (hF ▸ hxF)
          simp only [Bool.and_eq_true, decide_eq_true_eq] at h1
          obtain ⟨xm, ⟨x5, x3⟩, xM⟩ := h1
          have sx := stays_ver x3 (st x x5)
          have a1 := mates_iff.1 xM
          have a2 := mates_iff.1 yM
          have hxy : Ah x y := by
            rw [hG] at hsF
            exact (List.pairwise_append.1 hsF).2.2 x hxG y (by simp)
          have mm : mates x y = true := mates_iff.2 ⟨a1.1.trans a2.1.symm, a1.2.1.trans a2.2.1.symm, a1.2.2.trans a2.2.2.symm⟩
          have m3 := mates_iff.1 mm
          have t1 := hxy.ts m3.1 m3.2.1 (by omega) m3.2.2 (by omega)
          have t2 : x.ts ≠ y.ts := fun z => by
            have hg : gpE x y = true := gpE_iff.2 ⟨x3, y3, m3.1, m3.2.1, m3.2.2, z⟩
            have := one_decides hs xm ym hg sx.1 sy.1
            subst this
            exact ah_irrefl hxy
          simp only [Bool.and_eq_true, decide_eq_true_eq]
          exact ⟨⟨counts_iff.2 ⟨x3, sx.1, k3 x x3 x5, sx.2.1, sx.2.2.1⟩, mm⟩, by omega⟩
        have := hGm.filter (fun x => counts fs clock m x && mates x y && decide (y.ts < x.ts))
        rwa [List.filter_eq_self.2 hGall] at this
      exact Int.ofNat_le.2 this.length_le
    rw [hG, List.length_append, List.length_singleton]
    omega
end
end Go.Proofs.Ytemdhpjoakldhaa

namespace Go.Proofs.Ytemdhpjoakldhaa
open Go.RowKit
set_option linter.unusedVariables false

/-- The law's shown: of one column, time, Seq and kind. -/
def hit (x e : En) : Prop := x.fam = e.fam ∧ x.ts = e.ts ∧ x.seq = e.seq ∧ x.row = e.row ∧ x.qual = e.qual ∧ x.kind = e.kind
theorem alikeS {a b : Value} {xs ys : List Nat} {w : World} (ha : Rd w a xs) (hb : Rd w b ys) : Calls Try.prog 19 #[a, b] w fun e w' => e = .returned (.bool (decide (xs = ys))) ∧ w = w' := Calls.mono (alike_any ha hb) fun e w' h => ⟨h.1, h.2.symm⟩
set_option maxRecDepth 100000 in
set_option maxHeartbeats 8000000 in
theorem shown_any {w : World} {a : Option Addr} {cap : Nat} {l : List EntD} {e : EntD} (hr : RdL3 w a cap l) (he : EntD.Ok w e) (hl : l.length ≤ 1353245080300) :
    Calls Try.prog 20 #[.slice a l.length cap, .agg e.cells] w fun r w' => ∃ b, r = .returned (.bool b) ∧ (b = true ↔ ∃ x ∈ l, hit x.dat e.dat) ∧ Below w.heap.size w w' := by
  obtain ⟨n, hn⟩ : ∃ n, n = l.length := ⟨_, rfl⟩
  rw [← hn] at hl ⊢
  have a1 : n ≤ cap := by rw [hn]; exact hr.cap.1
  have HN : Hid (l.length = n) := hn.symm
  have A1 := (Below.refl w.heap.size w).alloc (Nat.le_refl _) (.cells e.cells 38)
  have bx := EBox.new w e
  obtain ⟨V, hV⟩ : ∃ V, V = w.alloc (.cells e.cells 38) := ⟨_, rfl⟩
  rw [← hV] at A1 bx
  have HX := Lib.hid (And.intro bx (And.intro A1 (And.intro (hr.later A1) (he.later A1))))
  have HV := Lib.hid hV
  clear hn hr he A1 bx hV
  obtain ⟨vre, fe, vqe, te, se, ke, vve, rowe, quale, vale⟩ := e
  simp only [EntD.cells] at *
  have hmx : Try.prog.follows .mixedOrders = true := by kernel_rfl
  go_enter Try.func20, Try.ntmps20
  go_wp2_with fail
  rw [← HV.out]
  go_loopw [5] (fun i wr => ∃ t : Nat, t ≤ n ∧ i = .int .i64 (t : Int) ∧ Hid (Below V.heap.size V wr) ∧ Hid (∀ x ∈ l.take t, ¬ hit x.dat (EntD.dat ⟨vre, fe, vqe, te, se, ke, vve, rowe, quale, vale⟩))) (fun i _ => n - (intOf i).toNat)
  case atStart => exact ⟨0, Nat.zero_le _, rfl, Below.refl _ _, by unfold Hid; simp⟩
  case round =>
    obtain ⟨t, ht, rfl, HB, HAll⟩ := hrel
    have t0 : (0 : Int) ≤ (t : Int) := by omega
    by_cases hlt : t < n
    · have hlt2 : (t : Int) < (n : Int) := by omega
      obtain ⟨x, hx⟩ : ∃ x, l[t]? = some x := ⟨l[t]'(by rw [HN.out]; exact hlt), List.getElem?_eq_getElem _⟩
      obtain ⟨ba, oa, rfl⟩ : ∃ b off, a = some ⟨b, off, none⟩ := by
        rcases HX.out.2.2.1.at_ with h0 | ⟨b, off, q, _⟩
        · rw [h0] at hx; simp at hx
        · exact ⟨b, off, q⟩
      obtain ⟨vr, fm, vq, ts, sq, kn, vv, row, qual, val⟩ := x
      have HXm := Lib.hid hx
      have KS : Hid (∀ wx, Below wr.heap.size wr wx → (wx.cell? ⟨ba, oa + t * 7, none⟩ = some vr ∧ wx.cell? ⟨ba, oa + t * 7 + 1, none⟩ = some (.int .i64 fm) ∧ wx.cell? ⟨ba, oa + t * 7 + 2, none⟩ = some vq ∧ wx.cell? ⟨ba, oa + t * 7 + 3, none⟩ = some (.int .i64 ts) ∧ wx.cell? ⟨ba, oa + t * 7 + 4, none⟩ = some (.int .i64 sq) ∧ wx.cell? ⟨ba, oa + t * 7 + 5, none⟩ = some (.int .i64 kn)) ∧ wx.cell? ⟨w.heap.size, 0, none⟩ = some vre ∧ wx.cell? ⟨w.heap.size, 1, none⟩ = some (.int .i64 fe) ∧ wx.cell? ⟨w.heap.size, 2, none⟩ = some vqe ∧ wx.cell? ⟨w.heap.size, 3, none⟩ = some (.int .i64 te) ∧ wx.cell? ⟨w.heap.size, 4, none⟩ = some (.int .i64 se) ∧ wx.cell? ⟨w.heap.size, 5, none⟩ = some (.int .i64 ke)) := fun wx b => by
        have k := HB.out.trans (b.mono HB.out.size)
        have c1 := HX.out.2.2.1.cells k HXm.out
        have bb := HX.out.1.later k
        exact ⟨⟨c1 0 _ rfl, c1 1 _ rfl, c1 2 _ rfl, c1 3 _ rfl, c1 4 _ rfl, c1 5 _ rfl⟩, bb.vr, bb.fam, bb.vq, bb.ts, bb.seq, bb.kind⟩
      have HAr : Hid (∀ Z, Below wr.heap.size wr Z → Calls Try.prog 19 #[vr, vre] Z fun r w' => r = .returned (.bool (decide (row = rowe))) ∧ w' = Z) := fun Z b => by
        have k := HB.out.trans (b.mono HB.out.size)
        exact alike_any ((HX.out.2.2.1.later k).ok _ (List.mem_of_getElem? HXm.out)).1 (HX.out.2.2.2.later k).1
      have HAq : Hid (∀ Z, Below wr.heap.size wr Z → Calls Try.prog 19 #[vq, vqe] Z fun r w' => r = .returned (.bool (decide (qual = quale))) ∧ w' = Z) := fun Z b => by
        have k := HB.out.trans (b.mono HB.out.size)
        exact alike_any ((HX.out.2.2.1.later k).ok _ (List.mem_of_getElem? HXm.out)).2.1 (HX.out.2.2.2.later k).2.1
      have D0 : Below wr.heap.size wr wr.drew := (Below.refl _ _).drew
      obtain ⟨⟨u0, u1, u2, u3, u4, u5⟩, y0, y1, y2, y3, y4, y5⟩ := KS.out wr (Below.refl _ _)
      have HNx : Hid (¬ hit (EntD.dat ⟨vr, fm, vq, ts, sq, kn, vv, row, qual, val⟩) (EntD.dat ⟨vre, fe, vqe, te, se, ke, vve, rowe, quale, vale⟩) → ∀ x ∈ l.take (t + 1), ¬ hit x.dat (EntD.dat ⟨vre, fe, vqe, te, se, ke, vve, rowe, quale, vale⟩)) := fun hno x hx2 => by
        rw [List.take_add_one, HXm.out] at hx2
        rcases List.mem_append.1 hx2 with q | q
        · exact HAll.out x q
        · simp at q
          rw [q]; exact hno
      clear hx
      by_cases c0 : fm = fe
      · subst c0
        by_cases c1 : ts = te
        · subst c1
          by_cases c2 : sq = se
          · subst c2
            by_cases c3 : row = rowe
            · rw [decide_eq_true c3] at HAr
              by_cases c4 : qual = quale
              · rw [decide_eq_true c4] at HAq
                by_cases c5 : kn = ke
                · subst c5
                  have q9 := Lib.hid (And.intro (List.mem_of_getElem? HXm.out) (And.intro HB.out HX.out.2.1))
                  go_wp2_with fail
                  go_quiet (first | (go_at_call 19; with_reducible exact Calls.quiet_of_same (HAr.out _ (below_dn (Below.refl _ _) _))) | (go_at_call 19; with_reducible exact Calls.quiet_of_same (HAq.out _ (below_dn (Below.refl _ _) _))) | (go_at_call 19; with_reducible exact Calls.quiet_of_same (HAr.out _ (Below.refl _ _).drew)) | (go_at_call 19; with_reducible exact Calls.quiet_of_same (HAq.out _ (Below.refl _ _).drew)))
                  all_goals
                    go_wp2
                    go_ret
                    exact ⟨true, rfl, ⟨fun _ => ⟨_, q9.out.1, rfl, rfl, rfl, c3, c4, rfl⟩, fun _ => rfl⟩, q9.out.2.2.trans ((below_drewN q9.out.2.1 _).mono q9.out.2.2.size)⟩
                · have c9 : (kn == ke) = false := by simpa using c5
                  have q9 := Lib.hid (HNx.out (fun h => c5 h.2.2.2.2.2))
                  go_wp2_with fail
                  go_quiet (first | (go_at_call 19; with_reducible exact Calls.quiet_of_same (HAr.out _ (below_dn (Below.refl _ _) _))) | (go_at_call 19; with_reducible exact Calls.quiet_of_same (HAq.out _ (below_dn (Below.refl _ _) _))) | (go_at_call 19; with_reducible exact Calls.quiet_of_same (HAr.out _ (Below.refl _ _).drew)) | (go_at_call 19; with_reducible exact Calls.quiet_of_same (HAq.out _ (Below.refl _ _).drew)))
                  all_goals
                    go_wp2
                    go_roundw
                    case rel => exact ⟨t + 1, by omega, by go_num, below_drewN HB.out _, q9⟩
                    case measure => simp only [intOf]; omega
              · rw [decide_eq_false c4] at HAq
                have q9 := Lib.hid (HNx.out (fun h => c4 h.2.2.2.2.1))
                go_wp2_with fail
                go_quiet (first | (go_at_call 19; with_reducible exact Calls.quiet_of_same (HAr.out _ (below_dn (Below.refl _ _) _))) | (go_at_call 19; with_reducible exact Calls.quiet_of_same (HAq.out _ (below_dn (Below.refl _ _) _))) | (go_at_call 19; with_reducible exact Calls.quiet_of_same (HAr.out _ (Below.refl _ _).drew)) | (go_at_call 19; with_reducible exact Calls.quiet_of_same (HAq.out _ (Below.refl _ _).drew)))
                all_goals
                  go_wp2
                  go_roundw
                  case rel => exact ⟨t + 1, by omega, by go_num, below_drewN HB.out _, q9⟩
                  case measure => simp only [intOf]; omega
            · rw [decide_eq_false c3] at HAr
              have q9 := Lib.hid (HNx.out (fun h => c3 h.2.2.2.1))
              go_wp2_with fail
              go_quiet (first | (go_at_call 19; with_reducible exact Calls.quiet_of_same (HAr.out _ (below_dn (Below.refl _ _) _))) | (go_at_call 19; with_reducible exact Calls.quiet_of_same (HAq.out _ (below_dn (Below.refl _ _) _))) | (go_at_call 19; with_reducible exact Calls.quiet_of_same (HAr.out _ (Below.refl _ _).drew)) | (go_at_call 19; with_reducible exact Calls.quiet_of_same (HAq.out _ (Below.refl _ _).drew)))
              all_goals
                go_wp2
                go_roundw
                case rel => exact ⟨t + 1, by omega, by go_num, below_drewN HB.out _, q9⟩
                case measure => simp only [intOf]; omega
          · have c9 : (sq == se) = false := by simpa using c2
            have q9 := Lib.hid (HNx.out (fun h => c2 h.2.2.1))
            go_wp2_with fail
            go_quiet (first | (go_at_call 19; with_reducible exact Calls.quiet_of_same (HAr.out _ (below_dn (Below.refl _ _) _))) | (go_at_call 19; with_reducible exact Calls.quiet_of_same (HAq.out _ (below_dn (Below.refl _ _) _))) | (go_at_call 19; with_reducible exact Calls.quiet_of_same (HAr.out _ (Below.refl _ _).drew)) | (go_at_call 19; with_reducible exact Calls.quiet_of_same (HAq.out _ (Below.refl _ _).drew)))
            all_goals
              go_wp2
              go_roundw
              case rel => exact ⟨t + 1, by omega, by go_num, below_drewN HB.out _, q9⟩
              case measure => simp only [intOf]; omega
        · have c9 : (ts == te) = false := by simpa using c1
          have q9 := Lib.hid (HNx.out (fun h => c1 h.2.1))
          go_wp2_with fail
          go_quiet (first | (go_at_call 19; with_reducible exact Calls.quiet_of_same (HAr.out _ (below_dn (Below.refl _ _) _))) | (go_at_call 19; with_reducible exact Calls.quiet_of_same (HAq.out _ (below_dn (Below.refl _ _) _))) | (go_at_call 19; with_reducible exact Calls.quiet_of_same (HAr.out _ (Below.refl _ _).drew)) | (go_at_call 19; with_reducible exact Calls.quiet_of_same (HAq.out _ (Below.refl _ _).drew)))
          all_goals
            go_wp2
            go_roundw
            case rel => exact ⟨t + 1, by omega, by go_num, below_drewN HB.out _, q9⟩
            case measure => simp only [intOf]; omega
      · have c9 : (fm == fe) = false := by simpa using c0
        have q9 := Lib.hid (HNx.out (fun h => c0 h.1))
        go_wp2_with fail
        go_quiet (first | (go_at_call 19; with_reducible exact Calls.quiet_of_same (HAr.out _ (below_dn (Below.refl _ _) _))) | (go_at_call 19; with_reducible exact Calls.quiet_of_same (HAq.out _ (below_dn (Below.refl _ _) _))) | (go_at_call 19; with_reducible exact Calls.quiet_of_same (HAr.out _ (Below.refl _ _).drew)) | (go_at_call 19; with_reducible exact Calls.quiet_of_same (HAq.out _ (Below.refl _ _).drew)))
        all_goals
          go_wp2
          go_roundw
          case rel => exact ⟨t + 1, by omega, by go_num, below_drewN HB.out _, q9⟩
          case measure => simp only [intOf]; omega
    · have hge : ¬ (t : Int) < (n : Int) := by omega
      have e : t = n := by omega
      have q9 := Lib.hid (And.intro HAll.out (And.intro HB.out HX.out.2.1))
      rw [e, ← HN.out, List.take_length] at q9
      clear e
      go_wp2
      go_ret
      exact Or.inl ⟨rfl, q9.out.1, q9.out.2.2.trans (q9.out.2.1.mono q9.out.2.2.size)⟩
end Go.Proofs.Ytemdhpjoakldhaa

namespace Go.Proofs.Ytemdhpjoakldhaa
open Go.RowKit
set_option linter.unusedVariables false

theorem famAt_mt {fs : List FamD} (h : SchemaOk fs) (i : Int) : (famAt (mt fs) i).1 ≤ 16 := by
  unfold famAt mt
  rw [List.getD_eq_getElem?_getD, List.getElem?_map]
  cases hf : fs[i.toNat]? with
  | none => simp
  | some f => simpa using (h.2 i.toNat f hf).1.2.1.2
section
variable {W : World} {cap fc : Nat} {a fa : Option Addr} {fs : List FamD} {l : List EntD}
/-- What Vis answers of a list. -/
def visE (C : Nat) (fs : List FamD) (clock : Int) (l : List EntD) : Int := readE C fs clock 1099511627776 16 l
theorem vis_zero {C : Nat} {clock : Int} (hz : visE C fs clock l = 0) : C = 0 ∧ inOrderE (check3S fs.length) l = 0 := by
  unfold visE readE at hz
  by_cases y : readerS C clock 1099511627776 16 = 0
  · rw [if_neg (by simpa using y)] at hz
    refine ⟨?_, hz⟩
    unfold readerS at y
    by_cases b : boundsS C [clock, 1099511627776] = 0
    · unfold boundsS at b
      by_cases c : C = 0
      · exact c
      · rw [if_pos c] at b; omega
    · rw [if_pos b] at y; exact absurd y b
  · rw [if_pos y] at hz; exact absurd hz y
theorem vis_good (hr : RdF W (.slice fa fs.length fc) fs) (hn : fa = none → fc = 0) (C : Nat) (hC : (C = 0 ↔ SchemaOk fs) ∧ (C = 0 ∨ C = 28)) (clock : Int) (h0 : RdL3 W a cap l) (hl : l.length ≤ 1353245080300) (hE : visE C fs clock l = 0) :
    Calls Try.prog 18 #[.agg #[.slice fa fs.length fc], .int .i64 clock, .slice a l.length cap] W fun r W' => Below W.heap.size W W' ∧ ∃ (zs : List EntD) (m : List En) (a' : Option Addr) (c' : Nat), IsOrd fs.length (l.map EntD.dat) m ∧ r = .returned (.tuple #[.slice a' zs.length c', .int .i64 0]) ∧ RdL3 W' a' c' zs ∧ zs.map EntD.dat = (m.filter fun x => shw 1099511627776 (sv (mt fs) clock m x)).map (tld m) ∧ zs.length ≤ l.length := by
  refine Calls.mono (vis_any sort_ok hr hn C hC clock h0 hl) ?_
  rintro r W' ⟨h1, h2, h3⟩
  obtain ⟨xs, ys, zs, v, O, k1, k2, k3, k4, k5, k6⟩ := h3 hE
  obtain ⟨hc0, hi⟩ := vis_zero hE
  have ho := isOrd_of hi k1 k2 k3
  have e6 : zs.map EntD.dat = _ := k6.trans (show_spec (fun i => famAt_mt (hC.1.1 hc0) i) ho.ah ho.va)
  obtain ⟨a', c', hv, _, hrd⟩ := k5.rdl (fun x hx => by
    have : x.dat ∈ zs.map EntD.dat := List.mem_map_of_mem hx
    rw [e6] at this
    obtain ⟨y, hy, e⟩ := List.mem_map.1 this
    rw [← e]
    exact tld_by _ (h0.by y ((ho.mem y).1 (List.mem_filter.1 hy).1)))
  refine ⟨h1, zs, _, a', c', ho, by rw [k4, hv], hrd, e6, ?_⟩
  have e : zs.length = ((ys.map EntD.dat).filter fun x => shw 1099511627776 (sv (mt fs) clock (ys.map EntD.dat) x)).length := by
    have := congrArg List.length e6
    simpa using this
  rw [e]
  refine Nat.le_trans (List.length_filter_le _ _) ?_
  rw [List.length_map, k2.length_eq]
  exact onceS_len k1
theorem vis_bad (hr : RdF W (.slice fa fs.length fc) fs) (hn : fa = none → fc = 0) (C : Nat) (hC : (C = 0 ↔ SchemaOk fs) ∧ (C = 0 ∨ C = 28)) (clock : Int) (h0 : RdL3 W a cap l) (hl : l.length ≤ 1353245080300) (hE : visE C fs clock l ≠ 0) :
    Calls Try.prog 18 #[.agg #[.slice fa fs.length fc], .int .i64 clock, .slice a l.length cap] W fun r W' => Below W.heap.size W W' ∧ r = .returned (.tuple #[.slice none 0 0, .int .i64 (visE C fs clock l)]) := by
  refine Calls.mono (vis_any sort_ok hr hn C hC clock h0 hl) ?_
  rintro r W' ⟨h1, h2, h3⟩
  exact ⟨h1, h2 hE⟩
end
end Go.Proofs.Ytemdhpjoakldhaa

namespace Go.Proofs.Ytemdhpjoakldhaa
open Go.RowKit
set_option linter.unusedVariables false

section
variable {fs : List (Int × Int)} {clock low : Int} {m : List En}
theorem major_five {x : En} (h3 : x.kind ≤ 3) (hp : staysS true low (sv fs clock m x) = true) : (sv fs clock m x).fate = 5 := by
  have s := stays_ver h3 hp
  rw [sv_ver h3 s.1 s.2.1 s.2.2.1] at hp ⊢
  by_cases k : kd m x = 3
  · rw [if_pos k] at hp; simp [staysS] at hp
  · rw [if_neg k] at hp ⊢
    by_cases z : (famAt fs x.fam).1 < above fs clock m x + 1
    · rw [if_pos z] at hp; simp [staysS] at hp
    · rw [if_neg z]
theorem five_stays {x : En} (h : (sv fs clock m x).fate = 5) (major : Bool) : staysS major low (sv fs clock m x) = true := by unfold staysS; rw [if_pos h]
theorem five_kd {x : En} (h3 : x.kind ≤ 3) (h : (sv fs clock m x).fate = 5) : kd m x ≠ 3 ∧ (tld m x).kind = kd m x := by
  have s := stays_ver h3 (five_stays (low := 0) h true)
  refine ⟨fun k => ?_, by rw [tld_ver h3 s.1]⟩
  rw [sv_ver h3 s.1 s.2.1 s.2.2.1, if_pos k] at h
  cases h
theorem mark_seven {x : En} (h4 : 4 ≤ x.kind) : (sv fs clock m x).fate ≠ 5 := by
  rw [sv_mark h4]
  split <;> simp
/-- What a major squash leaves. -/
theorem collects_kind (hv : ∀ e ∈ m, Va e) {z : En} (hz : z ∈ leftL fs clock m true low) : z.kind ≠ 3 ∧ (z.kind = 2 → z.val = []) ∧ (4 ≤ z.kind → low < z.ts) := by
  obtain ⟨x, hx, hp, rfl⟩ := left_mem.1 hz
  have v := tld_va m (hv x hx)
  refine ⟨fun k => ?_, fun k => v.val (by omega), fun k => ?_⟩
  · obtain ⟨_, _, _, _, _, _, a7⟩ := tld_eq m x
    have h3 : x.kind ≤ 3 := by omega
    have := five_kd h3 (major_five h3 hp)
    omega
  · obtain ⟨_, _, _, a4, _, _, a7⟩ := tld_eq m x
    have h4 : 4 ≤ x.kind := by omega
    have hsh := stays_mark h4 hp
    rw [sv_mark h4, hsh] at hp
    simp [staysS] at hp
    rw [a4]
    exact hp
theorem shw_iff (hts : ∀ e ∈ m, e.ts ≤ 1099511627776) {x : En} (hx : x ∈ m) : shw 1099511627776 (sv fs clock m x) = (staysS true low (sv fs clock m x) && decide ((tld m x).kind = 1)) := by
  obtain ⟨_, _, _, a4, _, _, a7⟩ := tld_eq m x
  rw [Bool.eq_iff_iff]
  unfold shw
  simp only [Bool.and_eq_true, decide_eq_true_eq, sv_e]
  constructor
  · rintro ⟨h5, k, _⟩
    exact ⟨five_stays h5 true, k⟩
  · rintro ⟨hp, k⟩
    have h3 : x.kind ≤ 3 := by omega
    exact ⟨major_five h3 hp, k, by rw [a4]; exact hts x hx⟩
/-- The puts that are left are those that are visible, in their order. -/
theorem collects_puts (hts : ∀ e ∈ m, e.ts ≤ 1099511627776) : (leftL fs clock m true low).filter (fun z => decide (z.kind = 1)) = (m.filter fun x => shw 1099511627776 (sv fs clock m x)).map (tld m) := by
  unfold leftL
  rw [List.filter_map, List.filter_filter]
  congr 1
  apply List.filter_congr
  intro x hx
  rw [shw_iff (low := low) hts hx, Bool.and_comm]
  rfl
theorem collects_col (hs : m.Pairwise Ah) (hv : ∀ e ∈ m, Va e) (z : En) (hm : 0 ≤ (famAt fs z.fam).1) : (((leftL fs clock m true low).filter fun y => decide (y.kind ≤ 2) && mates y z).length : Int) ≤ (famAt fs z.fam).1 := by
  refine Int.le_trans ?_ (col_max hs hv z hm (clock := clock))
  unfold leftL
  rw [List.filter_map, List.length_map, List.filter_filter, ← List.countP_eq_length_filter, ← List.countP_eq_length_filter]
  refine Int.ofNat_le.2 (List.countP_mono_left fun x hx hp => ?_)
  simp only [Function.comp, Bool.and_eq_true, decide_eq_true_eq] at hp ⊢
  obtain ⟨⟨k, mt⟩, hp⟩ := hp
  obtain ⟨a1, a2, a3, a4, _, _, a7⟩ := tld_eq m x
  have h3 : x.kind ≤ 3 := by omega
  have mm := mates_iff.1 mt
  exact ⟨⟨major_five h3 hp, h3⟩, mates_iff.2 ⟨a1 ▸ mm.1, a2 ▸ mm.2.1, a3 ▸ mm.2.2⟩⟩
end
end Go.Proofs.Ytemdhpjoakldhaa

namespace Go.Proofs.Ytemdhpjoakldhaa
open Go.RowKit
set_option linter.unusedVariables false

theorem vis_of_squash {C : Nat} {fs : List FamD} {clock low : Int} {l : List EntD} (h : squashE C fs clock low l = 0) : visE C fs clock l = 0 := by
  unfold squashE at h
  unfold visE readE
  by_cases y : boundsS C [clock, low] = 0
  · rw [if_neg (by simpa using y)] at h
    have b : readerS C clock 1099511627776 16 = 0 := by
      unfold readerS
      have : boundsS C [clock, 1099511627776] = 0 := by
        unfold boundsS at y ⊢
        by_cases c : C = 0
        · rw [if_neg (by simpa using c)] at y ⊢
          by_cases z : [clock, low].any badT = true
          · rw [if_pos z] at y; cases y
          · rw [if_neg]
            simp [badT] at z ⊢
            omega
        · rw [if_pos c] at y; omega
      rw [this, if_neg (by simp), if_neg (by decide)]
    rw [b, if_neg (by simp)]
    exact h
  · rw [if_pos y] at h; exact absurd h y
end Go.Proofs.Ytemdhpjoakldhaa
