import Derived.Test.YtemdhpjoakldhaaJ25
import Derived.Test.YtemdhpjoakldhaaJ26
namespace Go.Proofs.Ytemdhpjoakldhaa
open Go.RowKit
set_option linter.unusedVariables false

theorem mu_self {m2 : Bool} {low : Int} : ∀ v, staysS m2 low v = true → staysS m2 low v = true := fun _ h => h
theorem mu_minor {low : Int} : ∀ v, staysS true low v = true → staysS false low v = true := fun v h => by
  unfold staysS at h ⊢
  by_cases h5 : v.fate = 5
  · simp [h5]
  · by_cases h6 : v.fate = 6
    · simp [h6]
    · by_cases h7 : v.fate = 7
      · simp [h7]
      · simp [h5, h6, h7] at h
set_option maxRecDepth 100000 in
set_option maxHeartbeats 4000000 in
theorem retainAgain_walk {W : World} {fa : Option Addr} {n fc : Nat} {fs : List FamD} (hr : RdF W (.slice fa n fc) fs) (hn : fa = none → fc = 0) (clock low : Int) {v : Value} {l : List EntD} (h0 : RdE3 W v l) :
    Calls Try.prog 5 #[.agg #[.slice fa n fc], .int .i64 clock, .int .i64 low, v] W fun e w' => e = .returned (.bool true) ∧ Below W.heap.size W w' := by
  obtain ⟨a, cap, rfl, h0, hl⟩ := h0
  obtain ⟨C, hC⟩ : ∃ C : Nat, (C = 0 ↔ SchemaOk fs) ∧ (C = 0 ∨ C = 28) := by
    by_cases h : SchemaOk fs
    · exact ⟨0, ⟨fun _ => h, fun _ => rfl⟩, .inl rfl⟩
    · exact ⟨28, ⟨(fun z => by cases z), fun z => absurd z h⟩, .inr rfl⟩
  obtain rfl : n = fs.length := by
    obtain ⟨_, _, e, _⟩ := hr
    simp only [Value.slice.injEq] at e
    exact e.2.1
  have HR := Lib.hid hr
  have H0 := Lib.hid h0
  have HC := Lib.hid hC
  clear hr h0 hC
  obtain ⟨N, hN⟩ : ∃ N, N = l.length := ⟨_, rfl⟩
  obtain ⟨K, hK⟩ : ∃ K, K = fs.length := ⟨_, rfl⟩
  have HL : Hid (l.length ≤ 1353245080300) := hl
  rw [← hN, ← hK]
  obtain ⟨X0, hX0⟩ : ∃ X0, X0 = W.alloc (.cells #[.slice fa K fc] 24) := ⟨_, rfl⟩
  have A1 : Below W.heap.size W X0 := by rw [hX0]; exact (Below.refl _ _).alloc (Nat.le_refl _) _
  have hcell : X0.cell? ⟨W.heap.size, 0, none⟩ = some (.slice fa K fc) := by rw [hX0]; exact cell_at9 (heap_new9 _ _ rfl) rfl
  have HCell : Hid (∀ Z, Below X0.heap.size X0 Z → Z.cell? ⟨W.heap.size, 0, none⟩ = some (.slice fa K fc)) := fun Z b => (b.cell (p := ⟨W.heap.size, 0, none⟩) (World.block_lt_of_cell? _ _ hcell)).trans hcell
  have HA1 := Lib.hid A1
  have HX0 := Lib.hid hX0
  clear hX0 A1 hcell
  have HG := Lib.hid (fun (Z : World) (b : Below X0.heap.size X0 Z) major (hE : squashE C fs clock low l = 0) => squash_good (HR.out.later (HA1.out.trans (b.mono HA1.out.size))) hn C HC.out clock low major (H0.out.later (HA1.out.trans (b.mono HA1.out.size))) HL.out hE)
  have HBd := Lib.hid (fun (Z : World) (b : Below X0.heap.size X0 Z) major (hE : squashE C fs clock low l ≠ 0) => squash_bad (HR.out.later (HA1.out.trans (b.mono HA1.out.size))) hn C HC.out clock low major (H0.out.later (HA1.out.trans (b.mono HA1.out.size))) HL.out hE)
  rw [← hN, ← hK] at HG HBd
  have HK := Lib.hid hK
  have HL2 : Hid (N ≤ 1353245080300) := by unfold Hid; rw [hN]; exact HL.out
  clear hl hN hK
  go_enter Try.func5, Try.ntmps5
  go_wp2_with fail
  rw [← HX0.out]
  refine Calls.mono (started3 _) ?_
  rintro e1 w1 ⟨rfl, b1⟩
  have B1 := Lib.hid b1
  have s1 := HCell.out _ b1
  clear b1
  by_cases hE : squashE C fs clock low l = 0
  · have HE := Lib.hid hE
    clear hE
    go_wp2_with fail
    refine Calls.mono (HG.out _ B1.out false HE.out) ?_
    rintro e1 w2 ⟨b2, zs, m, a2, c2, ho, rfl, rd2, dz, ln2⟩
    rw [HK.out] at ho
    have B2 := Lib.hid (B1.out.trans (b2.mono B1.out.size))
    have s2 := HCell.out _ B2.out
    have F2 := Lib.hid (And.intro ho (And.intro rd2 (And.intro dz ln2)))
    clear b2 ho rd2 dz ln2
    go_wp2_with fail
    refine Calls.mono (HG.out _ B2.out true HE.out) ?_
    rintro e1 w3 ⟨b3, ys, m', a3, c3, ho3, rfl, rd3, dy, ln3⟩
    rw [HK.out] at ho3
    have em := ho3.unique F2.out.1
    subst em
    have B3 := Lib.hid (B2.out.trans (b3.mono B2.out.size))
    have s3 := HCell.out _ B3.out
    have F3 := Lib.hid (And.intro (F2.out.2.1.later b3) (And.intro rd3 (And.intro dy ln3)))
    clear b3 ho3 rd3 dy ln3
    have HZ := Lib.hid (fun (Z : World) (b : Below w3.heap.size w3 Z) major => squash_good (HR.out.later (HA1.out.trans ((B3.out.trans (b.mono B3.out.size)).mono HA1.out.size))) hn C HC.out clock low major (F3.out.1.later b) (Nat.le_trans F2.out.2.2.2 HL2.out) (squashE_left HE.out F2.out.1 F2.out.2.2.1))
    have HY := Lib.hid (fun (Z : World) (b : Below w3.heap.size w3 Z) major => squash_good (HR.out.later (HA1.out.trans ((B3.out.trans (b.mono B3.out.size)).mono HA1.out.size))) hn C HC.out clock low major (F3.out.2.1.later b) (Nat.le_trans F3.out.2.2.2 HL2.out) (squashE_left HE.out F2.out.1 F3.out.2.2.1))
    rw [← HK.out] at HZ HY
    go_wp2_with (go_at_call 15; refine (num_sym _ _).mono ?_; rintro e1 wn ⟨rfl, rfl⟩)
    refine Calls.mono (HZ.out _ (Below.refl _ _) false) ?_
    rintro e1 w4 ⟨b4, cs, mc, a4, c4, ho4, rfl, rd4, dc, ln4⟩
    rw [HK.out] at ho4
    have ec : cs.map EntD.dat = zs.map EntD.dat := by rw [dc, left_ord F2.out.1 F2.out.2.2.1 ho4, again F2.out.1.ah F2.out.1.va mu_self, F2.out.2.2.1]
    have B4 := Lib.hid b4
    have s4 := HCell.out _ (B3.out.trans (b4.mono B3.out.size))
    have F4 := Lib.hid (And.intro rd4 (And.intro ec ln4))
    clear b4 ho4 rd4 dc ln4 ec
    go_wp2_with fail
    refine Calls.mono (HZ.out _ B4.out true) ?_
    rintro e1 w5 ⟨b5, ds, md, a5, c5, ho5, rfl, rd5, dd, ln5⟩
    rw [HK.out] at ho5
    have ed : ds.map EntD.dat = ys.map EntD.dat := by rw [dd, left_ord F2.out.1 F2.out.2.2.1 ho5, again F2.out.1.ah F2.out.1.va mu_minor, F3.out.2.2.1]
    have B5 := Lib.hid (B4.out.trans (b5.mono B4.out.size))
    have s5 := HCell.out _ (B3.out.trans (B5.out.mono B3.out.size))
    have F5 := Lib.hid (And.intro rd5 (And.intro ed (And.intro ln5 b5)))
    clear b5 ho5 rd5 dd ln5 ed
    go_wp2_with fail
    refine Calls.mono (HY.out _ B5.out true) ?_
    rintro e1 w6 ⟨b6, xs, mx, a6, c6, ho6, rfl, rd6, dx, ln6⟩
    rw [HK.out] at ho6
    have ex : xs.map EntD.dat = ys.map EntD.dat := by rw [dx, left_ord F2.out.1 F3.out.2.2.1 ho6, again F2.out.1.ah F2.out.1.va mu_self, F3.out.2.2.1]
    have B6 := Lib.hid (B5.out.trans (b6.mono B5.out.size))
    have HS1 : Hid (∀ Z, Below w6.heap.size w6 Z → Calls Try.prog 17 #[.slice a4 cs.length c4, .slice a2 zs.length c2] Z fun e w' => e = .returned (.bool true) ∧ Below Z.heap.size Z w') := fun Z b => sameAll_ok (((F4.out.1.later F5.out.2.2.2).later b6).later b) ((F3.out.1.later B6.out).later b) F4.out.2.1 (Nat.le_trans F4.out.2.2 (Nat.le_trans F2.out.2.2.2 HL2.out))
    have HS2 : Hid (∀ Z, Below w6.heap.size w6 Z → Calls Try.prog 17 #[.slice a5 ds.length c5, .slice a3 ys.length c3] Z fun e w' => e = .returned (.bool true) ∧ Below Z.heap.size Z w') := fun Z b => sameAll_ok ((F5.out.1.later b6).later b) ((F3.out.2.1.later B6.out).later b) F5.out.2.1 (Nat.le_trans F5.out.2.2.1 (Nat.le_trans F2.out.2.2.2 HL2.out))
    have HS3 : Hid (∀ Z, Below w6.heap.size w6 Z → Calls Try.prog 17 #[.slice a6 xs.length c6, .slice a3 ys.length c3] Z fun e w' => e = .returned (.bool true) ∧ Below Z.heap.size Z w') := fun Z b => sameAll_ok (rd6.later b) ((F3.out.2.1.later B6.out).later b) ex (Nat.le_trans ln6 (Nat.le_trans F3.out.2.2.2 HL2.out))
    have KW := Lib.hid (HA1.out.trans ((B3.out.trans (B6.out.mono B3.out.size)).mono HA1.out.size))
    have T0 : Below w6.heap.size w6 w6 := Below.refl _ _
    clear b6 ho6 rd6 dx ln6 ex F2 F3 F4 F5 B1 B2 B3 B4 B5 B6 s1 s2 s3 s4 s5 HZ HY HG HBd HE
    go_wp2_with (first | (go_at_call 15; refine (num_sym _ _).mono ?_; rintro e1 wn ⟨rfl, rfl⟩) | (have hq := T2; clear hq; (go_at_call 17; refine Calls.mono (HS3.out _ T2) ?_; rintro e1 z3 ⟨rfl, t3⟩; have T3 := T2.trans (t3.mono T2.size))) | (have hq := T1; clear hq; (go_at_call 17; refine Calls.mono (HS2.out _ T1) ?_; rintro e1 z2 ⟨rfl, t2⟩; have T2 := T1.trans (t2.mono T1.size))) | (go_at_call 17; refine Calls.mono (HS1.out _ T0) ?_; rintro e1 z1 ⟨rfl, t1⟩; have T1 := T0.trans (t1.mono T0.size)))
    go_ret
    exact ⟨rfl, KW.out.trans (T3.mono KW.out.size)⟩
  · have HE := Lib.hid hE
    go_wp2_with fail
    refine Calls.mono (HBd.out _ B1.out false hE) ?_
    rintro e1 w2 ⟨b2, rfl⟩
    have B2 := Lib.hid (B1.out.trans (b2.mono B1.out.size))
    have s2 := HCell.out _ B2.out
    clear b2
    go_wp2_with fail
    refine Calls.mono (HBd.out _ B2.out true HE.out) ?_
    rintro e1 w3 ⟨b3, rfl⟩
    have B3 := Lib.hid (HA1.out.trans ((B2.out.trans (b3.mono B2.out.size)).mono HA1.out.size))
    have b0 : (squashE C fs clock low l != 0) = true := by simpa using hE
    clear b3 hE
    go_wp2_with (go_at_call 15; refine (num_sym _ _).mono ?_; rintro e1 wn ⟨rfl, rfl⟩)
    go_ret
    exact ⟨rfl, B3.out⟩
end Go.Proofs.Ytemdhpjoakldhaa

namespace Go.Proofs.Ytemdhpjoakldhaa
open Go.RowKit
set_option linter.unusedVariables false

theorem famAt_mt {fs : List FamD} (h : SchemaOk fs) (i : Int) : (famAt (mt fs) i).1 ≤ 16 := by
  unfold famAt mt
  rw [List.getD_eq_getElem?_getD, List.getElem?_map]
  cases hf : fs[i.toNat]? with
  | none => simp
  | some f => simpa using (h.2 i.toNat f hf).1.2.1.2
section
variable {W : World} {cap fc : Nat} {a fa : Option Addr} {fs : List FamD} {l : List EntD}
/-- What Vis answers of a list. -/
def visE (C : Nat) (fs : List FamD) (clock : Int) (l : List EntD) : Int := readE C fs clock 1099511627776 16 l
theorem vis_zero {C : Nat} {clock : Int} (hz : visE C fs clock l = 0) : C = 0 ∧ inOrderE (check3S fs.length) l = 0 := by
  unfold visE readE at hz
  by_cases y : readerS C clock 1099511627776 16 = 0
  · rw [if_neg (by simpa using y)] at hz
    refine ⟨?_, hz⟩
    unfold readerS at y
    by_cases b : boundsS C [clock, 1099511627776] = 0
    · unfold boundsS at b
      by_cases c : C = 0
      · exact c
      · rw [if_pos c] at b; omega
    · rw [if_pos b] at y; exact absurd y b
  · rw [if_pos y] at hz; exact absurd hz y
theorem vis_good (hr : RdF W (.slice fa fs.length fc) fs) (hn : fa = none → fc = 0) (C : Nat) (hC : (C = 0 ↔ SchemaOk fs) ∧ (C = 0 ∨ C = 28)) (clock : Int) (h0 : RdL3 W a cap l) (hl : l.length ≤ 1353245080300) (hE : visE C fs clock l = 0) :
    Calls Try.prog 18 #[.agg #[.slice fa fs.length fc], .int .i64 clock, .slice a l.length cap] W fun r W' => Below W.heap.size W W' ∧ ∃ (zs : List EntD) (m : List En) (a' : Option Addr) (c' : Nat), IsOrd fs.length (l.map EntD.dat) m ∧ r = .returned (.tuple #[.slice a' zs.length c', .int .i64 0]) ∧ RdL3 W' a' c' zs ∧ zs.map EntD.dat = (m.filter fun x => shw 1099511627776 (sv (mt fs) clock m x)).map (tld m) ∧ zs.length ≤ l.length := by
  refine Calls.mono (vis_any sort_ok hr hn C hC clock h0 hl) ?_
  rintro r W' ⟨h1, h2, h3⟩
  obtain ⟨xs, ys, zs, v, O, k1, k2, k3, k4, k5, k6⟩ := h3 hE
  obtain ⟨hc0, hi⟩ := vis_zero hE
  have ho := isOrd_of hi k1 k2 k3
  have e6 : zs.map EntD.dat = _ := k6.trans (show_spec (fun i => famAt_mt (hC.1.1 hc0) i) ho.ah ho.va)
  obtain ⟨a', c', hv, _, hrd⟩ := k5.rdl (fun x hx => by
    have : x.dat ∈ zs.map EntD.dat := List.mem_map_of_mem hx
    rw [e6] at this
    obtain ⟨y, hy, e⟩ := List.mem_map.1 this
    rw [← e]
    exact tld_by _ (h0.by y ((ho.mem y).1 (List.mem_filter.1 hy).1)))
  refine ⟨h1, zs, _, a', c', ho, by rw [k4, hv], hrd, e6, ?_⟩
  have e : zs.length = ((ys.map EntD.dat).filter fun x => shw 1099511627776 (sv (mt fs) clock (ys.map EntD.dat) x)).length := by
    have := congrArg List.length e6
    simpa using this
  rw [e]
  refine Nat.le_trans (List.length_filter_le _ _) ?_
  rw [List.length_map, k2.length_eq]
  exact onceS_len k1
theorem vis_bad (hr : RdF W (.slice fa fs.length fc) fs) (hn : fa = none → fc = 0) (C : Nat) (hC : (C = 0 ↔ SchemaOk fs) ∧ (C = 0 ∨ C = 28)) (clock : Int) (h0 : RdL3 W a cap l) (hl : l.length ≤ 1353245080300) (hE : visE C fs clock l ≠ 0) :
    Calls Try.prog 18 #[.agg #[.slice fa fs.length fc], .int .i64 clock, .slice a l.length cap] W fun r W' => Below W.heap.size W W' ∧ r = .returned (.tuple #[.slice none 0 0, .int .i64 (visE C fs clock l)]) := by
  refine Calls.mono (vis_any sort_ok hr hn C hC clock h0 hl) ?_
  rintro r W' ⟨h1, h2, h3⟩
  exact ⟨h1, h2 hE⟩
end
end Go.Proofs.Ytemdhpjoakldhaa

namespace Go.Proofs.Ytemdhpjoakldhaa
open Go.RowKit
set_option linter.unusedVariables false

section
variable {fs : List (Int × Int)} {clock low : Int} {m : List En}
theorem major_five {x : En} (h3 : x.kind ≤ 3) (hp : staysS true low (sv fs clock m x) = true) : (sv fs clock m x).fate = 5 := by
  have s := stays_ver h3 hp
  rw [sv_ver h3 s.1 s.2.1 s.2.2.1] at hp ⊢
  by_cases k : kd m x = 3
  · rw [if_pos k] at hp; simp [staysS] at hp
  · rw [if_neg k] at hp ⊢
    by_cases z : (famAt fs x.fam).1 < above fs clock m x + 1
    · rw [if_pos z] at hp; simp [staysS] at hp
    · rw [if_neg z]
theorem five_stays {x : En} (h : (sv fs clock m x).fate = 5) (major : Bool) : staysS major low (sv fs clock m x) = true := by unfold staysS; rw [if_pos h]
theorem five_kd {x : En} (h3 : x.kind ≤ 3) (h : (sv fs clock m x).fate = 5) : kd m x ≠ 3 ∧ (tld m x).kind = kd m x := by
  have s := stays_ver h3 (five_stays (low := 0) h true)
  refine ⟨fun k => ?_, by rw [tld_ver h3 s.1]⟩
  rw [sv_ver h3 s.1 s.2.1 s.2.2.1, if_pos k] at h
  cases h
theorem mark_seven {x : En} (h4 : 4 ≤ x.kind) : (sv fs clock m x).fate ≠ 5 := by
  rw [sv_mark h4]
  split <;> simp
/-- What a major squash leaves. -/
theorem collects_kind (hv : ∀ e ∈ m, Va e) {z : En} (hz : z ∈ leftL fs clock m true low) : z.kind ≠ 3 ∧ (z.kind = 2 → z.val = []) ∧ (4 ≤ z.kind → low < z.ts) := by
  obtain ⟨x, hx, hp, rfl⟩ := left_mem.1 hz
  have v := tld_va m (hv x hx)
  refine ⟨fun k => ?_, fun k => v.val (by omega), fun k => ?_⟩
  · obtain ⟨_, _, _, _, _, _, a7⟩ := tld_eq m x
    have h3 : x.kind ≤ 3 := by omega
    have := five_kd h3 (major_five h3 hp)
    omega
  · obtain ⟨_, _, _, a4, _, _, a7⟩ := tld_eq m x
    have h4 : 4 ≤ x.kind := by omega
    have hsh := stays_mark h4 hp
    rw [sv_mark h4, hsh] at hp
    simp [staysS] at hp
    rw [a4]
    exact hp
theorem shw_iff (hts : ∀ e ∈ m, e.ts ≤ 1099511627776) {x : En} (hx : x ∈ m) : shw 1099511627776 (sv fs clock m x) = (staysS true low (sv fs clock m x) && decide ((tld m x).kind = 1)) := by
  obtain ⟨_, _, _, a4, _, _, a7⟩ := tld_eq m x
  rw [Bool.eq_iff_iff]
  unfold shw
  simp only [Bool.and_eq_true, decide_eq_true_eq, sv_e]
  constructor
  · rintro ⟨h5, k, _⟩
    exact ⟨five_stays h5 true, k⟩
  · rintro ⟨hp, k⟩
    have h3 : x.kind ≤ 3 := by omega
    exact ⟨major_five h3 hp, k, by rw [a4]; exact hts x hx⟩
/-- The puts that are left are those that are visible, in their order. -/
theorem collects_puts (hts : ∀ e ∈ m, e.ts ≤ 1099511627776) : (leftL fs clock m true low).filter (fun z => decide (z.kind = 1)) = (m.filter fun x => shw 1099511627776 (sv fs clock m x)).map (tld m) := by
  unfold leftL
  rw [List.filter_map, List.filter_filter]
  congr 1
  apply List.filter_congr
  intro x hx
  rw [shw_iff (low := low) hts hx, Bool.and_comm]
  rfl
theorem collects_col (hs : m.Pairwise Ah) (hv : ∀ e ∈ m, Va e) (z : En) (hm : 0 ≤ (famAt fs z.fam).1) : (((leftL fs clock m true low).filter fun y => decide (y.kind ≤ 2) && mates y z).length : Int) ≤ (famAt fs z.fam).1 := by
  refine Int.le_trans ?_ (col_max hs hv z hm (clock := clock))
  unfold leftL
  rw [List.filter_map, List.length_map, List.filter_filter, ← List.countP_eq_length_filter, ← List.countP_eq_length_filter]
  refine Int.ofNat_le.2 (List.countP_mono_left fun x hx hp => ?_)
  simp only [Function.comp, Bool.and_eq_true, decide_eq_true_eq] at hp ⊢
  obtain ⟨⟨k, mt⟩, hp⟩ := hp
  obtain ⟨a1, a2, a3, a4, _, _, a7⟩ := tld_eq m x
  have h3 : x.kind ≤ 3 := by omega
  have mm := mates_iff.1 mt
  exact ⟨⟨major_five h3 hp, h3⟩, mates_iff.2 ⟨a1 ▸ mm.1, a2 ▸ mm.2.1, a3 ▸ mm.2.2⟩⟩
end
end Go.Proofs.Ytemdhpjoakldhaa

namespace Go.Proofs.Ytemdhpjoakldhaa
open Go.RowKit
set_option linter.unusedVariables false

theorem vis_of_squash {C : Nat} {fs : List FamD} {clock low : Int} {l : List EntD} (h : squashE C fs clock low l = 0) : visE C fs clock l = 0 := by
  unfold squashE at h
  unfold visE readE
  by_cases y : boundsS C [clock, low] = 0
  · rw [if_neg (by simpa using y)] at h
    have b : readerS C clock 1099511627776 16 = 0 := by
      unfold readerS
      have : boundsS C [clock, 1099511627776] = 0 := by
        unfold boundsS at y ⊢
        by_cases c : C = 0
        · rw [if_neg (by simpa using c)] at y ⊢
          by_cases z : [clock, low].any badT = true
          · rw [if_pos z] at y; cases y
          · rw [if_neg]
            simp [badT] at z ⊢
            omega
        · rw [if_pos c] at y; omega
      rw [this, if_neg (by simp), if_neg (by decide)]
    rw [b, if_neg (by simp)]
    exact h
  · rw [if_pos y] at h; exact absurd h y
end Go.Proofs.Ytemdhpjoakldhaa

namespace Go.Proofs.Ytemdhpjoakldhaa
open Go.RowKit
set_option linter.unusedVariables false

/-- What RetainCollects finds of an entry that is left. -/
structure CF (fs : List FamD) (low : Int) (zs vs : List EntD) (x : EntD) : Prop where
  f0 : 0 ≤ x.fam
  fK : x.fam < fs.length
  k1 : 1 ≤ x.kind
  k5 : x.kind ≤ 5
  k3 : x.kind ≠ 3
  v2 : x.kind = 2 → x.val = []
  t4 : 4 ≤ x.kind → low < x.ts
  put : x.kind = 1 → ∃ y ∈ vs, hit y.dat x.dat
  col : ((zs.filter fun y => decide (y.kind ≤ 2) && mates y.dat x.dat).length : Int) ≤ (famAt (mt fs) x.fam).1
theorem famAt_nn {fs : List FamD} (h : SchemaOk fs) (i : Int) : 0 ≤ (famAt (mt fs) i).1 := by
  unfold famAt mt
  rw [List.getD_eq_getElem?_getD, List.getElem?_map]
  cases hf : fs[i.toNat]? with
  | none => simp
  | some f =>
    have := (h.2 i.toNat f hf).1.2.1.1
    simp
    omega
theorem filter_dat (zs : List EntD) (P : En → Bool) : (zs.filter fun y => P y.dat).map EntD.dat = (zs.map EntD.dat).filter P := by
  rw [List.filter_map]
  rfl
theorem cf_of {fs : List FamD} {clock low : Int} {l zs vs : List EntD} {m : List En} (hC : SchemaOk fs) (ho : IsOrd fs.length (l.map EntD.dat) m) (dz : zs.map EntD.dat = outS true low (verdictsS (mt fs) clock m)) (dv : vs.map EntD.dat = (m.filter fun x => shw 1099511627776 (sv (mt fs) clock m x)).map (tld m)) :
    (∀ x ∈ zs, CF fs low zs vs x) ∧ (zs.filter fun y => decide (y.kind = 1)).length = vs.length := by
  have hL := ho.left (fs := mt fs) (clock := clock) (low := low) true
  have e0 : zs.map EntD.dat = leftL (mt fs) clock m true low := dz.trans (out_tld ho.ah ho.va true low)
  have hts : ∀ e ∈ m, e.ts ≤ 1099511627776 := fun e he => by
    have := (check_zero.1 (ho.ck e he)).1.2.2.2.1
    simp only [EntD.ofEn] at this
    omega
  have hp := collects_puts (fs := mt fs) (clock := clock) (low := low) hts
  rw [← dv, ← e0, ← filter_dat] at hp
  refine ⟨fun x hx => ?_, ?_⟩
  · have xm : x.dat ∈ zs.map EntD.dat := List.mem_map_of_mem hx
    have xL : x.dat ∈ leftL (mt fs) clock m true low := e0 ▸ xm
    have ck := check_zero.1 (hL.ck x.dat (dz ▸ xm))
    simp only [EntD.ofEn, EntD.dat] at ck
    have kk := collects_kind ho.va xL
    refine ⟨?_, ?_, ?_, ?_, kk.1, kk.2.1, kk.2.2, fun z => ?_, ?_⟩
    · have := ck.1.2.1; omega
    · have := ck.2; omega
    · have := ck.1.2.2.2.2.2.1; omega
    · have := ck.1.2.2.2.2.2.1; omega
    · have : x ∈ zs.filter fun y => decide (y.kind = 1) := List.mem_filter.2 ⟨hx, by simpa using z⟩
      have hm : x.dat ∈ vs.map EntD.dat := by
        rw [← hp]
        exact List.mem_map_of_mem this
      obtain ⟨y, hy, e⟩ := List.mem_map.1 hm
      exact ⟨y, hy, by rw [e]; exact ⟨rfl, rfl, rfl, rfl, rfl, rfl⟩⟩
    · have := collects_col (low := low) ho.ah ho.va x.dat (famAt_nn hC x.fam) (clock := clock)
      rw [← e0, ← filter_dat, List.length_map] at this
      exact this
  · have := congrArg List.length hp
    rw [List.length_map, List.length_map] at this
    exact this
end Go.Proofs.Ytemdhpjoakldhaa

namespace Go.Proofs.Ytemdhpjoakldhaa
open Go.RowKit
set_option linter.unusedVariables false

/-- As it is told, if its group has a put: a cell's mark as a husk. -/
def hk (x : En) : En := if x.kind = 3 then { x with kind := 2 } else x
theorem hk_eq (x : En) : (hk x).row = x.row ∧ (hk x).fam = x.fam ∧ (hk x).qual = x.qual ∧ (hk x).ts = x.ts ∧ (hk x).seq = x.seq ∧ (hk x).val = x.val ∧ (x.kind = 3 ∧ (hk x).kind = 2 ∨ x.kind ≠ 3 ∧ (hk x).kind = x.kind) := by
  unfold hk
  split
  · rename_i h; exact ⟨rfl, rfl, rfl, rfl, rfl, rfl, .inl ⟨h, rfl⟩⟩
  · rename_i h; exact ⟨rfl, rfl, rfl, rfl, rfl, rfl, .inr ⟨h, rfl⟩⟩
theorem hk_inj {x y : En} (h : hk y = hk x) : y.row = x.row ∧ y.fam = x.fam ∧ y.qual = x.qual ∧ y.ts = x.ts ∧ y.seq = x.seq ∧ y.val = x.val := by
  obtain ⟨a1, a2, a3, a4, a5, a6, _⟩ := hk_eq x
  obtain ⟨b1, b2, b3, b4, b5, b6, _⟩ := hk_eq y
  exact ⟨by rw [← b1, h, a1], by rw [← b2, h, a2], by rw [← b3, h, a3], by rw [← b4, h, a4], by rw [← b5, h, a5], by rw [← b6, h, a6]⟩
theorem gpE_symm {x y : En} (h : gpE x y = true) : gpE y x = true := by
  obtain ⟨g1, g2, g3, g4, g5, g6⟩ := gpE_iff.1 h
  exact gpE_iff.2 ⟨g2, g1, g3.symm, g4.symm, g5.symm, g6.symm⟩
theorem gpE_trans {x y z : En} (h : gpE x y = true) (k : gpE y z = true) : gpE x z = true := by
  obtain ⟨g1, g2, g3, g4, g5, g6⟩ := gpE_iff.1 h
  obtain ⟨k1, k2, k3, k4, k5, k6⟩ := gpE_iff.1 k
  exact gpE_iff.2 ⟨g1, k2, g3.trans k3, g4.trans k4, g5.trans k5, g6.trans k6⟩
theorem gpE_self {x : En} (h : x.kind ≤ 3) : gpE x x = true := gpE_iff.2 ⟨h, h, rfl, rfl, rfl, rfl⟩
theorem mates_of {x y : En} (h : gpE x y = true) : mates x y = true := by
  obtain ⟨g1, g2, g3, g4, g5, g6⟩ := gpE_iff.1 h
  exact mates_iff.2 ⟨g3, g4, g5⟩
theorem mates_trans {x y z : En} (h : mates x y = true) (k : mates y z = true) : mates x z = true := by
  have a := mates_iff.1 h
  have b := mates_iff.1 k
  exact mates_iff.2 ⟨a.1.trans b.1, a.2.1.trans b.2.1, a.2.2.trans b.2.2⟩
theorem mates_symm {x y : En} (h : mates x y = true) : mates y x = true := by
  have a := mates_iff.1 h
  exact mates_iff.2 ⟨a.1.symm, a.2.1.symm, a.2.2.symm⟩
theorem mask_mates {m : List En} {x y : En} (h : mates x y = true) (hx : x.kind ≤ 3) (hy : y.kind ≤ 3) : maskOf m x = maskOf m y := maskOf_same (mates_iff.1 h) (by omega)
theorem hasPut_gp {m : List En} {x y : En} (h : gpE x y = true) : hasPut m x = hasPut m y := by
  rw [Bool.eq_iff_iff, hasPut_iff, hasPut_iff]
  exact ⟨fun ⟨z, hz, g, k⟩ => ⟨z, hz, gpE_trans g h, k⟩, fun ⟨z, hz, g, k⟩ => ⟨z, hz, gpE_trans g (gpE_symm h), k⟩⟩
/-- Of a group one decides. -/
theorem decider {m : List En} (hs : m.Pairwise Ah) {y : En} (hy : y ∈ m) (h3 : y.kind ≤ 3) : ∃ z ∈ m, gpE z y = true ∧ decidesS m z = true := by
  cases hf : m.find? (fun z => gpE z y) with
  | none =>
    have := List.find?_eq_none.1 hf y hy
    rw [gpE_self h3] at this
    exact absurd rfl this
  | some z =>
    obtain ⟨hz, a, b, hm, hab⟩ := List.find?_eq_some_iff_append.1 hf
    refine ⟨z, by rw [hm]; simp, hz, first_decides hm hs fun x hx => ?_⟩
    have := hab x hx
    cases h : gpE x z with
    | false => rfl
    | true => rw [gpE_trans h hz] at this; cases this
section
variable {fs : List (Int × Int)} {clock : Int}
theorem kd_put {m : List En} {x : En} (hx : x ∈ m) (h3 : x.kind ≤ 3) : kd m x ≠ 3 ↔ hasPut m x = true := by
  unfold kd
  by_cases k : x.kind = 3
  · cases h : hasPut m x with
    | true => simp [k]
    | false => simp [k]
  · have : hasPut m x = true := hasPut_iff.2 ⟨x, hx, gpE_self h3, k⟩
    simp [k, this]
theorem kd_hk {m : List En} {x : En} (hp : hasPut m x = true) : { x with kind := kd m x } = hk x := by
  unfold kd hk
  by_cases k : x.kind = 3
  · simp [k, hp]
  · simp [k]
theorem tld_hk {m : List En} {x : En} (h3 : x.kind ≤ 3) (hd : decidesS m x = true) (hp : hasPut m x = true) : tld m x = hk x := by
  rw [tld_ver h3 hd, kd_hk hp]
/-- Live or a husk, in, and kept. -/
theorem five_iff {m : List En} {x : En} (hx : x ∈ m) : (sv fs clock m x).fate = 5 ↔ x.kind ≤ 3 ∧ decidesS m x = true ∧ hasPut m x = true ∧ maskOf m x < x.ts ∧ expS fs clock x = false ∧ above fs clock m x + 1 ≤ (famAt fs x.fam).1 := by
  constructor
  · intro h
    have h3 : x.kind ≤ 3 := by
      by_cases k : x.kind ≤ 3
      · exact k
      · exact absurd h (mark_seven (by omega))
    have st := stays_ver h3 (five_stays (low := 0) h true)
    have k3 := (five_kd h3 h).1
    exact ⟨h3, st.1, (kd_put hx h3).1 k3, st.2.1, st.2.2.1, st.2.2.2 k3⟩
  · rintro ⟨h3, hd, hp, hm, he, ha⟩
    rw [sv_ver h3 hd hm he, if_neg ((kd_put hx h3).2 hp), if_neg (by omega)]
theorem counts_put {m : List En} {x : En} (hx : x ∈ m) : counts fs clock m x = true ↔ x.kind ≤ 3 ∧ decidesS m x = true ∧ hasPut m x = true ∧ maskOf m x < x.ts ∧ expS fs clock x = false := by
  rw [counts_iff]
  constructor
  · rintro ⟨h3, hd, k, r⟩; exact ⟨h3, hd, (kd_put hx h3).1 k, r⟩
  · rintro ⟨h3, hd, k, r⟩; exact ⟨h3, hd, (kd_put hx h3).2 k, r⟩
theorem exp_mates {x y : En} (h : x.fam = y.fam) (ht : x.ts = y.ts) : expS fs clock x = expS fs clock y := by unfold expS; rw [h, ht]
/-- What is newer is in, if this is. -/
theorem exp_up {x y : En} (h : x.fam = y.fam) (ht : x.ts ≤ y.ts) (hx : expS fs clock x = false) : expS fs clock y = false := by
  unfold expS at hx ⊢
  rw [decide_eq_false_iff_not] at hx ⊢
  rw [← h]
  omega
theorem exp_early {c : Int} {x : En} (hc : c ≤ clock) (hx : expS fs clock x = false) : expS fs c x = false := by
  unfold expS at hx ⊢
  rw [decide_eq_false_iff_not] at hx ⊢
  omega
/-- A group with a put or a husk, of x's column, at t. -/
def Gp (m : List En) (x : En) (t : Int) : Prop := ∃ y ∈ m, y.kind ≤ 2 ∧ mates y x = true ∧ y.ts = t
theorem Gp.mono {m r : List En} {x y : En} {t : Int} (h : Gp m x t) (hs : ∀ e ∈ m, e ∈ r) (hm : mates x y = true) : Gp r y t := by
  obtain ⟨z, hz, k, a, b⟩ := h
  exact ⟨z, hs z hz, k, mates_trans a hm, b⟩
/-- The times above x's that count. -/
def ups (fs : List (Int × Int)) (clock : Int) (m : List En) (x : En) : List Int := (m.filter fun y => counts fs clock m y && mates y x && decide (x.ts < y.ts)).map En.ts
theorem ups_len (m : List En) (x : En) : ((ups fs clock m x).length : Int) = above fs clock m x := by
  unfold ups above
  rw [List.length_map]
theorem ups_desc {m : List En} (hs : m.Pairwise Ah) (x : En) : (ups fs clock m x).Pairwise (fun a b => b < a) := by
  unfold ups
  rw [List.pairwise_map]
  have h1 := hs.filter (fun y => counts fs clock m y && mates y x && decide (x.ts < y.ts))
  refine List.Pairwise.imp_of_mem ?_ h1
  intro a b ha hb hab
  obtain ⟨am, ha⟩ := List.mem_filter.1 ha
  obtain ⟨bm, hb⟩ := List.mem_filter.1 hb
  simp only [Bool.and_eq_true, decide_eq_true_eq] at ha hb
  have a1 := mates_iff.1 ha.1.2
  have b1 := mates_iff.1 hb.1.2
  have ca := counts_iff.1 ha.1.1
  have cb := counts_iff.1 hb.1.1
  have r := a1.1.trans b1.1.symm
  have f := a1.2.1.trans b1.2.1.symm
  have q := a1.2.2.trans b1.2.2.symm
  have t := hab.ts r f (by omega) q (by omega)
  have : a.ts ≠ b.ts := fun z => by
    have := one_decides hs am bm (gpE_iff.2 ⟨ca.1, cb.1, r, f, q, z⟩) ca.2.1 cb.2.1
    subst this
    exact ah_irrefl hab
  omega
theorem desc_nodup {l : List Int} (h : l.Pairwise (fun a b => b < a)) : l.Nodup := h.imp (fun {a b} hab => by omega)
theorem sub_len : ∀ {a b : List Int}, a.Nodup → (∀ x ∈ a, x ∈ b) → a.length ≤ b.length
  | [], b, _, _ => Nat.zero_le _
  | x :: a, b, h, hs => by
    have h1 := List.nodup_cons.1 h
    have hb : x ∈ b := hs x List.mem_cons_self
    have := sub_len (a := a) (b := b.erase x) h1.2 (fun y hy => (List.mem_erase_of_ne (a := y) (b := x) (fun e => h1.1 (by rw [← e]; exact hy))).2 (hs y (List.mem_cons_of_mem _ hy)))
    rw [List.length_erase_of_mem hb] at this
    have : 0 < b.length := List.length_pos_of_mem hb
    simp only [List.length_cons]
    omega
theorem ups_mem {m : List En} (hs : m.Pairwise Ah) {x : En} (h3 : x.kind ≤ 3) (hm : maskOf m x < x.ts) (he : expS fs clock x = false) (t : Int) : t ∈ ups fs clock m x ↔ x.ts < t ∧ Gp m x t := by
  unfold ups
  rw [List.mem_map]
  constructor
  · rintro ⟨y, hy, rfl⟩
    obtain ⟨ym, hy⟩ := List.mem_filter.1 hy
    simp only [Bool.and_eq_true, decide_eq_true_eq] at hy
    have c := (counts_put ym).1 hy.1.1
    obtain ⟨z, hz, g, k⟩ := hasPut_iff.1 c.2.2.1
    have g' := gpE_iff.1 g
    exact ⟨hy.2, z, hz, by omega, mates_trans (mates_of g) hy.1.2, g'.2.2.2.2.2⟩
  · rintro ⟨ht, y, hy, k, hM, rfl⟩
    obtain ⟨z, hz, g, hd⟩ := decider hs hy (by omega)
    have g' := gpE_iff.1 g
    have M : mates z x = true := mates_trans (mates_of g) hM
    refine ⟨z, List.mem_filter.2 ⟨hz, ?_⟩, g'.2.2.2.2.2⟩
    simp only [Bool.and_eq_true, decide_eq_true_eq]
    refine ⟨⟨(counts_put hz).2 ⟨g'.1, hd, hasPut_iff.2 ⟨y, hy, gpE_symm g, by omega⟩, ?_, ?_⟩, M⟩, by omega⟩
    · rw [mask_mates M g'.1 h3]; omega
    · exact exp_up (mates_iff.1 M).2.1.symm (by omega) he
/-- The column is full above x. -/
def Full (fs : List (Int × Int)) (r : List En) (x : En) : Prop := ∃ ts : List Int, ts.Nodup ∧ (famAt fs x.fam).1 ≤ (ts.length : Int) ∧ ∀ t ∈ ts, x.ts < t ∧ Gp r x t
theorem Full.mono {r s : List En} {x y : En} (h : Full fs r x) (hs : ∀ e ∈ r, e ∈ s) (hm : mates x y = true) (ht : y.ts ≤ x.ts) : Full fs s y := by
  obtain ⟨ts, n, l, h⟩ := h
  refine ⟨ts, n, by rw [← (mates_iff.1 hm).2.1]; exact l, fun t h1 => ⟨by have := (h t h1).1; omega, (h t h1).2.mono hs hm⟩⟩
theorem Full.above {r : List En} (hs : r.Pairwise Ah) {x : En} (h : Full fs r x) (h3 : x.kind ≤ 3) (hm : maskOf r x < x.ts) (he : expS fs clock x = false) : (famAt fs x.fam).1 ≤ above fs clock r x := by
  obtain ⟨ts, n, l, h⟩ := h
  rw [← ups_len]
  have := sub_len n (fun t ht => (ups_mem hs h3 hm he t).2 (h t ht))
  omega
/-- All that is wanted of r, that what is kept of r may be what is kept of m. -/
structure Wk5 (fs : List (Int × Int)) (clock : Int) (m r : List En) : Prop where
  frm : ∀ y ∈ r, y.kind ≤ 3 → ∃ x ∈ m, gpE x y = true ∧ (y.kind ≤ 2 → hasPut m x = true)
  mask : ∀ x, maskOf r x ≤ maskOf m x
  maskb : ∀ y ∈ r, y.kind ≤ 3 → maskOf r y < y.ts → maskOf m y < y.ts
  alt : ∀ x ∈ m, x.kind ≤ 3 → decidesS m x = true → hasPut m x = true → maskOf m x < x.ts → expS fs clock x = false → (∃ y ∈ r, hk y = hk x ∧ y.kind ≤ 3 ∧ decidesS r y = true ∧ hasPut r y = true) ∨ Full fs r x
def fiveL (fs : List (Int × Int)) (clock : Int) (m : List En) : List En := (m.filter fun x => decide ((sv fs clock m x).fate = 5)).map (tld m)
theorem five_mem {m : List En} {e : En} : e ∈ fiveL fs clock m ↔ ∃ x ∈ m, (x.kind ≤ 3 ∧ decidesS m x = true ∧ hasPut m x = true ∧ maskOf m x < x.ts ∧ expS fs clock x = false ∧ above fs clock m x + 1 ≤ (famAt fs x.fam).1) ∧ hk x = e := by
  unfold fiveL
  rw [List.mem_map]
  constructor
  · rintro ⟨x, hx, rfl⟩
    obtain ⟨xm, hx⟩ := List.mem_filter.1 hx
    have h := (five_iff xm).1 (of_decide_eq_true hx)
    exact ⟨x, xm, h, (tld_hk h.1 h.2.1 h.2.2.1).symm⟩
  · rintro ⟨x, xm, h, rfl⟩
    exact ⟨x, List.mem_filter.2 ⟨xm, decide_eq_true ((five_iff xm).2 h)⟩, tld_hk h.1 h.2.1 h.2.2.1⟩
theorem Wk5.gp {m r : List En} (h : Wk5 fs clock m r) {x : En} {t : Int} (g : Gp r x t) : Gp m x t := by
  obtain ⟨y, hy, k, hM, rfl⟩ := g
  obtain ⟨z, hz, gz, hp⟩ := h.frm y hy (by omega)
  obtain ⟨u, hu, gu, k3⟩ := hasPut_iff.1 (hp k)
  have g := gpE_iff.1 (gpE_trans gu gz)
  exact ⟨u, hu, by omega, mates_trans (mates_of (gpE_trans gu gz)) hM, g.2.2.2.2.2⟩
/-- WHAT IS KEPT OF r IS WHAT IS KEPT OF m. -/
theorem Wk5.five {m r : List En} (h : Wk5 fs clock m r) (hs : m.Pairwise Ah) (hr : r.Pairwise Ah) (e : En) : e ∈ fiveL fs clock m ↔ e ∈ fiveL fs clock r := by
  rw [five_mem, five_mem]
  constructor
  · rintro ⟨x, hx, ⟨h3, hd, hp, hm, he, ha⟩, rfl⟩
    have hmr : maskOf r x < x.ts := by have := h.mask x; omega
    have hsub : above fs clock r x ≤ above fs clock m x := by
      rw [← ups_len, ← ups_len]
      have := sub_len (desc_nodup (ups_desc (fs := fs) (clock := clock) hr x)) (fun t ht => (ups_mem hs h3 hm he t).2 (by
        have := (ups_mem hr h3 hmr he t).1 ht
        exact ⟨this.1, h.gp this.2⟩))
      omega
    rcases h.alt x hx h3 hd hp hm he with ⟨y, hy, e1, y3, yd, yp⟩ | hf
    · obtain ⟨a1, a2, a3, a4, a5, a6⟩ := hk_inj e1
      have M : mates y x = true := mates_iff.2 ⟨a1, a2, a3⟩
      have g : gpE y x = true := gpE_iff.2 ⟨y3, h3, a1, a2, a3, a4⟩
      refine ⟨y, hy, ⟨y3, yd, yp, ?_, ?_, ?_⟩, e1⟩
      · rw [mask_mates M y3 h3, a4]; exact hmr
      · rw [exp_mates a2 a4]; exact he
      · have : above fs clock r y = above fs clock r x := by
          unfold above
          have : ∀ z, mates z y = mates z x := fun z => by simp only [mates, a1, a2, a3]
          simp only [this, a4]
        rw [this, a2]
        omega
    · have := hf.above hr h3 hmr he
      omega
  · rintro ⟨y, hy, ⟨y3, yd, yp, ym, ye, ya⟩, rfl⟩
    have hmm := h.maskb y hy y3 ym
    obtain ⟨p, hp, gp, kp⟩ := hasPut_iff.1 yp
    obtain ⟨p3, -⟩ := gpE_iff.1 gp
    obtain ⟨z0, hz0, g0, hq⟩ := h.frm p hp p3
    have hput := hq (by omega)
    obtain ⟨z, hz, g1, zd⟩ := decider hs hz0 (gpE_iff.1 g0).1
    have gy : gpE z y = true := gpE_trans g1 (gpE_trans g0 gp)
    obtain ⟨z3, _, b1, b2, b3, b4⟩ := gpE_iff.1 gy
    have Mz := mates_of gy
    have zp : hasPut m z = true := by rw [hasPut_gp g1]; exact hput
    have zm : maskOf m z < z.ts := by rw [mask_mates Mz z3 y3, b4]; exact hmm
    have ze : expS fs clock z = false := by rw [exp_mates b2 b4]; exact ye
    have nofull : ∀ u : En, mates u y = true → y.ts ≤ u.ts → ¬ Full fs r u := fun u hu ht hf => by
      have := (hf.mono (s := r) (y := y) (fun e he => he) hu ht).above hr y3 ym ye
      omega
    rcases h.alt z hz z3 zd zp zm ze with ⟨y', hy', e1, y3', yd', yp'⟩ | hf
    · obtain ⟨a1, a2, a3, a4, a5, a6⟩ := hk_inj e1
      have gg : gpE y' y = true := gpE_iff.2 ⟨y3', y3, a1.trans b1, a2.trans b2, a3.trans b3, a4.trans b4⟩
      have := one_decides hr hy' hy gg yd' yd
      subst this
      refine ⟨z, hz, ⟨z3, zd, zp, zm, ze, ?_⟩, e1.symm⟩
      have hsub : above fs clock m z ≤ above fs clock r y' := by
        rw [← ups_len, ← ups_len]
        refine Int.ofNat_le.2 (sub_len (desc_nodup (ups_desc (fs := fs) (clock := clock) hs z)) (fun t ht => ?_))
        have ht2 := (ups_mem hs z3 zm ze t).1 ht
        refine (ups_mem hr y3 ym ye t).2 ⟨by omega, ?_⟩
        obtain ⟨p, hp, k, hM, rfl⟩ := ht2.2
        obtain ⟨u, hu, gu, ud⟩ := decider hs hp (by omega)
        obtain ⟨u3, _, c1, c2, c3, c4⟩ := gpE_iff.1 gu
        have Mu : mates u z = true := mates_trans (mates_of gu) hM
        have Muy : mates u y' = true := mates_trans Mu Mz
        rcases h.alt u hu u3 ud (hasPut_iff.2 ⟨p, hp, gpE_symm gu, by omega⟩) (by rw [mask_mates Mu u3 z3]; omega) (exp_up (mates_iff.1 Mu).2.1.symm (by omega) ze) with ⟨v, hv, e2, v3, vd, vp⟩ | hf
        · obtain ⟨d1, d2, d3, d4, d5, d6⟩ := hk_inj e2
          obtain ⟨q, hq, gq, kq⟩ := hasPut_iff.1 vp
          obtain ⟨q3, _, f1, f2, f3, f4⟩ := gpE_iff.1 gq
          exact ⟨q, hq, by omega, mates_trans (mates_iff.2 ⟨f1.trans d1, f2.trans d2, f3.trans d3⟩) Muy, by omega⟩
        · exact absurd hf (nofull u Muy (by omega))
      rw [← a2] at *
      omega
    · exact absurd hf (nofull z Mz (by omega))
end
end Go.Proofs.Ytemdhpjoakldhaa
