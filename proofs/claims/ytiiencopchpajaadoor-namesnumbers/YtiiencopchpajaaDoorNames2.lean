import Derived.Test.YtiiencopchpajaaDoorNames1
import Derived.Shelf.Strconv.Itoa3
import Derived.Lib.SmallJoins
import Derived.Lib.AppendIntMem
namespace Go.Proofs.YtiiencopchpajaaDoor
open Go.RowKit
set_option linter.unusedVariables false

def laid171 : Go.Shelf.Ren := ⟨fun | 171 => 26 | 243 => 50 | 246 => 75 | 283 => 79 | 284 => 80 | 285 => 81 | 286 => 82 | 129 => 87 | 317 => 86 | 318 => 88 | 319 => 89 | 320 => 90 | 337 => 96 | 338 => 97 | n => n, fun | 3 => 3 | 9 => 9 | 2 => 2 | 4 => 4 | 171 => 101 | 0 => 0 | 53 => 30 | 37 => 31 | 5 => 5 | 173 => 104 | 212 => 108 | 51 => 83 | 20 => 20 | 213 => 109 | 46 => 70 | 232 => 116 | 233 => 117 | n => n, fun | 17 => 2 | 18 => 3 | 19 => 4 | n => n⟩
theorem lays171 : LaysM.n171 Tryd.prog laid171 := {
  mixed := by kernel_rfl,
  f129 := Tryd.func87.trans (congrArg some (by kernel_rfl)),
  f171 := Tryd.func26.trans (congrArg some (by kernel_rfl)),
  f243 := Tryd.func50.trans (congrArg some (by kernel_rfl)),
  f246 := Tryd.func75.trans (congrArg some (by kernel_rfl)),
  f283 := Tryd.func79.trans (congrArg some (by kernel_rfl)),
  f284 := Tryd.func80.trans (congrArg some (by kernel_rfl)),
  f285 := Tryd.func81.trans (congrArg some (by kernel_rfl)),
  f286 := Tryd.func82.trans (congrArg some (by kernel_rfl)),
  f317 := Tryd.func86.trans (congrArg some (by kernel_rfl)),
  f318 := Tryd.func88.trans (congrArg some (by kernel_rfl)),
  f319 := Tryd.func89.trans (congrArg some (by kernel_rfl)),
  f320 := Tryd.func90.trans (congrArg some (by kernel_rfl)),
  f337 := Tryd.func96.trans (congrArg some (by kernel_rfl)),
  f338 := Tryd.func97.trans (congrArg some (by kernel_rfl)),
  t0 := Tryd.underlying0,
  a0 := Tryd.isAgg0,
  z0 := Tryd.sizeOf0,
  v0 := Tryd.zeroValue0,
  t2 := Tryd.underlying2,
  a2 := Tryd.isAgg2,
  z2 := Tryd.sizeOf2,
  v2 := Tryd.zeroValue2,
  t3 := Tryd.underlying3,
  a3 := Tryd.isAgg3,
  z3 := Tryd.sizeOf3,
  v3 := Tryd.zeroValue3,
  t4 := Tryd.underlying4,
  a4 := Tryd.isAgg4,
  z4 := Tryd.sizeOf4,
  v4 := Tryd.zeroValue4,
  t5 := Tryd.underlying5,
  a5 := Tryd.isAgg5,
  z5 := Tryd.sizeOf5,
  v5 := Tryd.zeroValue5,
  t9 := Tryd.underlying9,
  a9 := Tryd.isAgg9,
  z9 := Tryd.sizeOf9,
  v9 := Tryd.zeroValue9,
  t20 := Tryd.underlying20,
  a20 := Tryd.isAgg20,
  z20 := Tryd.sizeOf20,
  v20 := Tryd.zeroValue20,
  t37 := Tryd.underlying31,
  a37 := Tryd.isAgg31,
  z37 := Tryd.sizeOf31,
  v37 := Tryd.zeroValue31,
  t46 := Tryd.underlying70,
  a46 := Tryd.isAgg70,
  z46 := Tryd.sizeOf70,
  v46 := Tryd.zeroValue70,
  t51 := Tryd.underlying83,
  a51 := Tryd.isAgg83,
  z51 := Tryd.sizeOf83,
  v51 := Tryd.zeroValue83,
  t53 := Tryd.underlying30,
  a53 := Tryd.isAgg30,
  z53 := Tryd.sizeOf30,
  v53 := Tryd.zeroValue30,
  t171 := Tryd.underlying101,
  a171 := Tryd.isAgg101,
  z171 := Tryd.sizeOf101,
  v171 := Tryd.zeroValue101,
  t173 := Tryd.underlying104,
  a173 := Tryd.isAgg104,
  z173 := Tryd.sizeOf104,
  v173 := Tryd.zeroValue104,
  t212 := Tryd.underlying108,
  a212 := Tryd.isAgg108,
  z212 := Tryd.sizeOf108,
  v212 := Tryd.zeroValue108,
  t213 := Tryd.underlying109,
  a213 := Tryd.isAgg109,
  z213 := Tryd.sizeOf109,
  t232 := Tryd.underlying116,
  a232 := Tryd.isAgg116,
  z232 := Tryd.sizeOf116,
  v232 := Tryd.zeroValue116,
  t233 := Tryd.underlying117,
  a233 := Tryd.isAgg117,
  z233 := Tryd.sizeOf117,
  v233 := Tryd.zeroValue117,
  g17 := by kernel_rfl,
  g18 := by kernel_rfl,
  g19 := by kernel_rfl,
  i0 := by kernel_rfl,
  i2 := by kernel_rfl,
  i3 := by kernel_rfl,
  i4 := by kernel_rfl,
  i5 := by kernel_rfl,
  i9 := by kernel_rfl,
  i20 := by kernel_rfl,
  i37 := by kernel_rfl,
  i46 := by kernel_rfl,
  i51 := by kernel_rfl,
  i53 := by kernel_rfl,
  i171 := by kernel_rfl,
  i173 := by kernel_rfl,
  i212 := by kernel_rfl,
  i232 := by kernel_rfl,
  i233 := by kernel_rfl,
  m17 := by kernel_rfl,
  m18 := by kernel_rfl,
  m19 := by kernel_rfl }

abbrev Pow (w : World) : Prop := Lib.TabIs Tryd.prog w "internal/strconv.uint64pow10" .u64 Lib.pow10Tab

set_option maxRecDepth 100000 in
theorem error_30 (w : World) : Calls Tryd.prog 10 #[.int .i64 30] w fun e w' => e = .returned (.string ⟨#[101, 114, 114, 111, 114, 32, 51, 48]⟩) ∧ w' = w := by
  go_enter Tryd.func10, Tryd.ntmps10
  go_wp2_with fail
  refine (Any.strconv_Itoa_small { lays171 with } 30 (by decide) _).mono ?_
  rintro e w1 ⟨rfl, rfl⟩
  rw [show Lib.decDigits 30 = [51, 48] by kernel_rfl]
  go_wp2
  go_ret
  exact ⟨by kernel_rfl, rfl⟩

set_option maxRecDepth 100000 in
theorem error_m5 {w : World} (ht : Pow w) : Calls Tryd.prog 10 #[.int .i64 (-5)] w fun e w' => e = .returned (.string ⟨#[101, 114, 114, 111, 114, 32, 45, 53]⟩) ∧ Below w.heap.size w w' := by
  go_enter Tryd.func10, Tryd.ntmps10
  go_wp2_with fail
  refine (Any.strconv_Itoa lays171 (-5) (by decide) (by decide) _ ht).mono ?_
  rintro e w1 ⟨rfl, k, os, rfl⟩
  rw [show Lib.itoa (-5) = [45, 53] by kernel_rfl]
  go_wp2
  go_ret
  exact ⟨by kernel_rfl, Lib.below_grow _ _ (Nat.le_refl _) _ _⟩

/-- A list of pairs, each of one number twice. -/
def Tbl (w : World) (g n : Nat) : Prop := ∀ t, t < n → ∃ z : Int, w.cell? ⟨g, t * 2, none⟩ = some (.int .i64 z) ∧ w.cell? ⟨g, t * 2 + 1, none⟩ = some (.int .i64 z)
theorem Tbl.later {w w' : World} {g n : Nat} (h : Tbl w g n) (hb : Below w.heap.size w w') : Tbl w' g n := by
  intro t ht
  obtain ⟨z, h1, h2⟩ := h t ht
  exact ⟨z, by rw [hb.cell (p := ⟨g, t * 2, none⟩) (World.block_lt_of_cell? w _ h1)]; exact h1, by rw [hb.cell (p := ⟨g, t * 2 + 1, none⟩) (World.block_lt_of_cell? w _ h2)]; exact h2⟩
theorem pairs_get : ∀ (zs : List Int) (t : Nat), t < zs.length → ∃ z : Int, (pairs zs)[t * 2]? = some (.int .i64 z) ∧ (pairs zs)[t * 2 + 1]? = some (.int .i64 z)
  | z :: zs, 0, _ => ⟨z, rfl, rfl⟩
  | z :: zs, t + 1, h => by
    obtain ⟨y, h1, h2⟩ := pairs_get zs t (by simp at h; omega)
    have e : pairs (z :: zs) = .int .i64 z :: .int .i64 z :: pairs zs := rfl
    refine ⟨y, ?_, ?_⟩
    · rw [e, show (t + 1) * 2 = t * 2 + 2 by omega]; simpa using h1
    · rw [e, show (t + 1) * 2 + 1 = t * 2 + 1 + 2 by omega]; simpa using h2
theorem tbl_of {w : World} {g : Nat} (zs : List Int) (e : w.heap[g]? = some (.cells (pairs zs).toArray 25)) : Tbl w g zs.length := by
  intro t ht
  obtain ⟨z, h1, h2⟩ := pairs_get zs t ht
  exact ⟨z, by simp [World.cell?, e, h1], by simp [World.cell?, e, h2]⟩
theorem tbl_new (w : World) (zs : List Int) : Tbl (w.alloc (.cells (pairs zs).toArray 25)) w.heap.size zs.length := by
  refine tbl_of zs ?_
  show (w.heap.push _)[w.heap.size]? = _
  simp

theorem errs_tbl (w : World) : Calls Tryd.prog 7 #[] w fun e w' => ∃ g, e = .returned (.slice (some ⟨g, 0, none⟩) 105 105) ∧ Tbl w' g 105 ∧ Below w.heap.size w w' := by
  refine (errs_any w).mono ?_
  rintro e w1 ⟨rfl, rfl⟩
  exact ⟨_, rfl, tbl_new w errsZ, (Below.refl _ _).alloc (Nat.le_refl _) _⟩
theorem limits_tbl (w : World) : Calls Tryd.prog 8 #[] w fun e w' => ∃ g, e = .returned (.slice (some ⟨g, 0, none⟩) 92 92) ∧ Tbl w' g 92 ∧ Below w.heap.size w w' := by
  refine (limits_any w).mono ?_
  rintro e w1 ⟨rfl, rfl⟩
  exact ⟨_, rfl, tbl_new w limitsZ, (Below.refl _ _).alloc (Nat.le_refl _) _⟩
set_option maxRecDepth 100000 in
theorem errno_any (n : Int) (w : World) : Calls Tryd.prog 9 #[.int .i64 n] w fun e w' => e = .returned (.int .i64 n) ∧ w' = w := by
  go_enter Tryd.func9, Tryd.ntmps9
  go_wp2
  go_ret
  exact ⟨rfl, rfl⟩

set_option maxRecDepth 100000 in
set_option maxHeartbeats 1000000 in
theorem names_walk {w : World} (ht : Pow w) : Calls Tryd.prog 3 #[] w fun e w' => e = .returned (.bool true) ∧ Below w.heap.size w w' := by
  have HT : Hid (Pow w) := ht
  clear ht
  go_enter Tryd.func3, Tryd.ntmps3
  go_wp2_with fail
  refine (errs_tbl _).mono ?_
  rintro e w1 ⟨g1, rfl, tb1, hb1⟩
  have T1 : Hid (Tbl w1 g1 105) := tb1
  clear tb1
  go_wp2
  go_loopw [2, 8] (fun x i wr => ∃ t : Nat, t ≤ 105 ∧ i = .int .i64 (t : Int) ∧ Below w1.heap.size w1 wr) (fun _ i _ => 105 - (intOf i).toNat)
  case atStart => exact ⟨0, Nat.zero_le _, rfl, Below.refl _ _⟩
  case round =>
    obtain ⟨t, htn, rfl, hb2⟩ := hrel
    by_cases hlt : t < 105
    · have hlt2 : (t : Int) < 105 := by omega
      obtain ⟨z, c0, c1⟩ := (T1.out.later hb2) t hlt
      go_wp2
      go_roundw
      case rel => exact ⟨t + 1, by omega, by go_num, hb2.alloc hb2.size _⟩
      case measure => simp [intOf]; omega
    · have hge : (105 : Int) ≤ (t : Int) := by omega
      go_wp2_with fail
      refine (limits_tbl _).mono ?_
      rintro e w3 ⟨g3, rfl, tb3, hb3⟩
      have T3 : Hid (Tbl w3 g3 92) := tb3
      have B3 : Below w.heap.size w w3 := (hb1.trans (hb2.mono hb1.size)).trans (hb3.mono (Nat.le_trans hb1.size hb2.size))
      clear tb3 hb3 hb2 hb1 T1
      go_wp2
      go_loopw [4, 20] (fun x i wr => ∃ t : Nat, t ≤ 92 ∧ i = .int .i64 (t : Int) ∧ Below w3.heap.size w3 wr) (fun _ i _ => 92 - (intOf i).toNat)
      case atStart => exact ⟨0, Nat.zero_le _, rfl, Below.refl _ _⟩
      case round =>
        obtain ⟨t, htn, rfl, hb2⟩ := hrel
        by_cases hlt : t < 92
        · have hlt2 : (t : Int) < 92 := by omega
          obtain ⟨z, c0, c1⟩ := (T3.out.later hb2) t hlt
          go_wp2
          go_roundw
          case rel => exact ⟨t + 1, by omega, by go_num, hb2.alloc hb2.size _⟩
          case measure => simp [intOf]; omega
        · have hge : (92 : Int) ≤ (t : Int) := by omega
          have B4 := B3.trans (hb2.mono B3.size)
          have ht4 : Pow wr := Joins.tab_stays (by kernel_rfl : Tryd.prog.globalNamed "internal/strconv.uint64pow10" = some 2) HT.out B4 (Nat.le_refl _)
          clear hb2 T3 B3
          go_wp2_with fail
          refine (errno_any _ _).mono ?_
          rintro e w5 ⟨rfl, rfl⟩
          go_wp2_with fail
          refine (error_30 _).mono ?_
          rintro e w5 ⟨rfl, rfl⟩
          go_wp2_with fail
          refine (error_m5 ht4).mono ?_
          rintro e w6 ⟨rfl, hb6⟩
          go_wp2
          go_ret
          exact ⟨by kernel_rfl, B4.trans (hb6.mono B4.size)⟩

end Go.Proofs.YtiiencopchpajaaDoor
