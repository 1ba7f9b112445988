import Derived.Test.YtledfniedoapiaaDoorJ00
import Derived.Deep.QuietTactic
import Derived.BigQuiet
import Derived.Laws.AppendOwnNone
namespace Go.Proofs.YtledfniedoapiaaDoor
open Go.RowKit
set_option linter.unusedVariables false

/-- What is owned, and one byte more. -/
theorem own_snoc {w1 : World} {B n : Nat} {v : Value} {acc : List Nat} {x : Int} {y : Nat} (h : w1.ownsRow B 5 1 v (n + 1) (bv acc ++ [.int .u8 x])) (hn : n = acc.length) (hx : x = (y : Int)) :
    w1.ownsRow B 5 1 v (acc ++ [y]).length (bv (acc ++ [y])) := by
  subst hx
  subst hn
  simpa [bv] using h

set_option maxRecDepth 100000 in
set_option maxHeartbeats 400000 in
theorem uint_any (v : Nat) (hv : v < 18446744073709551616) (w : World) :
    Calls Tryd.prog 29 #[.int .u64 (v : Int)] w fun e w' => ∃ s, e = .returned s ∧ w'.ownsRow w.heap.size 5 1 s (uintL v).length (bv (uintL v)) ∧ Below w.heap.size w w' := by
  obtain ⟨i0, hi, hz0, hz1, hz2⟩ := info_parts info_byte
  have hmk : ∀ w, (Instr.makeSlice 23 (.int .i64 0) (.int .i64 10)).run Tryd.prog w = .ok (.slice (some ⟨w.heap.size, 0, none⟩) 0 10) (w.alloc (.cells #[.int .u8 0, .int .u8 0, .int .u8 0, .int .u8 0, .int .u8 0, .int .u8 0, .int .u8 0, .int .u8 0, .int .u8 0, .int .u8 0] 5)) := fun _ => by kernel_rfl
  go_enter Tryd.func29, Tryd.ntmps29
  go_wp2
  go_loopw [0, 3] (fun x s wr => ∃ (u f : Nat) (acc : List Nat), x = .int .u64 (u : Int) ∧ u < 128 ^ (f + 1) ∧ u < 18446744073709551616 ∧ acc.length + f = 9 ∧ uintL v = acc ++ uintF f u ∧ wr.ownsRow w.heap.size 5 1 s acc.length (bv acc) ∧ Below w.heap.size w wr)
    (fun x _ _ => (intOf x).toNat)
  case atStart => exact ⟨v, 9, [], rfl, by omega, hv, rfl, rfl, World.ownsRow_made w _ 10 (Nat.le_refl _) (by decide) (by simp), (Below.refl _ _).alloc (Nat.le_refl _) _⟩
  case round =>
    obtain ⟨u, f, acc, rfl, hu, hu2, hacc, hl, hown, hb⟩ := hrel
    have HL : Hid (uintL v = acc ++ uintF f u) := hl
    clear hl
    have HU : Hid (u < 128 ^ (f + 1)) := hu
    clear hu
    have hbs := hb.size
    by_cases hgt : 127 < u
    · have hgt2 : (127 : Int) < (u : Int) := by omega
      go_wp2_with (at_builtin; refine wpList_append_own _ rfl _ _ 23 rfl w.heap.size 5 i0 (.int .u8 0) 1 1 und_bytes hi hz0 hz1 hz2 rfl (by decide) _ acc.length (bv acc) rfl (hown.alloc _) ⟨wr.heap.size, 0, none⟩ 1 1 [_] rfl rfl (cell_one_new _ _ _) ?c2 ?c3 ?c4 ?c5 ?_)
      case c2 => intro u hu; simp at hu; subst hu; rfl
      case c3 => unfold maxLen; omega
      case c4 => omega
      case c5 => simp; omega
      intro v' w1 hown' hgrow _
      have ho := own_snoc hown' rfl (grp u hu2)
      have hb1 : Below w.heap.size w w1 := (hb.alloc hbs _).grown hgrow (by simp; omega) (fun k hk => (hown.lt k hk).1)
      clear hown' hgrow hown hb
      go_wp2
      go_roundw
      case rel =>
        obtain ⟨f', rfl⟩ : ∃ f', f = f' + 1 := ⟨f - 1, by
          have h1 : f ≠ 0 := by
            intro h0
            have := HU.out
            rw [h0] at this
            omega
          omega⟩
        refine ⟨u / 128, f', acc ++ [u % 128 + 128], by go_num, ?_, by omega, by simp; omega, ?_, ho, hb1⟩
        · have := HU.out
          rw [Nat.pow_succ] at this
          exact Nat.div_lt_of_lt_mul (by rw [Nat.mul_comm]; exact this)
        · rw [HL.out, uintF_go f' u hgt]; simp
      case measure => simp [intOf]; omega
    · have hgt2 : (u : Int) ≤ 127 := by omega
      go_wp2_with (at_builtin; refine wpList_append_own _ rfl _ _ 23 rfl w.heap.size 5 i0 (.int .u8 0) 1 1 und_bytes hi hz0 hz1 hz2 rfl (by decide) _ acc.length (bv acc) rfl (hown.alloc _) ⟨wr.heap.size, 0, none⟩ 1 1 [_] rfl rfl (cell_one_new _ _ _) ?c2 ?c3 ?c4 ?c5 ?_)
      case c2 => intro u hu; simp at hu; subst hu; rfl
      case c3 => unfold maxLen; omega
      case c4 => omega
      case c5 => simp; omega
      intro v' w1 hown' hgrow _
      have ho := own_snoc (y := u) hown' rfl (by omega)
      have hb1 : Below w.heap.size w w1 := (hb.alloc hbs _).grown hgrow (by simp; omega) (fun k hk => (hown.lt k hk).1)
      clear hown' hgrow hown hb
      go_wp2
      go_ret
      refine ⟨_, rfl, ?_, hb1⟩
      rw [HL.out, uintF_stop f u (by omega)]
      exact ho

end Go.Proofs.YtledfniedoapiaaDoor

namespace Go.Proofs.YtledfniedoapiaaDoor
open Go.RowKit
set_option linter.unusedVariables false

/-- The table lies in memory. -/
def Tab (w : World) : Prop := Hid <| ∀ i, i < 16 → w.cell? ⟨0, i, none⟩ = some (.int .u32 ((tab.getD i 0 : Nat) : Int))
theorem Tab.out {w : World} (h : Tab w) : ∀ i, i < 16 → w.cell? ⟨0, i, none⟩ = some (.int .u32 ((tab.getD i 0 : Nat) : Int)) := h
theorem Tab.later {w w' : World} (h : Tab w) (hb : Below w.heap.size w w') : Tab w' := fun i hi => by
  have := h.out i hi
  rw [hb.cell (p := ⟨0, i, none⟩) (World.block_lt_of_cell? w _ this)]
  exact this

/-- A value reads as lists of bytes. -/
def RdP (w : World) (v : Value) (ps : List (List Nat)) : Prop :=
  ps.length ≤ 281474976710656 ∧ ∃ a cap, v = .slice a ps.length cap ∧ (ps = [] ∨ ∃ b off, a = some ⟨b, off, none⟩ ∧ ∀ i, i < ps.length → ∃ u, w.cell? ⟨b, off + i, none⟩ = some u ∧ Rd w u (ps.getD i []))

theorem RdP.later {w w' : World} {v : Value} {ps : List (List Nat)} (h : RdP w v ps) (hb : Below w.heap.size w w') : RdP w' v ps := by
  obtain ⟨h0, a, cap, h1, h2⟩ := h
  refine ⟨h0, a, cap, h1, ?_⟩
  rcases h2 with h2 | ⟨b, off, rfl, hc⟩
  · exact .inl h2
  · refine .inr ⟨b, off, rfl, fun i hi => ?_⟩
    obtain ⟨u, hu, hr⟩ := hc i hi
    refine ⟨u, ?_, hr.later hb⟩
    rw [hb.cell (p := ⟨b, off + i, none⟩) (World.block_lt_of_cell? w _ hu)]
    exact hu

theorem flat_snoc (ps : List (List Nat)) (k : Nat) (h : k < ps.length) : (ps.take (k + 1)).flatten = (ps.take k).flatten ++ ps.getD k [] := by
  rw [List.take_succ_eq_append_getElem h, List.flatten_append]; simp [List.getD, List.getElem?_eq_getElem h]

set_option maxRecDepth 100000 in
set_option maxHeartbeats 1000000 in
theorem sum_any {v : Value} {ps : List (List Nat)} {w : World} (hp : RdP w v ps) (ht : Tab w) :
    Calls Tryd.prog 53 #[v] w fun e w' => e = .returned (.int .u32 ((sumL ps.flatten : Nat) : Int)) ∧ w' = w := by
  obtain ⟨hn, a, cap, rfl, hp⟩ := hp
  go_enter Tryd.func53, Tryd.ntmps53
  go_wp2
  go_loop [3, 10] (fun x i => ∃ k r : Nat, k ≤ ps.length ∧ i = .int .i64 (k : Int) ∧ x = .int .u32 (r : Int) ∧ r < 4294967296 ∧ r = crcL 4294967295 (ps.take k).flatten) (fun _ i => ps.length - (intOf i).toNat)
  case atStart => exact ⟨0, 4294967295, Nat.zero_le _, rfl, rfl, by omega, rfl⟩
  case round =>
    obtain ⟨k, r, hk, rfl, rfl, hr, hrr⟩ := hrel
    have HR : Hid (r = crcL 4294967295 (ps.take k).flatten) := hrr
    clear hrr
    by_cases hlt : k < ps.length
    · have hlt2 : (k : Int) < (ps.length : Int) := by omega
      rcases hp with rfl | ⟨b, off, rfl, hc⟩
      · simp at hlt
      obtain ⟨u, hu, hru⟩ := hc k hlt
      clear hc
      obtain ⟨hby, a2, cap2, hu2, hle, hm, hl48, hnone, hat⟩ := hru
      rw [hu2] at hu
      clear hu2
      obtain ⟨bs, hbs⟩ : ∃ bs, bs = ps.getD k [] := ⟨_, rfl⟩
      rw [← hbs] at hby hu hle hl48 hat
      have HB : Hid (bs = ps.getD k []) := hbs
      clear hbs
      go_wp2
      go_loop [3, 16] (fun x i => ∃ j q : Nat, j ≤ bs.length ∧ i = .int .i64 (j : Int) ∧ x = .int .u32 (q : Int) ∧ q < 4294967296 ∧ q = crcL r (bs.take j)) (fun _ i => bs.length - (intOf i).toNat)
      case atStart => exact ⟨0, r, Nat.zero_le _, rfl, rfl, hr, rfl⟩
      case round =>
        obtain ⟨j, q, hj, rfl, rfl, hq, hqq⟩ := hrel
        have HQ : Hid (q = crcL r (bs.take j)) := hqq
        clear hqq
        by_cases hjl : j < bs.length
        · have hjl2 : (j : Int) < (bs.length : Int) := by omega
          rcases hat with rfl | ⟨b2, off2, rfl, hc2⟩
          · simp at hjl
          have hcc := hc2 j hjl
          clear hc2
          have hcl := hby.get j
          obtain ⟨c, hcd⟩ : ∃ c, c = bs.getD j 0 := ⟨_, rfl⟩
          rw [← hcd] at hcc hcl
          have HC : Hid (c = bs.getD j 0) := hcd
          clear hcd
          obtain ⟨q1, hq1⟩ : ∃ q1, q1 = q ^^^ c := ⟨_, rfl⟩
          have l1 : q1 < 4294967296 := hq1 ▸ xor_lt q c hq hcl
          have e1 : bits .xor .u32 (q : Int) (c : Int) = (q1 : Int) := by rw [hq1]; exact xor32 q c hq (by omega)
          have em : (c : Int) % 4294967296 = (c : Int) := by omega
          have e2 := and15 q1 l1
          have c1 := ht.out (q1 % 16) (by omega)
          obtain ⟨t1, ht1⟩ : ∃ t1, t1 = tab.getD (q1 % 16) 0 := ⟨_, rfl⟩
          rw [← ht1] at c1
          have lt1 : t1 < 4294967296 := ht1 ▸ tab_lt _
          obtain ⟨q2, hq2⟩ : ∃ q2, q2 = (q1 / 16) ^^^ t1 := ⟨_, rfl⟩
          have l2 : q2 < 4294967296 := by rw [hq2, ht1]; exact half_lt q1 l1
          have e3 : bits .xor .u32 ((q1 : Int) / 16) (t1 : Int) = (q2 : Int) := by rw [hq2]; exact xor32d q1 t1 l1 lt1
          have e4 := and15 q2 l2
          have c2 := ht.out (q2 % 16) (by omega)
          obtain ⟨t2, ht2⟩ : ∃ t2, t2 = tab.getD (q2 % 16) 0 := ⟨_, rfl⟩
          rw [← ht2] at c2
          have lt2 : t2 < 4294967296 := ht2 ▸ tab_lt _
          obtain ⟨q3, hq3⟩ : ∃ q3, q3 = (q2 / 16) ^^^ t2 := ⟨_, rfl⟩
          have l3 : q3 < 4294967296 := by rw [hq3, ht2]; exact half_lt q2 l2
          have e5 : bits .xor .u32 ((q2 : Int) / 16) (t2 : Int) = (q3 : Int) := by rw [hq3]; exact xor32d q2 t2 l2 lt2
          have HF : Hid (q3 = crcB q c) := by rw [hq3, ht2, hq2, ht1, hq1]; rfl
          clear hq1 hq2 hq3 ht1 ht2
          go_wp2
          go_round
          case rel =>
            refine ⟨j + 1, q3, by omega, by go_num, rfl, l3, ?_⟩
            rw [HF.out, take_succ_getD bs j hjl, crcL_snoc, ← HQ.out, ← HC.out]
          case measure => simp [intOf]; omega
        · go_wp2
          go_round
          case rel =>
            refine ⟨k + 1, q, by omega, by go_num, rfl, hq, ?_⟩
            rw [flat_snoc ps k hlt, crcL_append, ← HR.out, ← HB.out, HQ.out, List.take_of_length_le (by omega)]
          case measure => simp [intOf]; omega
    · go_wp2
      go_ret
      have hk2 : ps.take k = ps := List.take_of_length_le (by omega)
      have hr2 := HR.out
      rw [hk2] at hr2
      refine ⟨?_, rfl⟩
      have e := not32 r hr
      simp only [Array.getD, List.size_toArray, List.length_cons]
      show Ending.returned (Value.int IntKind.u32 (bits BinOp.xor IntKind.u32 IntKind.u32.max (r : Int))) = _
      rw [e, hr2]
      rfl

end Go.Proofs.YtledfniedoapiaaDoor

namespace Go.Proofs.YtledfniedoapiaaDoor
open Go.RowKit
set_option linter.unusedVariables false

theorem news_new (w : World) (xs : List Value) (T : TypeId) : ∀ j u, xs[j]? = some u → (w.alloc (.cells xs.toArray T)).cell? ((⟨w.heap.size, 0, none⟩ : Addr).add j) = some u := by
  intro j u hj
  have : (⟨w.heap.size, 0, none⟩ : Addr).add j = ⟨w.heap.size, j, none⟩ := by unfold Addr.add; split <;> simp_all
  rw [this]
  unfold World.cell?
  rw [heap_alloc_new]
  simpa using hj

def be4 (n : Nat) : List Nat := [n / 16777216, n / 65536 % 256, n / 256 % 256, n % 256]
def le4 (n : Nat) : List Nat := [n % 256, n / 256 % 256, n / 65536 % 256, n / 16777216]

set_option maxRecDepth 100000 in
set_option maxHeartbeats 400000 in
theorem appendLength_any {B : Nat} {v : Value} {acc : List Nat} {w : World} (n : Nat) (hn : n < 4294967296) (hown : w.ownsRow B 5 1 v acc.length (bv acc)) (hB : B ≤ w.heap.size) (hl : acc.length ≤ 70368744177664) :
    Calls Tryd.prog 54 #[v, .int .i64 (n : Int)] w fun e w' => ∃ s, e = .returned s ∧ w'.ownsRow B 5 1 s (acc ++ be4 n).length (bv (acc ++ be4 n)) ∧ Below B w w' := by
  obtain ⟨i0, hi, hz0, hz1, hz2⟩ := info_parts info_byte
  go_enter Tryd.func54, Tryd.ntmps54
  go_wp2_with (at_builtin; refine wpList_append_own _ rfl _ _ 23 rfl B 5 i0 (.int .u8 0) 1 1 und_bytes hi hz0 hz1 hz2 rfl (by decide) _ acc.length (bv acc) rfl (hown.alloc _) ⟨w.heap.size, 0, none⟩ 4 4 [_, _, _, _] rfl rfl (news_new _ _ _) ?c2 ?c3 ?c4 ?c5 ?_)
  case c2 => intro u hu; simp at hu; rcases hu with rfl | rfl | rfl | rfl <;> rfl
  case c3 => unfold maxLen; omega
  case c4 => omega
  case c5 => simp; omega
  intro v' w1 hown' hgrow _
  have hb1 : Below B w w1 := ((Below.refl B w).alloc hB _).grown hgrow (by simp; omega) (fun k hk => (hown.lt k hk).1)
  clear hgrow
  go_wp2
  go_ret
  refine ⟨_, rfl, ?_, hb1⟩
  simpa [bv, be4] using hown'

set_option maxRecDepth 100000 in
set_option maxHeartbeats 400000 in
theorem appendSum_any {B : Nat} {v : Value} {acc : List Nat} {w : World} (n : Nat) (hn : n < 4294967296) (hown : w.ownsRow B 5 1 v acc.length (bv acc)) (hB : B ≤ w.heap.size) (hl : acc.length ≤ 70368744177664) :
    Calls Tryd.prog 55 #[v, .int .u32 (n : Int)] w fun e w' => ∃ s, e = .returned s ∧ w'.ownsRow B 5 1 s (acc ++ le4 n).length (bv (acc ++ le4 n)) ∧ Below B w w' := by
  obtain ⟨i0, hi, hz0, hz1, hz2⟩ := info_parts info_byte
  go_enter Tryd.func55, Tryd.ntmps55
  go_wp2_with (at_builtin; refine wpList_append_own _ rfl _ _ 23 rfl B 5 i0 (.int .u8 0) 1 1 und_bytes hi hz0 hz1 hz2 rfl (by decide) _ acc.length (bv acc) rfl (hown.alloc _) ⟨w.heap.size, 0, none⟩ 4 4 [_, _, _, _] rfl rfl (news_new _ _ _) ?c2 ?c3 ?c4 ?c5 ?_)
  case c2 => intro u hu; simp at hu; rcases hu with rfl | rfl | rfl | rfl <;> rfl
  case c3 => unfold maxLen; omega
  case c4 => omega
  case c5 => simp; omega
  intro v' w1 hown' hgrow _
  have hb1 : Below B w w1 := ((Below.refl B w).alloc hB _).grown hgrow (by simp; omega) (fun k hk => (hown.lt k hk).1)
  clear hgrow
  go_wp2
  go_ret
  refine ⟨_, rfl, ?_, hb1⟩
  simpa [bv, le4] using hown'


set_option maxRecDepth 100000 in
set_option maxHeartbeats 400000 in
theorem readSum_any {v : Value} {bs : List Nat} {w : World} (hr : Rd w v bs) (h4 : 4 ≤ bs.length) :
    Calls Tryd.prog 52 #[v] w fun e w' => e = .returned (.int .u32 ((rdle (bs.getD 0 0) (bs.getD 1 0) (bs.getD 2 0) (bs.getD 3 0) : Nat) : Int)) ∧ Below w.heap.size w w' := by
  obtain ⟨hby, a, cap, rfl, hle, hm, hl48, hnone, hat⟩ := hr
  rcases hat with rfl | ⟨b, off, rfl, hc⟩
  · simp at h4
  have h0 := hby.get 0
  have h1 := hby.get 1
  have h2 := hby.get 2
  have h3 := hby.get 3
  have c0 := hc 0 (by omega)
  have c1 := hc 1 (by omega)
  have c2 := hc 2 (by omega)
  have c3 := hc 3 (by omega)
  simp only [Nat.add_zero] at c0
  clear hc hnone
  generalize bs.length = n at *
  generalize bs.getD 0 0 = x0 at *
  generalize bs.getD 1 0 = x1 at *
  generalize bs.getD 2 0 = x2 at *
  generalize bs.getD 3 0 = x3 at *
  have g0 : (0 : Int) < (n : Int) := by omega
  have g1 : (1 : Int) < (n : Int) := by omega
  have g2 : (2 : Int) < (n : Int) := by omega
  have g3 : (3 : Int) < (n : Int) := by omega
  go_enter Tryd.func52, Tryd.ntmps52
  go_wp2
  go_quiet (fail)
  go_wp2
  go_ret
  refine ⟨?_, below_drewN (Below.refl _ _) _⟩
  first
    | exact congrArg (fun z : Int => Ending.returned (Value.int .u32 z)) (chain32 x0 x1 x2 x3 h0 h1 h2 h3)
    | exact congrArg (fun z : Int => Ending.returned (Value.int .i64 z)) (chaini64 x3 x2 x1 x0 h3 h2 h1 h0)

set_option maxRecDepth 100000 in
set_option maxHeartbeats 400000 in
theorem readLength_any {v : Value} {bs : List Nat} {w : World} (hr : Rd w v bs) (h4 : 4 ≤ bs.length) :
    Calls Tryd.prog 70 #[v] w fun e w' => e = .returned (.int .i64 ((rdle (bs.getD 3 0) (bs.getD 2 0) (bs.getD 1 0) (bs.getD 0 0) : Nat) : Int)) ∧ Below w.heap.size w w' := by
  obtain ⟨hby, a, cap, rfl, hle, hm, hl48, hnone, hat⟩ := hr
  rcases hat with rfl | ⟨b, off, rfl, hc⟩
  · simp at h4
  have h0 := hby.get 0
  have h1 := hby.get 1
  have h2 := hby.get 2
  have h3 := hby.get 3
  have c0 := hc 0 (by omega)
  have c1 := hc 1 (by omega)
  have c2 := hc 2 (by omega)
  have c3 := hc 3 (by omega)
  simp only [Nat.add_zero] at c0
  clear hc hnone
  generalize bs.length = n at *
  generalize bs.getD 0 0 = x0 at *
  generalize bs.getD 1 0 = x1 at *
  generalize bs.getD 2 0 = x2 at *
  generalize bs.getD 3 0 = x3 at *
  have g0 : (0 : Int) < (n : Int) := by omega
  have g1 : (1 : Int) < (n : Int) := by omega
  have g2 : (2 : Int) < (n : Int) := by omega
  have g3 : (3 : Int) < (n : Int) := by omega
  go_enter Tryd.func70, Tryd.ntmps70
  go_wp2
  go_quiet (fail)
  go_wp2
  go_ret
  refine ⟨?_, below_drewN (Below.refl _ _) _⟩
  first
    | exact congrArg (fun z : Int => Ending.returned (Value.int .u32 z)) (chain32 x0 x1 x2 x3 h0 h1 h2 h3)
    | exact congrArg (fun z : Int => Ending.returned (Value.int .i64 z)) (chaini64 x3 x2 x1 x0 h3 h2 h1 h0)

end Go.Proofs.YtledfniedoapiaaDoor

namespace Go.Proofs.YtledfniedoapiaaDoor
open Go.RowKit
set_option linter.unusedVariables false

/-- A part of what is read. -/
theorem Rd.sub {w : World} {b off n cap : Nat} {bs : List Nat} (h : Rd w (.slice (some ⟨b, off, none⟩) n cap) bs) (i j : Nat) (hij : i ≤ j) (hj : j ≤ n) {off' n' cap' : Nat}
    (ho : off' = off + i) (hn : n' = j - i) (hc : cap' = cap - i) : Rd w (.slice (some ⟨b, off', none⟩) n' cap') ((bs.take j).drop i) := by
  obtain ⟨h1, a0, cap0, h2, h3, h4, h5, h6, h7⟩ := h
  simp only [Value.slice.injEq] at h2
  obtain ⟨rfl, rfl, rfl⟩ := h2
  have hl : ((bs.take j).drop i).length = j - i := by simp; omega
  subst ho hn hc
  refine ⟨fun x hx => h1 x (List.mem_of_mem_take (List.mem_of_mem_drop hx)), _, cap - i, by rw [hl], by rw [hl]; omega, Nat.le_trans (Nat.sub_le _ _) h4, by rw [hl]; omega, .inr ⟨b, off + i, rfl⟩, ?_⟩
  rcases h7 with rfl | ⟨b', off', h8, hcell⟩
  · exact .inl (by simp)
  · cases h8
    refine .inr ⟨b, off + i, rfl, fun k hk => ?_⟩
    rw [hl] at hk
    have := hcell (i + k) (by omega)
    rw [Nat.add_assoc, this]
    simp [List.getElem?_take_of_lt (show i + k < j by omega)]
theorem Rd.upto {w : World} {b off n cap : Nat} {bs : List Nat} (h : Rd w (.slice (some ⟨b, off, none⟩) n cap) bs) (j : Nat) (hj : j ≤ n) : Rd w (.slice (some ⟨b, off, none⟩) j cap) (bs.take j) := by
  have := h.sub 0 j (Nat.zero_le _) hj (off' := off) (n' := j) (cap' := cap) rfl (by omega) (by omega)
  simpa using this
theorem Rd.past {w : World} {b off n cap : Nat} {bs : List Nat} (h : Rd w (.slice (some ⟨b, off, none⟩) n cap) bs) (i : Nat) (hi : i ≤ n) {off' n' cap' : Nat}
    (ho : off' = off + i) (hn : n' = n - i) (hc : cap' = cap - i) : Rd w (.slice (some ⟨b, off', none⟩) n' cap') (bs.drop i) := by
  have hl : n = bs.length := by obtain ⟨_, _, _, h2, _⟩ := h; simp only [Value.slice.injEq] at h2; exact h2.2.1
  have := h.sub i n hi (Nat.le_refl _) ho hn hc
  rwa [hl, List.take_length] at this
/-- Nothing is read of an empty slice, whatever its address. -/
theorem Rd.empty (w : World) (b off : Nat) (cap : Nat) (hc : cap ≤ maxLen) : Rd w (.slice (some ⟨b, off, none⟩) 0 cap) [] :=
  ⟨fun x hx => by simp at hx, _, cap, rfl, Nat.zero_le _, hc, by simp, .inr ⟨b, off, rfl⟩, .inl rfl⟩

theorem rd_lens {w : World} {a : Option Addr} {n cap : Nat} {bs : List Nat} (h : Rd w (.slice a n cap) bs) : n = bs.length ∧ n ≤ cap ∧ cap ≤ maxLen ∧ n ≤ 281474976710656 := by
  obtain ⟨_, a1, c1, h2, hle, hm, hl48, _⟩ := h
  simp only [Value.slice.injEq] at h2
  obtain ⟨rfl, rfl, rfl⟩ := h2
  exact ⟨rfl, hle, hm, hl48⟩
theorem rd_slice {w : World} {v : Value} {bs : List Nat} (h : Rd w v bs) : ∃ a n cap, v = .slice a n cap := by
  obtain ⟨_, a1, c1, h2, _⟩ := h
  exact ⟨_, _, _, h2⟩
theorem rd_some {w : World} {a : Option Addr} {n cap : Nat} {bs : List Nat} (h : Rd w (.slice a n cap) bs) : (cap = 0 ∧ n = 0 ∧ bs = []) ∨ ∃ b off, a = some ⟨b, off, none⟩ := by
  obtain ⟨_, a1, c1, h2, hle, hm, hl48, hn, hat⟩ := h
  simp only [Value.slice.injEq] at h2
  obtain ⟨rfl, rfl, rfl⟩ := h2
  rcases hn with rfl | ⟨b, off, rfl⟩
  · exact .inl ⟨rfl, by omega, List.eq_nil_of_length_eq_zero (by omega)⟩
  · exact .inr ⟨b, off, rfl⟩
theorem rd_cell {w : World} {b off n cap : Nat} {bs : List Nat} (h : Rd w (.slice (some ⟨b, off, none⟩) n cap) bs) (i : Nat) (hi : i < n) : w.cell? ⟨b, off + i, none⟩ = some (.int .u8 ((bs.getD i 0 : Nat) : Int)) ∧ bs.getD i 0 < 256 := by
  obtain ⟨h1, a0, cap0, h2, h3, h4, h5, h6, h7⟩ := h
  simp only [Value.slice.injEq] at h2
  obtain ⟨rfl, rfl, rfl⟩ := h2
  rcases h7 with rfl | ⟨b', off', h8, hcell⟩
  · simp at hi
  · cases h8
    exact ⟨hcell i hi, h1.get i⟩

set_option maxRecDepth 100000 in
set_option maxHeartbeats 400000 in
theorem clone_any {v : Value} {bs : List Nat} {w : World} (hr : Rd w v bs) (h47 : bs.length ≤ 140737488355328) :
    Calls Tryd.prog 49 #[v] w fun e w' => ∃ s, e = .returned s ∧ w'.ownsRow w.heap.size 5 1 s bs.length (bv bs) ∧ Below w.heap.size w w' := by
  obtain ⟨i0, hi, hz0, hz1, hz2⟩ := info_parts info_byte
  obtain ⟨hby, a, cap, rfl, hle, hm, hl48, hnone, hat⟩ := hr
  have heq := fun w => Lib.run_eql_slice_nil (P := Tryd.prog) w 23 5 a bs.length cap 0 0 und_bytes
  cases a with
  | none =>
    have hb0 : bs = [] := by
      rcases hnone with h | ⟨b, off, h⟩
      · exact List.eq_nil_of_length_eq_zero (by omega)
      · cases h
    subst hb0
    simp only [List.length_nil, Option.isNone_none] at heq
    go_enter Tryd.func49, Tryd.ntmps49
    go_wp2
    go_ret
    exact ⟨_, rfl, World.ownsRow_nil _ _ _ _, Below.refl _ _⟩
  | some x =>
    have hc' := (hat.later ((Below.refl _ _).alloc (Nat.le_refl _) (.cells #[] 5))).add
    clear hat hnone
    go_enter Tryd.func49, Tryd.ntmps49
    go_wp2_with (at_builtin; refine wpList_append_own _ rfl _ _ 23 rfl w.heap.size 5 i0 (.int .u8 0) 1 1 und_bytes hi hz0 hz1 hz2 rfl (by decide) _ 0 (bv []) rfl (World.ownsRow_made w #[] 0 (Nat.le_refl _) (Nat.zero_le _) rfl) x bs.length cap (bv bs) rfl ?c0 hc' (bv_oneCell bs) ?c3 ?c4 ?c5 ?_)
    case c0 => simp [bv]
    case c3 => unfold maxLen; omega
    case c4 => omega
    case c5 => simp
    intro v' w1 hown' hgrow _
    have hb1 : Below w.heap.size w w1 := ((Below.refl _ w).alloc (Nat.le_refl _) _).grown hgrow (by simp) (fun k hk => by simp [Value.ownBlock] at hk; omega)
    clear hgrow hc'
    go_wp2
    go_ret
    refine ⟨_, rfl, ?_, hb1⟩
    simpa [bv] using hown'

/-- append(own, bytes...): whatever address the bytes lie at, nil too. -/
theorem wpList_append_at {w : World} {ops : Array Oper} {rest : List Oper} {o : Oper} {a : Act} {Q : Exit → Act → World → Prop} (hgd : o.guard = none) (s x : Operand)
    (ho : o.op = .call { callee := .builtin .append, args := #[s, x], argTypes := #[23, 23] })
    (B : Nat) (a0 : Option Addr) (m0 c0 : Nat) (acc : List Nat) (hs : a.eval s = .slice a0 m0 c0) (hown : Own w B (.slice a0 m0 c0) m0 acc)
    (ao : Option Addr) (m c : Nat) (bs : List Nat) (hx : a.eval x = .slice ao m c) (hrd : Rd w (.slice ao m c) bs)
    (hbytes : m0 + m ≤ 140737488355328) (hB : B ≤ w.heap.size)
    (h : ∀ a' m' c' w', Own w' B (.slice a' m' c') m' (acc ++ bs) → Below B w w' → wpList Tryd.prog ops Q rest (a.put o.dst (.slice a' m' c')) w') : wpList Tryd.prog ops Q (o :: rest) a w := by
  obtain ⟨i0, hi, hz0, hz1, hz2⟩ := info_parts info_byte
  obtain ⟨hby, a1, c1, h2, hle, hm, hl48, hnone, hat⟩ := hrd
  simp only [Value.slice.injEq] at h2
  obtain ⟨rfl, rfl, rfl⟩ := h2
  cases ao with
  | none =>
    have hb0 : bs = [] ∧ c = 0 := by
      rcases hnone with h | ⟨b, off, h⟩
      · exact ⟨List.eq_nil_of_length_eq_zero (by omega), h⟩
      · cases h
    obtain ⟨rfl, rfl⟩ := hb0
    refine wpList_append_own_none hgd s x 23 ho B 5 i0 1 und_bytes hi _ _ _ hs hown.2 (by simpa using hx) ?_
    exact h _ _ _ _ (by simpa using hown) (Below.refl _ _)
  | some ad =>
    refine wpList_append_own _ hgd s x 23 ho B 5 i0 (.int .u8 0) 1 1 und_bytes hi hz0 hz1 hz2 rfl (by decide) _ m0 (bv acc) hs hown.2 ad bs.length c (bv bs) hx (by simp [bv]) hat.add (bv_oneCell bs) (by unfold maxLen; omega) (by omega) hB ?_
    intro v' w' h1 h2 _
    obtain ⟨a', c', rfl⟩ := own_form h1
    refine h a' _ c' w' ⟨by rw [hown.1]; simp, by simpa [bv] using h1⟩ ((Below.refl B w).grown h2 hB (fun k hk => (hown.2.lt k hk).1))

/-- append(own, x, y, ..): bytes that were just laid into a block of their own. -/
theorem wpList_append_new {w : World} {ops : Array Oper} {rest : List Oper} {o : Oper} {a : Act} {Q : Exit → Act → World → Prop} (hgd : o.guard = none) (s x : Operand)
    (ho : o.op = .call { callee := .builtin .append, args := #[s, x], argTypes := #[23, 23] })
    (B : Nat) (a0 : Option Addr) (m0 c0 : Nat) (acc : List Nat) (hs : a.eval s = .slice a0 m0 c0) (hown : Own w B (.slice a0 m0 c0) m0 acc)
    (vs : List Value) (m : Nat) (hx : a.eval x = .slice (some ⟨w.heap.size, 0, none⟩) m m) (bs : List Nat) (hvs : vs = bv bs) (hm : m = bs.length)
    (hbytes : m0 + m ≤ 140737488355328) (hB : B ≤ w.heap.size)
    (h : ∀ a' m' c' w', Own w' B (.slice a' m' c') m' (acc ++ bs) → Below B w w' → wpList Tryd.prog ops Q rest (a.put o.dst (.slice a' m' c')) w') : wpList Tryd.prog ops Q (o :: rest) a (w.alloc (.cells vs.toArray 5)) := by
  obtain ⟨i0, hi, hz0, hz1, hz2⟩ := info_parts info_byte
  subst hvs
  refine wpList_append_own _ hgd s x 23 ho B 5 i0 (.int .u8 0) 1 1 und_bytes hi hz0 hz1 hz2 rfl (by decide) _ m0 (bv acc) hs (hown.2.alloc _) ⟨w.heap.size, 0, none⟩ m m (bv bs) hx (by simp [bv, hm]) (news_new _ _ _) (bv_oneCell bs) (by unfold maxLen; omega) (by omega) (by simp; omega) ?_
  intro v' w' h1 h2 _
  obtain ⟨a', c', rfl⟩ := own_form h1
  refine h a' _ c' w' ⟨by rw [hown.1, hm]; simp, by simpa [bv] using h1⟩ (((Below.refl B w).alloc hB _).grown h2 (by simp; omega) (fun k hk => (hown.2.lt k hk).1))

end Go.Proofs.YtledfniedoapiaaDoor

namespace Go.Proofs.YtledfniedoapiaaDoor
open Go.RowKit
set_option linter.unusedVariables false

theorem RdP.one {w : World} {u : Value} {bs : List Nat} (h : Rd w u bs) : RdP (w.alloc (.cells #[u] 23)) (.slice (some ⟨w.heap.size, 0, none⟩) 1 1) [bs] := by
  refine ⟨by simp, _, 1, rfl, .inr ⟨w.heap.size, 0, rfl, fun i hi => ?_⟩⟩
  have hi0 : i = 0 := by simp at hi; exact hi
  subst hi0
  refine ⟨u, ?_, ?_⟩
  · exact news_new w [u] 23 0 u rfl
  · exact h.later ((Below.refl _ _).alloc (Nat.le_refl _) _)

def frameL (body : List Nat) : List Nat := ((be4 body.length ++ le4 (sumL (be4 body.length))) ++ body) ++ le4 (sumL body)

theorem sumL_lt (bs : List Nat) : sumL bs < 4294967296 := by unfold sumL; omega

theorem be4_bys (n : Nat) (h : n < 4294967296) : Bys (be4 n) := by
  intro x hx; simp [be4] at hx; omega
theorem le4_bys (n : Nat) (h : n < 4294967296) : Bys (le4 n) := by
  intro x hx; simp [le4] at hx; omega
theorem Bys.app {a b : List Nat} (ha : Bys a) (hb : Bys b) : Bys (a ++ b) := by
  intro x hx
  rcases List.mem_append.1 hx with h | h
  · exact ha x h
  · exact hb x h
theorem frameL_bys (body : List Nat) (h : Bys body) (hl : body.length ≤ 1048576) : Bys (frameL body) :=
  (((be4_bys _ (by omega)).app (le4_bys _ (sumL_lt _))).app h).app (le4_bys _ (sumL_lt _))

set_option maxRecDepth 100000 in
set_option maxHeartbeats 400000 in
theorem frame_long {v : Value} {bs : List Nat} {w : World} (hr : Rd w v bs) (hl : 1048576 < bs.length) :
    Calls Tryd.prog 27 #[v] w fun e w' => e = .returned (.tuple #[.slice none 0 0, .int .i64 2]) ∧ w' = w := by
  obtain ⟨hby, a, cap, rfl, hle, hm, hl48, hnone, hat⟩ := hr
  generalize bs.length = n at *
  have h1 : (1048576 : Int) < (n : Int) := by omega
  go_enter Tryd.func27, Tryd.ntmps27
  go_wp2
  go_ret2
  exact ⟨rfl, rfl⟩

theorem own_app {w1 : World} {B n m : Nat} {v : Value} {acc bs : List Nat} (h : w1.ownsRow B 5 1 v (n + m) (bv acc ++ bv bs)) (hn : n = acc.length) (hm : m = bs.length) :
    w1.ownsRow B 5 1 v (acc ++ bs).length (bv (acc ++ bs)) := by
  subst hn; subst hm
  simpa [bv] using h

set_option maxRecDepth 100000 in
set_option maxHeartbeats 1000000 in
theorem frame_ok {v : Value} {bs : List Nat} {w : World} (hr : Rd w v bs) (ht : Tab w) (hl : bs.length ≤ 1048576) :
    Calls Tryd.prog 27 #[v] w fun e w' => ∃ a m c, e = .returned (.tuple #[.slice a m c, .int .i64 0]) ∧ Own w' w.heap.size (.slice a m c) m (frameL bs) ∧ Below w.heap.size w w' := by
  obtain ⟨i0, hi, hz0, hz1, hz2⟩ := info_parts info_byte
  have hr0 := hr
  obtain ⟨hby, a, cap, rfl, hle, hm, hl48, hnone, hat⟩ := hr
  obtain ⟨n, hn⟩ : ∃ n, n = bs.length := ⟨_, rfl⟩
  rw [← hn] at hr0 hl hle hl48 ⊢
  have HN : Hid (n = bs.length) := hn
  clear hn
  have h1 : (n : Int) ≤ 1048576 := by omega
  have HAT : Hid (At w a bs) := hat
  clear hat hnone
  go_enter Tryd.func27, Tryd.ntmps27
  go_wp2_with (at_make; refine wpList_make_own _ rfl _ _ 23 rfl w.heap.size 5 i0 (.int .u8 0) 1 und_bytes hi hz0 hz1 .i64 .i64 _ (8 + n + 4) rfl rfl ?c0 ?c1 ?c2 ?c3 ?_)
  case c0 => omega
  case c1 => rw [hz2]; omega
  case c2 => unfold maxLen; omega
  case c3 => omega
  intro w1 hown1 hg1
  have hb1 : Below w.heap.size w w1 := (Below.refl _ w).grown hg1 (Nat.le_refl _) (fun k hk => by simp at hk)
  have hs1 := hb1.size
  clear hg1
  go_wp2_with fail
  refine (handed (appendLength_any (B := w.heap.size) (acc := []) n (by omega) hown1 hs1 (by simp))).mono ?_
  rintro e w2 ⟨a2, m2, c2, rfl, own2, hb2⟩
  have hb2' := hb1.trans hb2
  have hs2 := hb2'.size
  have hl2 : m2 = 4 := own2.1
  have own2' : Own w2 w.heap.size (.slice a2 m2 c2) m2 (be4 n) := own2
  have HL2 : Hid (m2 = 4) := hl2
  clear hown1 hb1 hb2 own2 hl2
  go_wp2_with fail
  refine (sum_any (RdP.one (own2'.rd (be4_bys n (by omega)) (by rw [HL2.out]; omega))) ((ht.later hb2').later ((Below.refl _ _).alloc (Nat.le_refl _) _))).mono ?_
  rintro e w3 ⟨rfl, rfl⟩
  obtain ⟨q3, hq3⟩ : ∃ q3, q3 = sumL [be4 n].flatten := ⟨_, rfl⟩
  rw [← hq3]
  have HQ3 : Hid (q3 = sumL (be4 n)) := by rw [hq3]; simp [Hid]
  have lq3 : q3 < 4294967296 := hq3 ▸ sumL_lt _
  clear hq3
  go_wp2_with fail
  refine (handed (appendSum_any (B := w.heap.size) (acc := be4 n) q3 lq3 (own2'.own.alloc _) (by simp; omega) (by simp [be4]))).mono ?_
  rintro e w4 ⟨a4, m4, c4, rfl, own4, hb4⟩
  have hb4' := (hb2'.alloc hs2 _).trans hb4
  have hs4 := hb4'.size
  have HL4 : Hid (m4 = 8) := own4.1
  have bd4 : m4 ≤ 8 := by rw [HL4.out]; omega
  clear hb4 own2' hb2'
  go_wp2_with (at_builtin; refine wpList_append_at rfl _ _ rfl w.heap.size a4 m4 c4 _ rfl own4 a n cap bs rfl (hr0.later hb4') (by omega) hs4 ?_; intro a5 m5 c5 w5 own5 hb5)
  have hb5' := hb4'.trans hb5
  have hs5 := hb5'.size
  have HL5 : Hid (m5 = 8 + n) := by rw [own5.1, HN.out]; simp [be4, le4, Hid]; omega
  have bd5 : m5 ≤ 8 + n := by rw [HL5.out]; omega
  clear own4 hb5
  refine (sum_any (RdP.one (hr0.later hb5')) ((ht.later hb5').later ((Below.refl _ _).alloc (Nat.le_refl _) _))).mono ?_
  rintro e w6 ⟨rfl, rfl⟩
  obtain ⟨q6, hq6⟩ : ∃ q6, q6 = sumL [bs].flatten := ⟨_, rfl⟩
  rw [← hq6]
  have HQ6 : Hid (q6 = sumL bs) := by rw [hq6]; simp [Hid]
  have lq6 : q6 < 4294967296 := hq6 ▸ sumL_lt _
  clear hq6
  go_wp2_with fail
  refine (handed (appendSum_any (B := w.heap.size) q6 lq6 (own5.own.alloc _) (by simp; omega) (by rw [← own5.1]; omega))).mono ?_
  rintro e w7 ⟨a7, m7, c7, rfl, own7, hb7⟩
  have hb7' := (hb5'.alloc hs5 _).trans hb7
  clear hb7 own5 hb5'
  go_wp2
  go_ret2
  refine ⟨a7, m7, c7, rfl, ?_, hb7'⟩
  have e3 := HQ3.out
  have e6 := HQ6.out
  have en := HN.out
  subst e3 e6 en
  exact own7

end Go.Proofs.YtledfniedoapiaaDoor
