import Derived.Test.YtncbiohmogmcpaaDoorUint
import Derived.Test.YtncbiohmogmcpaaDoorSum
import Derived.Deep.QuietTactic
import Derived.BigQuiet
namespace Go.Proofs.YtncbiohmogmcpaaDoor
open Go.RowKit
set_option linter.unusedVariables false

theorem news_new (w : World) (xs : List Value) (T : TypeId) : ∀ j u, xs[j]? = some u → (w.alloc (.cells xs.toArray T)).cell? ((⟨w.heap.size, 0, none⟩ : Addr).add j) = some u := by
  intro j u hj
  have : (⟨w.heap.size, 0, none⟩ : Addr).add j = ⟨w.heap.size, j, none⟩ := by unfold Addr.add; split <;> simp_all
  rw [this]
  unfold World.cell?
  rw [heap_alloc_new]
  simpa using hj

def be4 (n : Nat) : List Nat := [n / 16777216, n / 65536 % 256, n / 256 % 256, n % 256]
def le4 (n : Nat) : List Nat := [n % 256, n / 256 % 256, n / 65536 % 256, n / 16777216]

set_option maxRecDepth 100000 in
set_option maxHeartbeats 400000 in
theorem appendLength_any {B : Nat} {v : Value} {acc : List Nat} {w : World} (n : Nat) (hn : n < 4294967296) (hown : w.ownsRow B 5 1 v acc.length (bv acc)) (hB : B ≤ w.heap.size) (hl : acc.length ≤ 70368744177664) :
    Calls Tryd.prog 54 #[v, .int .i64 (n : Int)] w fun e w' => ∃ s, e = .returned s ∧ w'.ownsRow B 5 1 s (acc ++ be4 n).length (bv (acc ++ be4 n)) ∧ Below B w w' := by
  obtain ⟨i0, hi, hz0, hz1, hz2⟩ := info_parts info_byte
  go_enter Tryd.func54, Tryd.ntmps54
  go_wp2_with (at_builtin; refine wpList_append_own _ rfl _ _ 27 rfl B 5 i0 (.int .u8 0) 1 1 und_bytes hi hz0 hz1 hz2 rfl (by decide) _ acc.length (bv acc) rfl (hown.alloc _) ⟨w.heap.size, 0, none⟩ 4 4 [_, _, _, _] rfl rfl (news_new _ _ _) ?c2 ?c3 ?c4 ?c5 ?_)
  case c2 => intro u hu; simp at hu; rcases hu with rfl | rfl | rfl | rfl <;> rfl
  case c3 => unfold maxLen; omega
  case c4 => omega
  case c5 => simp; omega
  intro v' w1 hown' hgrow _
  have hb1 : Below B w w1 := ((Below.refl B w).alloc hB _).grown hgrow (by simp; omega) (fun k hk => (hown.lt k hk).1)
  clear hgrow
  go_wp2
  go_ret
  refine ⟨_, rfl, ?_, hb1⟩
  simpa [bv, be4] using hown'

set_option maxRecDepth 100000 in
set_option maxHeartbeats 400000 in
theorem appendSum_any {B : Nat} {v : Value} {acc : List Nat} {w : World} (n : Nat) (hn : n < 4294967296) (hown : w.ownsRow B 5 1 v acc.length (bv acc)) (hB : B ≤ w.heap.size) (hl : acc.length ≤ 70368744177664) :
    Calls Tryd.prog 55 #[v, .int .u32 (n : Int)] w fun e w' => ∃ s, e = .returned s ∧ w'.ownsRow B 5 1 s (acc ++ le4 n).length (bv (acc ++ le4 n)) ∧ Below B w w' := by
  obtain ⟨i0, hi, hz0, hz1, hz2⟩ := info_parts info_byte
  go_enter Tryd.func55, Tryd.ntmps55
  go_wp2_with (at_builtin; refine wpList_append_own _ rfl _ _ 27 rfl B 5 i0 (.int .u8 0) 1 1 und_bytes hi hz0 hz1 hz2 rfl (by decide) _ acc.length (bv acc) rfl (hown.alloc _) ⟨w.heap.size, 0, none⟩ 4 4 [_, _, _, _] rfl rfl (news_new _ _ _) ?c2 ?c3 ?c4 ?c5 ?_)
  case c2 => intro u hu; simp at hu; rcases hu with rfl | rfl | rfl | rfl <;> rfl
  case c3 => unfold maxLen; omega
  case c4 => omega
  case c5 => simp; omega
  intro v' w1 hown' hgrow _
  have hb1 : Below B w w1 := ((Below.refl B w).alloc hB _).grown hgrow (by simp; omega) (fun k hk => (hown.lt k hk).1)
  clear hgrow
  go_wp2
  go_ret
  refine ⟨_, rfl, ?_, hb1⟩
  simpa [bv, le4] using hown'


set_option maxRecDepth 100000 in
set_option maxHeartbeats 400000 in
theorem readSum_any {v : Value} {bs : List Nat} {w : World} (hr : Rd w v bs) (h4 : 4 ≤ bs.length) :
    Calls Tryd.prog 58 #[v] w fun e w' => e = .returned (.int .u32 ((rdle (bs.getD 0 0) (bs.getD 1 0) (bs.getD 2 0) (bs.getD 3 0) : Nat) : Int)) ∧ Below w.heap.size w w' := by
  obtain ⟨hby, a, cap, rfl, hle, hm, hl48, hnone, hat⟩ := hr
  rcases hat with rfl | ⟨b, off, rfl, hc⟩
  · simp at h4
  have h0 := hby.get 0
  have h1 := hby.get 1
  have h2 := hby.get 2
  have h3 := hby.get 3
  have c0 := hc 0 (by omega)
  have c1 := hc 1 (by omega)
  have c2 := hc 2 (by omega)
  have c3 := hc 3 (by omega)
  simp only [Nat.add_zero] at c0
  clear hc hnone
  generalize bs.length = n at *
  generalize bs.getD 0 0 = x0 at *
  generalize bs.getD 1 0 = x1 at *
  generalize bs.getD 2 0 = x2 at *
  generalize bs.getD 3 0 = x3 at *
  have g0 : (0 : Int) < (n : Int) := by omega
  have g1 : (1 : Int) < (n : Int) := by omega
  have g2 : (2 : Int) < (n : Int) := by omega
  have g3 : (3 : Int) < (n : Int) := by omega
  go_enter Tryd.func58, Tryd.ntmps58
  go_wp2
  go_quiet (fail)
  go_wp2
  go_ret
  refine ⟨?_, below_drewN (Below.refl _ _) _⟩
  first
    | exact congrArg (fun z : Int => Ending.returned (Value.int .u32 z)) (chain32 x0 x1 x2 x3 h0 h1 h2 h3)
    | exact congrArg (fun z : Int => Ending.returned (Value.int .i64 z)) (chaini64 x3 x2 x1 x0 h3 h2 h1 h0)

set_option maxRecDepth 100000 in
set_option maxHeartbeats 400000 in
theorem readLength_any {v : Value} {bs : List Nat} {w : World} (hr : Rd w v bs) (h4 : 4 ≤ bs.length) :
    Calls Tryd.prog 79 #[v] w fun e w' => e = .returned (.int .i64 ((rdle (bs.getD 3 0) (bs.getD 2 0) (bs.getD 1 0) (bs.getD 0 0) : Nat) : Int)) ∧ Below w.heap.size w w' := by
  obtain ⟨hby, a, cap, rfl, hle, hm, hl48, hnone, hat⟩ := hr
  rcases hat with rfl | ⟨b, off, rfl, hc⟩
  · simp at h4
  have h0 := hby.get 0
  have h1 := hby.get 1
  have h2 := hby.get 2
  have h3 := hby.get 3
  have c0 := hc 0 (by omega)
  have c1 := hc 1 (by omega)
  have c2 := hc 2 (by omega)
  have c3 := hc 3 (by omega)
  simp only [Nat.add_zero] at c0
  clear hc hnone
  generalize bs.length = n at *
  generalize bs.getD 0 0 = x0 at *
  generalize bs.getD 1 0 = x1 at *
  generalize bs.getD 2 0 = x2 at *
  generalize bs.getD 3 0 = x3 at *
  have g0 : (0 : Int) < (n : Int) := by omega
  have g1 : (1 : Int) < (n : Int) := by omega
  have g2 : (2 : Int) < (n : Int) := by omega
  have g3 : (3 : Int) < (n : Int) := by omega
  go_enter Tryd.func79, Tryd.ntmps79
  go_wp2
  go_quiet (fail)
  go_wp2
  go_ret
  refine ⟨?_, below_drewN (Below.refl _ _) _⟩
  first
    | exact congrArg (fun z : Int => Ending.returned (Value.int .u32 z)) (chain32 x0 x1 x2 x3 h0 h1 h2 h3)
    | exact congrArg (fun z : Int => Ending.returned (Value.int .i64 z)) (chaini64 x3 x2 x1 x0 h3 h2 h1 h0)

end Go.Proofs.YtncbiohmogmcpaaDoor
