import Derived.Test.YtbfeecnhmlcfaaaDoorStarted
import Derived.Test.YtbfeecnhmlcfaaaDoorJoin
namespace Go.Proofs.YtbfeecnhmlcfaaaDoor
open Go.RowKit
set_option linter.unusedVariables false

theorem rdp_new (w : World) (g : Nat) (hg : g = w.heap.size) (ps : List (List Nat)) (vs : List Value) (n : Nat) (hn : n = ps.length) (hl : ps.length ≤ 1000) (h : ∀ i, i < ps.length → ∃ u, vs[i]? = some u ∧ Rd w u (ps.getD i [])) :
    RdP (w.alloc (.cells vs.toArray 22)) (.slice (some ⟨g, 0, none⟩) n n) ps := by
  subst hg hn
  refine ⟨by omega, _, _, rfl, .inr ⟨w.heap.size, 0, rfl, fun i hi => ?_⟩⟩
  obtain ⟨u, hu, hr⟩ := h i hi
  refine ⟨u, ?_, hr.later ((Below.refl _ _).alloc (Nat.le_refl _) _)⟩
  have := news_new w vs 22 i u hu
  have e : (⟨w.heap.size, 0, none⟩ : Addr).add i = ⟨w.heap.size, 0 + i, none⟩ := by unfold Addr.add; split <;> simp_all
  rwa [e] at this
theorem rdp_two {w : World} {u v : Value} {a b : List Nat} (hu : Rd w u a) (hv : Rd w v b) (g : Nat) (hg : g = w.heap.size) : RdP (w.alloc (.cells #[u, v] 22)) (.slice (some ⟨g, 0, none⟩) 2 2) [a, b] := by
  refine rdp_new w g hg [a, b] [u, v] 2 rfl (by simp) fun i hi => ?_
  match i, hi with
  | 0, _ => exact ⟨u, rfl, hu⟩
  | 1, _ => exact ⟨v, rfl, hv⟩
theorem rdp_three {w : World} {u v x : Value} {a b c : List Nat} (hu : Rd w u a) (hv : Rd w v b) (hx : Rd w x c) (g : Nat) (hg : g = w.heap.size) : RdP (w.alloc (.cells #[u, v, x] 22)) (.slice (some ⟨g, 0, none⟩) 3 3) [a, b, c] := by
  refine rdp_new w g hg [a, b, c] [u, v, x] 3 rfl (by simp) fun i hi => ?_
  match i, hi with
  | 0, _ => exact ⟨u, rfl, hu⟩
  | 1, _ => exact ⟨v, rfl, hv⟩
  | 2, _ => exact ⟨x, rfl, hx⟩
theorem rdp_nil (w : World) : RdP w (.slice none 0 0) [] := ⟨by simp, none, 0, rfl, .inl rfl⟩

theorem sum_at {v : Value} {ps : List (List Nat)} {w : World} (hp : RdP w v ps) (ht : Tab w) {S : Nat} (h : sumL ps.flatten = S) :
    Calls Tryd.prog 21 #[v] w fun e w' => e = .returned (.int .u32 (S : Int)) ∧ w' = w := by subst h; exact sum_any hp ht
theorem check9 : sumL [[49, 50, 51], [], [52, 53, 54, 55, 56, 57]].flatten = 3808858755 := by decide
theorem check0 : sumL ([] : List (List Nat)).flatten = 0 := by decide
theorem flat_bys {w : World} {v : Value} {ps : List (List Nat)} (h : RdP w v ps) : Bys ps.flatten := by
  obtain ⟨_, a, cap, _, h2⟩ := h
  intro x hx
  obtain ⟨l, hl, hxl⟩ := List.mem_flatten.1 hx
  obtain ⟨i, hi, rfl⟩ := List.getElem_of_mem hl
  rcases h2 with rfl | ⟨b, off, _, hc⟩
  · simp at hi
  · obtain ⟨u, _, hr⟩ := hc i hi
    have e : ps.getD i [] = ps[i] := by simp [List.getD, List.getElem?_eq_getElem hi]
    rw [e] at hr
    exact hr.1 x hxl

def lim : Nat := 4194304
theorem lim_eq : lim = 4194304 := rfl

set_option maxRecDepth 100000 in
set_option maxHeartbeats 2000000 in
theorem sums_walk {vp va vb : Value} {ps : List (List Nat)} {xa xb : List Nat} {w : World} (hp : RdP w vp ps) (ha : Rd w va xa) (hb : Rd w vb xb) (ht : Tab w) (hlp : ps.flatten.length ≤ 1048576) (hla : xa.length ≤ 1048576) (hlb : xb.length ≤ 1048576) :
    Calls Tryd.prog 4 #[vp, va, vb] w fun e w' => e = .returned (.bool true) ∧ Below w.heap.size w w' := by
  have hp0 := hp
  obtain ⟨hn, ap, cp, rfl, hpp⟩ := hp
  obtain ⟨np, hnn⟩ : ∃ n, n = ps.length := ⟨_, rfl⟩
  rw [← hnn] at hn hpp hp0 ⊢
  have HN : Hid (np = ps.length) := hnn
  clear hnn
  obtain ⟨aa, na, ca, rfl⟩ := rd_slice ha
  obtain ⟨ab, nb, cb, rfl⟩ := rd_slice hb
  have b1 := (Below.refl w.heap.size w).alloc (Nat.le_refl _) (.cells #[.int .u8 49, .int .u8 50, .int .u8 51] 5)
  have b2 := b1.alloc b1.size (.cells #[.int .u8 52, .int .u8 53, .int .u8 54, .int .u8 55, .int .u8 56, .int .u8 57] 5)
  have r1 := (rd_new w _ rfl [49, 50, 51] [.int .u8 49, .int .u8 50, .int .u8 51] rfl (by intro x hx; simp at hx; omega) (by simp) 3 rfl).later ((Below.refl _ _).alloc (Nat.le_refl _) (.cells #[.int .u8 52, .int .u8 53, .int .u8 54, .int .u8 55, .int .u8 56, .int .u8 57] 5))
  have r2 := rd_new (w.alloc (.cells #[.int .u8 49, .int .u8 50, .int .u8 51] 5)) (w.heap.size + 1) (by simp) [52, 53, 54, 55, 56, 57] [.int .u8 52, .int .u8 53, .int .u8 54, .int .u8 55, .int .u8 56, .int .u8 57] rfl (by intro x hx; simp at hx; omega) (by simp) 6 rfl
  have b3 := b2.alloc b2.size (.cells #[.slice (some ⟨w.heap.size, 0, none⟩) 3 3, .slice none 0 0, .slice (some ⟨w.heap.size + 1, 0, none⟩) 6 6] 22)
  go_enter Tryd.func4, Tryd.ntmps4
  go_wp2_with fail
  refine (sum_at (rdp_three r1 (Rd.nil _) r2 _ (by simp)) (ht.later b3) check9).mono ?_
  rintro e w1 ⟨rfl, rfl⟩
  clear b1 b2 r1 r2
  generalize ((w.alloc (.cells #[.int .u8 49, .int .u8 50, .int .u8 51] 5)).alloc (.cells #[.int .u8 52, .int .u8 53, .int .u8 54, .int .u8 55, .int .u8 56, .int .u8 57] 5)).alloc (.cells #[.slice (some ⟨w.heap.size, 0, none⟩) 3 3, .slice none 0 0, .slice (some ⟨w.heap.size + 1, 0, none⟩) 6 6] 22) = w3 at *
  have hp3 := hp0.later b3
  have ha3 := ha.later b3
  have hb3 := hb.later b3
  have ht3 := ht.later b3
  have hs3 := b3.size
  clear hp0 ha hb ht hpp
  go_wp2
  go_loop [7, 8] (fun x i => ∃ k n : Nat, k ≤ np ∧ n ≤ lim ∧ i = .int .i64 (k : Int) ∧ x = .int .i64 (n : Int)) (fun _ i => np - (intOf i).toNat)
  case atStart => exact ⟨0, 0, Nat.zero_le _, Nat.zero_le _, rfl, rfl⟩
  case round =>
    obtain ⟨k, n, hk, hn4, rfl, rfl⟩ := hrel
    by_cases hlt : k < np
    · have hlt2 : (k : Int) < (np : Int) := by omega
      obtain ⟨_, ap', cp', he, hpp⟩ := hp3
      simp only [Value.slice.injEq] at he
      obtain ⟨rfl, he2, rfl⟩ := he
      rcases hpp with hpp | ⟨b, off, rfl, hc⟩
      · have := HN.out; rw [hpp] at this; simp at this; omega
      obtain ⟨u, hu, hru⟩ := hc k (by omega)
      clear hc he2
      obtain ⟨a2, n2, cap2, rfl⟩ := rd_slice hru
      have hl2 := (rd_lens hru).2.2.2
      have hn5 : (n : Int) ≤ 4194304 := by rw [lim_eq] at hn4; omega
      clear hn4
      by_cases hbig2 : (4194304 : Int) < (n : Int) + (n2 : Int) + 1
      · go_wp2_with fail
        refine (started_any ht3).mono ?_
        rintro e w4 ⟨rfl, hb4⟩
        have hb4' := b3.trans (hb4.mono hs3)
        clear hb4
        go_wp2
        go_ret
        exact ⟨rfl, hb4'⟩
      · have hbig3 : (n : Int) + (n2 : Int) + 1 ≤ 4194304 := by omega
        have HB3 : Hid ((n : Int) + (n2 : Int) + 1 ≤ 4194304) := hbig3
        have e9 : decide ((4194304 : Int) < (n : Int) + (n2 : Int) + 1) = false := decide_eq_false hbig2
        clear hbig2 hbig3
        go_wp2
        go_round
        case rel => exact ⟨k + 1, n + n2 + 1, by omega, by have := HB3.out; rw [lim_eq]; omega, by go_num, by go_num⟩
        case measure => simp [intOf]; omega
    · have hge : (np : Int) ≤ (k : Int) := by omega
      go_wp2_with fail
      refine (started_any ht3).mono ?_
      rintro e w4 ⟨rfl, hb4⟩
      have hb4' := b3.trans (hb4.mono hs3)
      have hp4 := hp3.later hb4
      have ha4 := ha3.later hb4
      have hv4 := hb3.later hb4
      have ht4 := ht3.later hb4
      have hs4 := hb4'.size
      clear hb4 hp3 ha3 hb3 ht3 b3 hs3
      go_wp2_with fail
      refine (sum_at hp4 ht4 rfl).mono ?_
      rintro e w5 ⟨rfl, rfl⟩
      obtain ⟨S1, hS1⟩ : ∃ S1, S1 = sumL ps.flatten := ⟨_, rfl⟩
      rw [← hS1]
      have HS1 : Hid (S1 = sumL ps.flatten) := hS1
      clear hS1
      go_wp2_with fail
      refine (join_any hp4 (by omega)).mono ?_
      rintro e w6 ⟨a6, m6, c6, rfl, own6, hb6⟩
      have r6 := own6.rd (flat_bys hp4) (by rw [own6.1]; omega)
      have hb6' := hb4'.trans (hb6.mono hs4)
      have ha6 := ha4.later hb6
      have hv6 := hv4.later hb6
      have ht6 := ht4.later hb6
      clear own6 hb6 hb4' ha4 hv4 ht4 hp4 hs4
      have hs6 := hb6'.size
      go_wp2_with fail
      have A7 := (Below.refl w6.heap.size w6).alloc (Nat.le_refl _) (.cells #[.slice a6 m6 c6] 22)
      refine (sum_at (RdP.one r6) (ht6.later A7) (S := S1) (by rw [HS1.out]; simp)).mono ?_
      rintro e w7 ⟨rfl, rfl⟩
      have hb7 := hb6'.trans (A7.mono hs6)
      have ha7 := ha6.later A7
      have hv7 := hv6.later A7
      have ht7 := ht6.later A7
      clear A7 ha6 hv6 ht6 r6 hb6' hs6
      generalize w6.alloc (.cells #[.slice a6 m6 c6] 22) = w8 at *
      have hs8 := hb7.size
      go_wp2_with fail
      have A8 := (Below.refl w8.heap.size w8).alloc (Nat.le_refl _) (.cells #[.slice aa na ca, .slice ab nb cb] 22)
      refine (sum_at (rdp_two ha7 hv7 _ rfl) (ht7.later A8) rfl).mono ?_
      rintro e w9 ⟨rfl, rfl⟩
      obtain ⟨S2, hS2⟩ : ∃ S2, S2 = sumL [xa, xb].flatten := ⟨_, rfl⟩
      rw [← hS2]
      have HS2 : Hid (S2 = sumL [xa, xb].flatten) := hS2
      clear hS2
      have hb9 := hb7.trans (A8.mono hs8)
      have ha9 := ha7.later A8
      have hv9 := hv7.later A8
      have ht9 := ht7.later A8
      clear A8 ha7 hv7 ht7 hb7 hs8
      generalize w8.alloc (.cells #[.slice aa na ca, .slice ab nb cb] 22) = w9 at *
      have hs9 := hb9.size
      go_wp2_with fail
      have A9 := (Below.refl w9.heap.size w9).alloc (Nat.le_refl _) (.cells #[.slice aa na ca, .slice ab nb cb] 22)
      have hj := rdp_two ha9 hv9 _ rfl
      have hbj := flat_bys hj
      have hlj : [xa, xb].flatten.length ≤ 140737488355328 := by simp; omega
      refine (join_any hj hlj).mono ?_
      rintro e w10 ⟨a10, m10, c10, rfl, own10, hb10⟩
      have r10 := own10.rd hbj (by rw [own10.1]; omega)
      have hb9' := hb9.trans (A9.mono hs9)
      have hb10' := hb9'.trans (hb10.mono hb9'.size)
      have ht10 := (ht9.later A9).later hb10
      clear own10 hb10 hb9' hb9 A9 ha9 hv9 ht9 hj
      have hs10 := hb10'.size
      go_wp2_with fail
      have A11 := (Below.refl w10.heap.size w10).alloc (Nat.le_refl _) (.cells #[.slice a10 m10 c10] 22)
      refine (sum_at (RdP.one r10) (ht10.later A11) (S := S2) (by rw [HS2.out]; simp)).mono ?_
      rintro e w11 ⟨rfl, rfl⟩
      have hb11 := hb10'.trans (A11.mono hs10)
      have ht11 := ht10.later A11
      clear A11 r10 hb10' ht10
      generalize w10.alloc (.cells #[.slice a10 m10 c10] 22) = w12 at *
      go_wp2_with fail
      refine (sum_at (rdp_nil _) ht11 check0).mono ?_
      rintro e w13 ⟨rfl, rfl⟩
      go_wp2
      go_ret
      exact ⟨rfl, hb11⟩

end Go.Proofs.YtbfeecnhmlcfaaaDoor
