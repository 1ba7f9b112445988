import Derived.Test.YtieehdhinponcaaJ13
import Derived.Deep.DeepAppendRoom
namespace Go.Proofs.Ytieehdhinponcaa
open Go.RowKit
set_option linter.unusedVariables false

theorem ownNil (w : World) (B : Nat) : Own w B (.slice none 0 0) 0 [] := ⟨rfl, World.ownsRow_nil _ _ _ _⟩
theorem ownCell {w : World} {B k g c : Nat} {xs : List Nat} (h : Own w B (.slice (some ⟨g, 0, none⟩) k c) k xs) {i : Nat} (hi : i < k) : w.cell? ⟨g, i, none⟩ = some (.int .u8 ((xs.getD i 0 : Nat) : Int)) := by
  rw [h.2.cellAt i (by omega)]
  have := h.1
  simp [bv, List.getElem?_eq_getElem (by omega : i < xs.length)]
theorem ownNonil {w : World} {B k c : Nat} {a : Option Addr} {xs : List Nat} (o : Own w B (.slice a k c) k xs) : (a = none ∧ k = 0 ∧ c = 0) ∨ ∃ g, a = some ⟨g, 0, none⟩ := by
  rcases o.2.2 with ⟨h1, h2⟩ | ⟨g, cap, cur, h1, _⟩
  · simp only [Value.slice.injEq] at h1
    exact .inl ⟨h1.1, h2, h1.2.2⟩
  · simp only [Value.slice.injEq] at h1
    exact .inr ⟨g, h1.1⟩
/-- What lies in the block of another list goes on owning its bytes, if these stay. -/
theorem ownAgain {w w' : World} {B n k g c cu : Nat} {xs ys : List Nat} (o : Own w B (.slice (some ⟨g, 0, none⟩) n c) n xs) (o' : Own w' B (.slice (some ⟨g, 0, none⟩) n c) n xs) (ou : Own w B (.slice (some ⟨g, 0, none⟩) k cu) k ys) (hc : ∀ i, i < k → w'.cell? ⟨g, i, none⟩ = w.cell? ⟨g, i, none⟩) : Own w' B (.slice (some ⟨g, 0, none⟩) k cu) k ys := by
  rcases o.2.2 with ⟨h1, _⟩ | ⟨g1, cap1, cur1, h1, h2, h3, h4, h5, h6, h7⟩
  · cases h1
  rcases o'.2.2 with ⟨k1, _⟩ | ⟨g2, cap2, cur2, k1, k2, k3, k4, k5, k6, k7⟩
  · cases k1
  rcases ou.2.2 with ⟨l1, _⟩ | ⟨g3, cap3, cur3, l1, l2, l3, l4, l5, l6, l7⟩
  · cases l1
  simp only [Value.slice.injEq, Option.some.injEq, Addr.mk.injEq, and_true, true_and] at h1 k1 l1
  obtain ⟨rfl, rfl⟩ := h1
  obtain ⟨rfl, rfl⟩ := k1
  obtain ⟨rfl, rfl⟩ := l1
  rw [h3] at l3
  simp only [Option.some.injEq, Obj.cells.injEq, and_true] at l3
  subst l3
  have hsz : cur2.size = cur1.size := by rw [k6, h6]
  refine ⟨ou.1, ou.2.1, .inr ⟨g, cu, cur2, rfl, l2, k3, l4, l5, by rw [hsz, l6], ?_⟩⟩
  rw [← l7]
  apply List.ext_getElem?
  intro i
  by_cases hi : i < k * 1
  · rw [List.getElem?_take_of_lt hi, List.getElem?_take_of_lt hi]
    have := hc i (by omega)
    simp only [World.cell?, k3, h3] at this
    simpa using this
  · rw [List.getElem?_take_eq_none (by omega), List.getElem?_take_eq_none (by omega)]
/-- A list that is no longer than the one that was appended to stays, wherever it lies. -/
theorem ownPre {w w' : World} {B N k cv cu : Nat} {av au : Option Addr} {xs ys : List Nat} (ov : Own w B (.slice av N cv) N xs) (ov' : Own w' B (.slice av N cv) N xs) (gr : w.grownBy w' (Value.slice av N cv).ownBlock) (ou : Own w B (.slice au k cu) k ys) (hk : k ≤ N) : Own w' B (.slice au k cu) k ys := by
  by_cases hb : (Value.slice au k cu).ownBlock = (Value.slice av N cv).ownBlock
  · rcases ownNonil ou with ⟨rfl, rfl, rfl⟩ | ⟨g, rfl⟩
    · exact ⟨ou.1, ou.2.1, .inl ⟨rfl, rfl⟩⟩
    · rcases ownNonil ov with ⟨rfl, _, _⟩ | ⟨g2, rfl⟩
      · cases hb
      · simp only [Value.ownBlock, Option.some.injEq] at hb
        subst hb
        refine ownAgain ov ov' ou (fun i hi => ?_)
        rw [ownCell ov' (by omega : i < N), ownCell ov (by omega : i < N)]
  · exact ⟨ou.1, ou.2.kept gr (.inr hb)⟩
/-- append(own, bytes ..): what was there goes on being there. -/
theorem appendKeep {w : World} {B n m c : Nat} {v : Value} {xs bs : List Nat} (ty : TypeId) (hown : Own w B v n xs) (ad : Addr) (hm : m = bs.length) (hnews : ∀ j u, (bv bs)[j]? = some u → w.cell? (ad.add j) = some u) (hp : 0 < m) (hbytes : n + m ≤ 140737488355328) (hB : B ≤ w.heap.size) :
    ∃ v' w', (Builtin.append_ #[24, 24] ty #[v, .slice (some ad) m c]).run Try.prog w = .ok v' w' ∧ Own w' B v' (n + m) (xs ++ bs) ∧ w.grownBy w' v.ownBlock ∧ Own w' B v n xs ∧ (v'.ownBlock = v.ownBlock ∨ v'.ownBlock = some w.heap.size) := by
  obtain ⟨i0, hi, hz0, hz1, hz2⟩ := info_parts info_byte
  have hl : (bv bs).length = m * 1 := by simp [bv, hm]
  obtain ⟨v', w', hr, h2, h3, _⟩ := run_append_own (P := Try.prog) w B 24 ty 5 i0 (.int .u8 0) 1 1 und_bytes hi hz0 hz1 hz2 rfl (by decide) v n (bv xs) hown.2 ad m c (bv bs) hl hnews (bv_oneCell bs) (by unfold maxLen; omega) (by omega) hB
  have o2 : Own w' B v' (n + m) (xs ++ bs) := ⟨by rw [hown.1, hm]; simp, by simpa [bv] using h2⟩
  refine ⟨v', w', hr, o2, h3, ?_⟩
  rcases hown.2.2 with ⟨rfl, h0⟩ | ⟨g, cap, cur, rfl, hg1, hg2, hg3, hg4, hg5, hg6⟩
  · have hx : xs = [] := List.eq_nil_of_length_eq_zero (by rw [← hown.1]; exact h0)
    subst hx h0
    have hr2 := run_append_nil (P := Try.prog) w 24 ty 5 i0 (.int .u8 0) und_bytes hi hz0 ad m c (bv bs) (by rw [hz1]; exact hl) hnews hp (by omega) (by rw [hz2]; omega)
    rw [hr] at hr2
    injection hr2 with e1 e2
    subst e1
    exact ⟨ownNil _ _, .inr rfl⟩
  · by_cases hroom : n + m ≤ cap
    · obtain ⟨w2, hr2, k2, _⟩ := run_append_own_spare (P := Try.prog) w B 24 ty 5 i0 1 und_bytes hi hz1 g n cap (bv xs) hown.2 ad m c (bv bs) hl hnews (bv_oneCell bs) hroom
      rw [hr] at hr2
      injection hr2 with e1 e2
      subst e1 e2
      refine ⟨⟨hown.1, hown.2.1, ?_⟩, .inl rfl⟩
      rcases o2.2.2 with ⟨h5, _⟩ | ⟨g2, cap2, cur2, h5, h6, h7, h8, h9, h10, h11⟩
      · cases h5
      · simp only [Value.slice.injEq, Option.some.injEq] at h5
        obtain ⟨e3, _, rfl⟩ := h5
        obtain rfl : g = g2 := by injection e3
        refine .inr ⟨g, cap, cur2, rfl, h6, h7, hg3, hg4, h10, ?_⟩
        have e4 : cur2.toList.take (n * 1) = (cur2.toList.take ((n + m) * 1)).take (n * 1) := by
          rw [List.take_take, Nat.min_eq_left (by omega)]
        rw [e4, h11, bv_append, List.take_append_of_le_length (by rw [bv_length, ← hown.1]; omega), List.take_of_length_le (by rw [bv_length, ← hown.1]; omega)]
    · have holds : ∀ j u, (bv xs)[j]? = some u → w.cell? ((⟨g, 0, none⟩ : Addr).add j) = some u := hown.2.cells (g := g) rfl
      have hr2 := run_append_grow (P := Try.prog) w 24 ty 5 i0 (.int .u8 0) und_bytes hi hz0 ⟨g, 0, none⟩ n cap (bv xs) (by rw [hz1, bv_length, ← hown.1]; omega) holds ad m c (bv bs) (by rw [hz1]; exact hl) hnews (by omega) (by omega) (by rw [hz2]; exact growslice_fits (by omega) (by omega))
      rw [hr] at hr2
      injection hr2 with e1 e2
      subst e1
      refine ⟨?_, .inr rfl⟩
      refine ⟨hown.1, hown.2.1, .inr ⟨g, cap, cur, rfl, hg1, ?_, hg3, hg4, hg5, hg6⟩⟩
      rw [e2, heap_alloc_old w.drew _ (Array.getElem?_eq_some_iff.1 hg2).1]
      exact hg2
theorem wpList_append_mark {w : World} {ops : Array Oper} {rest : List Oper} {o : Oper} {a : Act} {Q : Exit → Act → World → Prop} (hgd : o.guard = none) (s x : Operand)
    (ho : o.op = .call { callee := .builtin .append, args := #[s, x], argTypes := #[24, 24] })
    (B n cp m : Nat) (ap : Option Addr) (xs : List Nat) (hs : a.eval s = .slice ap n cp) (hx : a.eval x = .slice (some ⟨w.heap.size, 0, none⟩) 1 1) (hown : Own w B (.slice ap n cp) n xs) (hl : n + 1 ≤ 140737488355328) (hB : B ≤ w.heap.size)
    (h : ∀ a' c' w', Own w' B (.slice a' (n + 1) c') (n + 1) (xs ++ [m]) → w.grownBy w' (Value.slice ap n cp).ownBlock → Own w' B (.slice ap n cp) n xs → (∀ g, (Value.slice a' (n + 1) c').ownBlock = some g → (Value.slice ap n cp).ownBlock = some g ∨ w.heap.size ≤ g) → wpList Try.prog ops Q rest (a.put o.dst (.slice a' (n + 1) c')) w') : wpList Try.prog ops Q (o :: rest) a (w.alloc (.cells #[.int .u8 (m : Int)] 5)) := by
  have hb : Below w.heap.size w (w.alloc (.cells #[.int .u8 (m : Int)] 5)) := (Below.refl _ _).alloc (Nat.le_refl _) _
  have hnews : ∀ j u, (bv [m])[j]? = some u → (w.alloc (.cells #[.int .u8 (m : Int)] 5)).cell? ((⟨w.heap.size, 0, none⟩ : Addr).add j) = some u := cell_one_new w _ _
  obtain ⟨v', w', hr, h1, h2, h3, h4⟩ := appendKeep (c := 1) o.type (hown.later hb) ⟨w.heap.size, 0, none⟩ (m := 1) (bs := [m]) rfl hnews (by decide) hl (by simp; omega)
  obtain ⟨a', c', rfl⟩ := own_form h1.2
  refine wpList_plain hgd fun K hK => ?_
  unfold Oper.wp execOp
  simp only [ho, resolve, invoke, builtin, Sem.run_bind, Sem.run_pure, Result.andThen_ok, List.map_toArray, List.map_cons, List.map_nil, hs, hx, hr]
  refine hK _ _ (h a' c' w' h1 ((World.grownBy_alloc w _ _).trans h2) h3 (fun g hg => ?_))
  rcases h4 with h4 | h4
  · exact .inl (h4 ▸ hg)
  · rw [h4] at hg
    simp at hg
    omega

set_option maxRecDepth 100000 in
set_option maxHeartbeats 2000000 in
theorem grown_any {w : World} {B n cv m : Nat} {av : Option Addr} {L : List Nat} (ho : Own w B (.slice av n cv) n L) (hB : B ≤ w.heap.size) (hn : n ≤ 3000000) (hm : m < 256) :
    Calls Try.prog 21 #[.slice av n cv, .int .u8 (m : Int)] w fun e w' => ∃ a' c', e = .returned (.slice a' (n + (n + 70)) c') ∧ Own w' B (.slice a' (n + (n + 70)) c') (n + (n + 70)) (L ++ List.replicate (n + 70) m) ∧ Own w' B (.slice av n cv) n L ∧ w.grownBy w' (Value.slice av n cv).ownBlock ∧ (∀ g, (Value.slice a' (n + (n + 70)) c').ownBlock = some g → (Value.slice av n cv).ownBlock = some g ∨ w.heap.size ≤ g) := by
  have HO : Hid (Own w B (.slice av n cv) n L) := ho
  clear ho
  go_enter Try.func21, Try.ntmps21
  go_wp2
  go_loopw [5, 6] (fun s i wr => ∃ (k : Nat) (a : Option Addr) (c : Nat), k ≤ n + 70 ∧ i = .int .i64 ((k : Nat) : Int) ∧ s = .slice a (n + k) c ∧ Own wr B (.slice a (n + k) c) (n + k) (L ++ List.replicate k m) ∧ Own wr B (.slice av n cv) n L ∧ w.grownBy wr (Value.slice av n cv).ownBlock ∧ (∀ g, (Value.slice a (n + k) c).ownBlock = some g → (Value.slice av n cv).ownBlock = some g ∨ w.heap.size ≤ g)) (fun _ i _ => n + 70 - (intOf i).toNat)
  case atStart => exact ⟨0, av, cv, Nat.zero_le _, rfl, rfl, by simpa using HO.out, HO.out, ⟨rfl, rfl, rfl, Nat.le_refl _, fun _ _ _ => rfl⟩, fun g hg => .inl hg⟩
  case round =>
    obtain ⟨k, a, c, hk, rfl, rfl, own, o0, gr, loc⟩ := hrel
    have hwr : IntKind.i64.wrap ((n : Int) + 70) = ((n + 70 : Nat) : Int) := by rw [IntWalk.i64_in _ ⟨by omega, by omega⟩]; omega
    have H1 : Hid (Own wr B (.slice a (n + k) c) (n + k) (L ++ List.replicate k m) ∧ Own wr B (.slice av n cv) n L ∧ w.grownBy wr (Value.slice av n cv).ownBlock ∧ (∀ g, (Value.slice a (n + k) c).ownBlock = some g → (Value.slice av n cv).ownBlock = some g ∨ w.heap.size ≤ g)) := ⟨own, o0, gr, loc⟩
    have hB2 : B ≤ wr.heap.size := Nat.le_trans hB gr.size
    clear own o0 gr loc
    by_cases hlt : k < n + 70
    · have hlt2 : (k : Int) < ((n + 70 : Nat) : Int) := by omega
      have hlt3 : (k : Int) < (n : Int) + 70 := by omega
      go_wp2_with (at_builtin; refine wpList_append_mark rfl _ _ rfl B (n + k) c m a _ rfl rfl H1.out.1 (by omega) hB2 ?_; intro a2 c2 w2 own2 gr2 own3 loc2; have H2 : Hid (Own w2 B (.slice a2 (n + k + 1) c2) (n + k + 1) (L ++ List.replicate k m ++ [m]) ∧ wr.grownBy w2 (Value.slice a (n + k) c).ownBlock ∧ Own w2 B (.slice a (n + k) c) (n + k) (L ++ List.replicate k m) ∧ (∀ g, (Value.slice a2 (n + k + 1) c2).ownBlock = some g → (Value.slice a (n + k) c).ownBlock = some g ∨ wr.heap.size ≤ g)) := ⟨own2, gr2, own3, loc2⟩; clear own2 gr2 own3 loc2)
      go_roundw
      case rel =>
        obtain ⟨own, o0, gr, loc⟩ := H1.out
        obtain ⟨own2, gr2, own3, loc2⟩ := H2.out
        refine ⟨k + 1, a2, c2, by omega, by go_num, by rw [Nat.add_assoc], ?_, ownPre own own3 gr2 o0 (by omega), gr.andThen gr2 (fun j e => ?_), fun g hg => ?_⟩
        · rw [← Nat.add_assoc, List.replicate_succ', ← List.append_assoc]; exact own2
        · rcases loc j e with h | h
          · exact .inr h
          · exact .inl h
        · rw [← Nat.add_assoc] at hg
          rcases loc2 g hg with h | h
          · exact loc g h
          · exact .inr (Nat.le_trans gr.size h)
      case measure => simp [intOf]; omega
    · obtain rfl : k = n + 70 := by omega
      have hge : ¬ (((n + 70 : Nat) : Int) < ((n + 70 : Nat) : Int)) := by omega
      have hge3 : ¬ (((n + 70 : Nat) : Int) < (n : Int) + 70) := by omega
      go_wp2
      go_ret
      exact ⟨a, c, rfl, H1.out.1, H1.out.2.1, H1.out.2.2.1, H1.out.2.2.2⟩
end Go.Proofs.Ytieehdhinponcaa

namespace Go.Proofs.Ytieehdhinponcaa
open Go.RowKit
set_option linter.unusedVariables false

/-- Lists of bytes, each in a block of its own. -/
structure Sh (w : World) (B : Nat) (vs : List Value) (C : List (List Nat)) : Prop where
  len : vs.length = C.length
  own : ∀ (j : Nat) (v : Value) (x : List Nat), vs[j]? = some v → C[j]? = some x → Own w B v x.length x
  ap : ∀ (i j : Nat) (u v : Value), i ≠ j → vs[i]? = some u → vs[j]? = some v → Ap u v
theorem Sh.nil (w : World) (B : Nat) : Sh w B [] [] := ⟨rfl, fun j v x h => by simp at h, fun i j u v _ h => by simp at h⟩
theorem Sh.later {w w' : World} {B : Nat} {vs : List Value} {C : List (List Nat)} (h : Sh w B vs C) (hb : Below w.heap.size w w') : Sh w' B vs C := ⟨h.len, fun j v x h1 h2 => (h.own j v x h1 h2).later hb, h.ap⟩
theorem Sh.kept_row {w w' : World} {B B' n : Nat} {vs us : List Value} {C : List (List Nat)} {r : Value} (h : Sh w B vs C) (hr : w.ownsRow B' 24 1 r n us) (hg : w.grownBy w' r.ownBlock) : Sh w' B vs C := ⟨h.len, fun j v x h1 h2 => (h.own j v x h1 h2).kept_row hr (by decide) hg, h.ap⟩
theorem Sh.get {w : World} {B j : Nat} {vs : List Value} {C : List (List Nat)} {v : Value} (h : Sh w B vs C) (hv : vs[j]? = some v) : ∃ x, C[j]? = some x := by
  have := (List.getElem?_eq_some_iff.1 hv).1
  exact ⟨C[j]'(by rw [← h.len]; exact this), List.getElem?_eq_getElem _⟩
theorem own_block_lt {w : World} {B m g : Nat} {v : Value} {x : List Nat} (h : Own w B v m x) (hg : v.ownBlock = some g) : B ≤ g ∧ g < w.heap.size := h.2.lt g hg
theorem Sh.snoc {w w' : World} {B : Nat} {vs : List Value} {C : List (List Nat)} {v : Value} {x : List Nat} (h : Sh w B vs C) (hb : Below w.heap.size w w') (ho : Own w' w.heap.size v x.length x) (hB : B ≤ w.heap.size) : Sh w' B (vs ++ [v]) (C ++ [x]) := by
  have hlen := h.len
  refine ⟨by simp [h.len], fun j v' x' h1 h2 => ?_, fun i j u v' hij h1 h2 => ?_⟩
  · by_cases hj : j < vs.length
    · rw [List.getElem?_append_left hj] at h1
      rw [List.getElem?_append_left (by omega)] at h2
      exact (h.own j v' x' h1 h2).later hb
    · have hj2 : j = vs.length := by have := (List.getElem?_eq_some_iff.1 h1).1; simp at this; omega
      subst hj2
      rw [List.getElem?_append_right (Nat.le_refl _)] at h1
      rw [hlen, List.getElem?_append_right (Nat.le_refl _)] at h2
      simp at h1 h2
      subst h1 h2
      exact ho.mono hB
  · have old : ∀ (t : Nat) (z : Value), t < vs.length → (vs ++ [v])[t]? = some z → ∀ g, z.ownBlock = some g → g < w.heap.size := by
      intro t z ht hz g hg
      rw [List.getElem?_append_left ht] at hz
      obtain ⟨y, hy⟩ := h.get hz
      exact ((h.own t z y hz hy).2.lt g hg).2
    have new : ∀ (t : Nat) (z : Value), ¬ t < vs.length → (vs ++ [v])[t]? = some z → t = vs.length ∧ ∀ g, z.ownBlock = some g → w.heap.size ≤ g := by
      intro t z ht hz
      have ht2 : t = vs.length := by have := (List.getElem?_eq_some_iff.1 hz).1; simp at this; omega
      refine ⟨ht2, fun g hg => ?_⟩
      subst ht2
      rw [List.getElem?_append_right (Nat.le_refl _)] at hz
      simp at hz
      subst hz
      exact (ho.2.lt g hg).1
    by_cases hi : i < vs.length
    · by_cases hj : j < vs.length
      · rw [List.getElem?_append_left hi] at h1
        rw [List.getElem?_append_left hj] at h2
        exact h.ap i j u v' hij h1 h2
      · intro g hg hg'
        have := old i u hi h1 g hg
        have := (new j v' hj h2).2 g hg'
        omega
    · by_cases hj : j < vs.length
      · intro g hg hg'
        have := old j v' hj h2 g hg'
        have := (new i u hi h1).2 g hg
        omega
      · have := (new i u hi h1).1
        have := (new j v' hj h2).1
        omega
/-- A byte is written. -/
theorem Sh.store {w : World} {B j g n c k : Nat} {vs : List Value} {C : List (List Nat)} {x : List Nat} (h : Sh w B vs C) (hv : vs[j]? = some (.slice (some ⟨g, 0, none⟩) n c)) (hx : C[j]? = some x) (z : Nat) :
    Sh (w.setCell ⟨g, k, none⟩ (.int .u8 (z : Int))) B vs (C.set j (x.set k z)) ∧ w.grownBy (w.setCell ⟨g, k, none⟩ (.int .u8 (z : Int))) (some g) := by
  have o := h.own j _ x hv hx
  have hn : n = x.length := by
    rcases o.2.2 with ⟨h1, _⟩ | ⟨g1, cap1, cur1, h1, _⟩
    · cases h1
    · simp only [Value.slice.injEq] at h1; exact h1.2.1
  subst hn
  have st := o.2.stored k (.int .u8 (z : Int))
  have e : (bv x).set k (.int .u8 (z : Int)) = bv (x.set k z) := by simp [bv, List.map_set]
  rw [e] at st
  have hjl := (List.getElem?_eq_some_iff.1 hx).1
  refine ⟨⟨by simp [h.len], fun i v y h1 h2 => ?_, h.ap⟩, st.2⟩
  by_cases hij : i = j
  · subst hij
    rw [hv] at h1
    cases h1
    rw [List.getElem?_set_self hjl] at h2
    cases h2
    exact ⟨rfl, by simpa using st.1⟩
  · rw [List.getElem?_set_ne (fun e => hij e.symm)] at h2
    have oi := h.own i v y h1 h2
    exact ⟨oi.1, row_kept (r := .slice (some ⟨g, 0, none⟩) x.length c) oi.2 st.2 (h.ap i j _ _ hij h1 hv)⟩
/-- Up to where the lists are written full. -/
def Fi (C0 C : List (List Nat)) (i k : Nat) : Prop := C.length = C0.length ∧ ∀ (j : Nat) (x0 x : List Nat), C0[j]? = some x0 → C[j]? = some x → x.length = x0.length ∧ (j < i → x = List.replicate x0.length (11 + j)) ∧ (j = i → ∀ q, q < k → x[q]? = some (11 + j))
theorem Fi.start (C : List (List Nat)) : Fi C C 0 0 := ⟨rfl, fun j x0 x h1 h2 => by
  rw [h1] at h2; cases h2; exact ⟨rfl, fun h => by omega, fun _ q h => by omega⟩⟩
theorem Fi.step {C0 C : List (List Nat)} {i k : Nat} {x : List Nat} (h : Fi C0 C i k) (hx : C[i]? = some x) (hk : k < x.length) : Fi C0 (C.set i (x.set k (11 + i))) i (k + 1) := by
  have hil := (List.getElem?_eq_some_iff.1 hx).1
  refine ⟨by simp [h.1], fun j x0 y h1 h2 => ?_⟩
  by_cases hij : j = i
  · subst hij
    rw [List.getElem?_set_self hil] at h2
    cases h2
    obtain ⟨e1, _, e3⟩ := h.2 j x0 x h1 hx
    refine ⟨by simpa using e1, fun h => by omega, fun _ q hq => ?_⟩
    by_cases hqk : q = k
    · subst hqk; rw [List.getElem?_set_self hk]
    · rw [List.getElem?_set_ne (fun e => hqk e.symm)]; exact e3 rfl q (by omega)
  · rw [List.getElem?_set_ne (fun e => hij e.symm)] at h2
    obtain ⟨e1, e2, _⟩ := h.2 j x0 y h1 h2
    exact ⟨e1, e2, fun h => absurd h hij⟩
theorem Fi.next {C0 C : List (List Nat)} {i k : Nat} {x : List Nat} (h : Fi C0 C i k) (hx : C[i]? = some x) (hk : k = x.length) : Fi C0 C (i + 1) 0 := by
  refine ⟨h.1, fun j x0 y h1 h2 => ?_⟩
  obtain ⟨e1, e2, e3⟩ := h.2 j x0 y h1 h2
  refine ⟨e1, fun hj => ?_, fun _ q hq => by omega⟩
  by_cases hij : j = i
  · subst hij
    rw [hx] at h2
    cases h2
    apply List.ext_getElem?
    intro q
    by_cases hq : q < x.length
    · rw [e3 rfl q (by omega), List.getElem?_replicate, if_pos (by omega)]
    · rw [List.getElem?_eq_none (by omega), List.getElem?_eq_none (by simp; omega)]
  · exact e2 (by omega)
/-- All is written full. -/
def fullL (C0 : List (List Nat)) : List (List Nat) := C0.zipIdx.map fun p => List.replicate p.1.length (11 + p.2)
theorem fullL_get {C0 : List (List Nat)} {j : Nat} {x : List Nat} (h : (fullL C0)[j]? = some x) : ∃ x0, C0[j]? = some x0 ∧ x = List.replicate x0.length (11 + j) := by
  simp only [fullL, List.getElem?_map, List.getElem?_zipIdx, Option.map_eq_some_iff] at h
  obtain ⟨p, ⟨x0, h1, rfl⟩, rfl⟩ := h
  exact ⟨x0, h1, by simp⟩
theorem Fi.full {C0 C : List (List Nat)} {i : Nat} (h : Fi C0 C i 0) (hi : C0.length ≤ i) : C = fullL C0 := by
  apply List.ext_getElem?
  intro j
  by_cases hj : j < C0.length
  · have hj2 : j < C.length := by rw [h.1]; exact hj
    obtain ⟨_, e2, _⟩ := h.2 j C0[j] C[j] (List.getElem?_eq_getElem _) (List.getElem?_eq_getElem _)
    rw [List.getElem?_eq_getElem hj2, e2 (by omega)]
    simp [fullL, hj]
  · rw [List.getElem?_eq_none (by rw [h.1]; omega), List.getElem?_eq_none (by simp [fullL]; omega)]
/-- The lists, and what they were lengthened to, one by one. -/
structure Mo (w : World) (B : Nat) (ls ms : List Value) (C : List (List Nat)) : Prop where
  sh : Sh w B ls C
  om : ∀ (j : Nat) (v : Value) (x : List Nat), ms[j]? = some v → C[j]? = some x → Own w B v (x.length + (x.length + 70)) (x ++ List.replicate (x.length + 70) (11 + j))
  ap : ∀ (j t : Nat) (u v : Value), j ≠ t → ms[j]? = some u → ls[t]? = some v → Ap u v
theorem Mo.start {w : World} {B : Nat} {ls : List Value} {C : List (List Nat)} (h : Sh w B ls C) : Mo w B ls [] C := ⟨h, fun j v x h => by simp at h, fun j t u v _ h => by simp at h⟩
theorem Mo.later {w w' : World} {B : Nat} {ls ms : List Value} {C : List (List Nat)} (h : Mo w B ls ms C) (hb : Below w.heap.size w w') : Mo w' B ls ms C := ⟨h.sh.later hb, fun j v x h1 h2 => (h.om j v x h1 h2).later hb, h.ap⟩
theorem Mo.kept_row {w w' : World} {B B' n : Nat} {ls ms us : List Value} {C : List (List Nat)} {r : Value} (h : Mo w B ls ms C) (hr : w.ownsRow B' 24 1 r n us) (hg : w.grownBy w' r.ownBlock) : Mo w' B ls ms C := ⟨h.sh.kept_row hr hg, fun j v x h1 h2 => (h.om j v x h1 h2).kept_row hr (by decide) hg, h.ap⟩
theorem Own.kept_ap {w w' : World} {B m : Nat} {v r : Value} {x : List Nat} (h : Own w B v m x) (hg : w.grownBy w' r.ownBlock) (ha : Ap v r) : Own w' B v m x := ⟨h.1, row_kept h.2 hg ha⟩
theorem Mo.grow {w w' : World} {B t : Nat} {ls ms : List Value} {C : List (List Nat)} {v v' : Value} {x : List Nat} (h : Mo w B ls ms C) (ht : t = ms.length) (hv : ls[t]? = some v) (hx : C[t]? = some x)
    (o' : Own w' B v' (x.length + (x.length + 70)) (x ++ List.replicate (x.length + 70) (11 + t))) (o : Own w' B v x.length x) (hg : w.grownBy w' v.ownBlock) (loc : ∀ g, v'.ownBlock = some g → v.ownBlock = some g ∨ w.heap.size ≤ g) : Mo w' B ls (ms ++ [v']) C := by
  refine ⟨⟨h.sh.len, fun j u y h1 h2 => ?_, h.sh.ap⟩, fun j u y h1 h2 => ?_, fun j s u z hjs h1 h2 => ?_⟩
  · by_cases hj : j = t
    · subst hj
      rw [hv] at h1; rw [hx] at h2; cases h1; cases h2
      exact o
    · exact (h.sh.own j u y h1 h2).kept_ap hg (h.sh.ap j t u v hj h1 hv)
  · by_cases hj : j < ms.length
    · rw [List.getElem?_append_left hj] at h1
      exact (h.om j u y h1 h2).kept_ap hg (h.ap j t u v (by omega) h1 hv)
    · have hj2 : j = t := by have := (List.getElem?_eq_some_iff.1 h1).1; simp at this; omega
      subst hj2
      rw [List.getElem?_append_right (by omega), ht] at h1
      simp at h1
      subst h1
      rw [hx] at h2; cases h2
      exact o'
  · by_cases hj : j < ms.length
    · rw [List.getElem?_append_left hj] at h1
      exact h.ap j s u z hjs h1 h2
    · have hj2 : j = t := by have := (List.getElem?_eq_some_iff.1 h1).1; simp at this; omega
      subst hj2
      rw [List.getElem?_append_right (by omega), ht] at h1
      simp at h1
      subst h1
      intro g hg1 hg2
      rcases loc g hg1 with h3 | h3
      · exact h.sh.ap j s v z hjs hv h2 g h3 hg2
      · obtain ⟨y, hy⟩ := h.sh.get h2
        have := ((h.sh.own s z y h2 hy).2.lt g hg2).2
        omega
/-- Lists beside them, which are only looked at. -/
structure Kx (w : World) (B : Nat) (vs us : List Value) (D : List (List Nat)) : Prop where
  own : ∀ (j : Nat) (u : Value) (x : List Nat), us[j]? = some u → D[j]? = some x → Own w B u x.length x
  ap : ∀ u ∈ us, ∀ v ∈ vs, Ap u v
  len : us.length = D.length
theorem Kx.nil (w : World) (B : Nat) (vs : List Value) : Kx w B vs [] [] := ⟨fun j u x h => by simp at h, fun u h => by simp at h, rfl⟩
theorem Kx.later {w w' : World} {B : Nat} {vs us : List Value} {D : List (List Nat)} (h : Kx w B vs us D) (hb : Below w.heap.size w w') : Kx w' B vs us D := ⟨fun j v x h1 h2 => (h.own j v x h1 h2).later hb, h.ap, h.len⟩
theorem Kx.kept_row {w w' : World} {B B' n : Nat} {vs us rs : List Value} {D : List (List Nat)} {r : Value} (h : Kx w B vs us D) (hr : w.ownsRow B' 24 1 r n rs) (hg : w.grownBy w' r.ownBlock) : Kx w' B vs us D := ⟨fun j v x h1 h2 => (h.own j v x h1 h2).kept_row hr (by decide) hg, h.ap, h.len⟩
theorem Kx.kept {w w' : World} {B : Nat} {vs us : List Value} {D : List (List Nat)} {v : Value} (h : Kx w B vs us D) (hv : v ∈ vs) (hg : w.grownBy w' v.ownBlock) : Kx w' B vs us D := ⟨fun j u x h1 h2 => (h.own j u x h1 h2).kept_ap hg (h.ap u (List.mem_of_getElem? h1) v hv), h.ap, h.len⟩
theorem Kx.lt {w : World} {B g : Nat} {vs us : List Value} {D : List (List Nat)} {u : Value} (h : Kx w B vs us D) (hu : u ∈ us) (hg : u.ownBlock = some g) : g < w.heap.size := by
  obtain ⟨j, hj⟩ := List.mem_iff_getElem?.1 hu
  have hjl := (List.getElem?_eq_some_iff.1 hj).1
  exact ((h.own j u (D[j]'(by rw [← h.len]; exact hjl)) hj (List.getElem?_eq_getElem _)).2.lt g hg).2
theorem Sh.lt {w : World} {B g : Nat} {vs : List Value} {C : List (List Nat)} {u : Value} (h : Sh w B vs C) (hu : u ∈ vs) (hg : u.ownBlock = some g) : g < w.heap.size := by
  obtain ⟨j, hj⟩ := List.mem_iff_getElem?.1 hu
  obtain ⟨x, hx⟩ := h.get hj
  exact ((h.own j u x hj hx).2.lt g hg).2
theorem Kx.snocV {w w' : World} {B m : Nat} {vs us : List Value} {D : List (List Nat)} {v : Value} {x : List Nat} (h : Kx w B vs us D) (hb : Below w.heap.size w w') (ho : Own w' w.heap.size v m x) : Kx w' B (vs ++ [v]) us D :=
  ⟨(h.later hb).own, fun u hu z hz => by
    rcases List.mem_append.1 hz with h1 | h1
    · exact h.ap u hu z h1
    · simp at h1
      subst h1
      intro g hg hg'
      have := h.lt hu hg
      have := (ho.2.lt g hg').1
      omega, h.len⟩
theorem Kx.snocU {w w' : World} {B : Nat} {vs us : List Value} {C D : List (List Nat)} {u : Value} {x : List Nat} (h : Kx w B vs us D) (hs : Sh w B vs C) (hb : Below w.heap.size w w') (ho : Own w' w.heap.size u x.length x) (hB : B ≤ w.heap.size) : Kx w' B vs (us ++ [u]) (D ++ [x]) := by
  have hlen := h.len
  refine ⟨fun j z y h1 h2 => ?_, fun z hz v hv => ?_, by simp [h.len]⟩
  · by_cases hj : j < us.length
    · rw [List.getElem?_append_left hj] at h1
      rw [List.getElem?_append_left (by omega)] at h2
      exact (h.own j z y h1 h2).later hb
    · have hj2 : j = us.length := by have := (List.getElem?_eq_some_iff.1 h1).1; simp at this; omega
      subst hj2
      rw [List.getElem?_append_right (Nat.le_refl _)] at h1
      rw [hlen, List.getElem?_append_right (Nat.le_refl _)] at h2
      simp at h1 h2
      subst h1 h2
      exact ho.mono hB
  · rcases List.mem_append.1 hz with h1 | h1
    · exact h.ap z h1 v hv
    · simp at h1
      subst h1
      intro g hg hg'
      have := hs.lt hv hg'
      have := (ho.2.lt g hg).1
      omega
end Go.Proofs.Ytieehdhinponcaa

namespace Go.Proofs.Ytieehdhinponcaa
open Go.RowKit
set_option linter.unusedVariables false

theorem build_ok {v : Value} {ks : List (List Nat)} {w : World} (b : Int) (hp : RdP w v ks) (hE : bldE b ks.length = 0) :
    Calls Try.prog 13 #[.int .i64 b, v] w fun e w' => ∃ g c, e = .returned (.tuple #[.slice (some ⟨g, 0, none⟩) (bldL b ks).length c, .int .i64 0]) ∧ Own w' w.heap.size (.slice (some ⟨g, 0, none⟩) (bldL b ks).length c) (bldL b ks).length (bldL b ks) ∧ Below w.heap.size w w' := by
  refine (build_any b hp).mono ?_
  rintro e w' ⟨a, m, c, rfl, own, hb⟩
  have hm := own.1
  subst hm
  rw [hE]
  have h14 : 14 ≤ (bldL b ks).length := by
    rcases build_cases b ks with h | ⟨_, bn, _, hb20, hk, hF⟩
    · omega
    · rw [hF]; exact (build_len hb20 hk).2
  rcases ownNonil own with ⟨_, h, _⟩ | ⟨g, rfl⟩
  · omega
  · exact ⟨g, c, rfl, own, hb⟩
/-- What the union of a filter with itself is. -/
theorem uni_self {b : Int} {ks : List (List Nat)} (hE : bldE b ks.length = 0) : uniE (bldL b ks) (bldL b ks) = 0 ∧ uniL (bldL b ks) (bldL b ks) = bldL b ks := by
  rcases build_cases b ks with h | ⟨_, bn, _, hb20, hk, hF⟩
  · omega
  · rw [hF]
    have h0 := (uni_len hb20 hk hk).2 rfl
    refine ⟨h0, ?_⟩
    unfold uniL
    rw [if_pos h0, union_build hb20 hk hk rfl]
    simp only [Bool.or_self]
    rfl
theorem union_ok {va vb : Value} {b : Int} {ks : List (List Nat)} {w : World} (hE : bldE b ks.length = 0) (ha : Rd w va (bldL b ks)) (hb : Rd w vb (bldL b ks)) :
    Calls Try.prog 15 #[va, vb] w fun e w' => ∃ g c, e = .returned (.tuple #[.slice (some ⟨g, 0, none⟩) (bldL b ks).length c, .int .i64 0]) ∧ Own w' w.heap.size (.slice (some ⟨g, 0, none⟩) (bldL b ks).length c) (bldL b ks).length (bldL b ks) ∧ Below w.heap.size w w' := by
  refine (union_any ha hb).mono ?_
  rintro e w' ⟨a, m, c, rfl, own, hbl⟩
  obtain ⟨h0, h1⟩ := uni_self hE
  rw [h0]
  rw [h1] at own
  have hm := own.1
  subst hm
  have h14 : 14 ≤ (bldL b ks).length := by
    rcases build_cases b ks with h | ⟨_, bn, _, hb20, hk, hF⟩
    · omega
    · rw [hF]; exact (build_len hb20 hk).2
  rcases ownNonil own with ⟨_, h, _⟩ | ⟨g, rfl⟩
  · omega
  · exact ⟨g, c, rfl, own, hbl⟩

/-- All that stands in mid-walk: the lists, what is beside them, the row of the lists. -/
structure Ow (w0 w : World) (B n cl : Nat) (al : Option Addr) (ls us : List Value) (C D : List (List Nat)) : Prop where
  bel : Below B w0 w
  hB : B ≤ w.heap.size
  sh : Sh w B ls C
  kx : Kx w B ls us D
  row : w.ownsRow B 24 1 (.slice al n cl) n ls
theorem Ow.later {w0 w w' : World} {B n cl : Nat} {al : Option Addr} {ls us : List Value} {C D : List (List Nat)} (h : Ow w0 w B n cl al ls us C D) (hb : Below w.heap.size w w') : Ow w0 w' B n cl al ls us C D :=
  ⟨h.bel.trans (hb.mono h.hB), Nat.le_trans h.hB hb.size, h.sh.later hb, h.kx.later hb, rowB_later h.row hb⟩
/-- The list of that number, and where it lies. -/
theorem Ow.item {w0 w : World} {B n cl j : Nat} {al : Option Addr} {ls us : List Value} {C D : List (List Nat)} (h : Ow w0 w B n cl al ls us C D) (hj : j < n) :
    ∃ gL a x c, al = some ⟨gL, 0, none⟩ ∧ ls[j]? = some (.slice a x.length c) ∧ C[j]? = some x ∧ w.cell? ⟨gL, j, none⟩ = some (.slice a x.length c) ∧ Own w B (.slice a x.length c) x.length x := by
  have hl : ls.length = n := by have := h.row.1; simpa using this
  have hjl : j < ls.length := by omega
  obtain ⟨x, hx⟩ := h.sh.get (List.getElem?_eq_getElem hjl)
  have o := h.sh.own j ls[j] x (List.getElem?_eq_getElem hjl) hx
  obtain ⟨a, c, e⟩ := own_form o.2
  rcases h.row.2 with ⟨h1, h2⟩ | ⟨g, cap, cur, h3, h4⟩
  · omega
  · simp only [Value.slice.injEq] at h3
    obtain ⟨rfl, _, _⟩ := h3
    refine ⟨g, a, x, c, rfl, by rw [List.getElem?_eq_getElem hjl, e], hx, ?_, e ▸ o⟩
    rw [h.row.cellAt j (by omega), List.getElem?_eq_getElem hjl, e]
theorem Ow.store {w0 w : World} {B n cl j g m c k : Nat} {al : Option Addr} {ls us : List Value} {C D : List (List Nat)} {x : List Nat} (h : Ow w0 w B n cl al ls us C D) (hv : ls[j]? = some (.slice (some ⟨g, 0, none⟩) m c)) (hx : C[j]? = some x) (z : Nat) :
    Ow w0 (w.setCell ⟨g, k, none⟩ (.int .u8 (z : Int))) B n cl al ls us (C.set j (x.set k z)) D := by
  have o := h.sh.own j _ x hv hx
  obtain ⟨s1, s2⟩ := h.sh.store hv hx (k := k) z
  have hlt := o.2.lt g rfl
  have hg : w.grownBy (w.setCell ⟨g, k, none⟩ (.int .u8 (z : Int))) (Value.slice (some ⟨g, 0, none⟩) m c).ownBlock := s2
  exact ⟨h.bel.grown s2 h.hB (fun q hq => by cases hq; exact hlt.1), Nat.le_trans h.hB s2.size, s1, h.kx.kept (List.mem_of_getElem? hv) hg, row_kept h.row hg (row_apart h.row o.2 (by decide))⟩
/-- The list of that number, by what the row holds. -/
theorem Ow.at {w0 w : World} {B n cl j n0 c : Nat} {al a : Option Addr} {ls us : List Value} {C D : List (List Nat)} (h : Ow w0 w B n cl al ls us C D) (hj : ls[j]? = some (.slice a n0 c)) :
    ∃ gL x, al = some ⟨gL, 0, none⟩ ∧ C[j]? = some x ∧ x.length = n0 ∧ w.cell? ⟨gL, j, none⟩ = some (.slice a n0 c) ∧ Own w B (.slice a n0 c) n0 x ∧ j < n := by
  have hl : ls.length = n := by have := h.row.1; simpa using this
  have hjl : j < n := by rw [← hl]; exact (List.getElem?_eq_some_iff.1 hj).1
  obtain ⟨gL, a', x, c', h1, h2, h3, h4, h5⟩ := h.item hjl
  rw [hj] at h2
  simp only [Option.some.injEq, Value.slice.injEq] at h2
  obtain ⟨rfl, rfl, rfl⟩ := h2
  exact ⟨gL, x, h1, h3, rfl, h4, h5, hjl⟩
theorem ow_lit {w0 w : World} {B n : Nat} {ls us : List Value} {C D : List (List Nat)} (bel : Below B w0 w) (hB : B ≤ w.heap.size) (sh : Sh w B ls C) (kx : Kx w B ls us D) (hn : ls.length = n) (hm : n ≤ maxLen) : Ow w0 (w.alloc (.cells ls.toArray 24)) B n n (some ⟨w.heap.size, 0, none⟩) ls us C D := by
  have hb : Below w.heap.size w (w.alloc (.cells ls.toArray 24)) := (Below.refl _ _).alloc (Nat.le_refl _) _
  refine ⟨bel.trans (hb.mono hB), Nat.le_trans hB hb.size, sh.later hb, kx.later hb, ?_⟩
  exact World.ownsRow_lit w _ n hB hm (by simp [hn])
/-- The same while the lists are lengthened, one by one. -/
structure Gw (w0 w : World) (B n cl t cm : Nat) (al am : Option Addr) (ls ms us : List Value) (C D : List (List Nat)) : Prop where
  bel : Below B w0 w
  hB : B ≤ w.heap.size
  mo : Mo w B ls ms C
  kx : Kx w B ls us D
  row : w.ownsRow B 24 1 (.slice al n cl) n ls
  rm : w.ownsRow B 24 1 (.slice am t cm) t ms
  ap : Ap (.slice am t cm) (.slice al n cl)
theorem Gw.start {w0 w : World} {B n cl : Nat} {al : Option Addr} {ls us : List Value} {C D : List (List Nat)} (h : Ow w0 w B n cl al ls us C D) : Gw w0 w B n cl 0 0 al none ls [] us C D :=
  ⟨h.bel, h.hB, Mo.start h.sh, h.kx, h.row, World.ownsRow_nil _ _ _ _, fun g hg => by simp [Value.ownBlock] at hg⟩
theorem Gw.later {w0 w w' : World} {B n cl t cm : Nat} {al am : Option Addr} {ls ms us : List Value} {C D : List (List Nat)} (h : Gw w0 w B n cl t cm al am ls ms us C D) (hb : Below w.heap.size w w') : Gw w0 w' B n cl t cm al am ls ms us C D :=
  ⟨h.bel.trans (hb.mono h.hB), Nat.le_trans h.hB hb.size, h.mo.later hb, h.kx.later hb, rowB_later h.row hb, rowB_later h.rm hb, h.ap⟩
theorem Gw.ow {w0 w : World} {B n cl t cm : Nat} {al am : Option Addr} {ls ms us : List Value} {C D : List (List Nat)} (h : Gw w0 w B n cl t cm al am ls ms us C D) : Ow w0 w B n cl al ls us C D := ⟨h.bel, h.hB, h.mo.sh, h.kx, h.row⟩
theorem Gw.len {w0 w : World} {B n cl t cm : Nat} {al am : Option Addr} {ls ms us : List Value} {C D : List (List Nat)} (h : Gw w0 w B n cl t cm al am ls ms us C D) : ms.length = t := by have := h.rm.1; simpa using this
/-- A list was lengthened, and what came of it joined. -/
theorem Gw.grow {w0 w w' : World} {B n cl t cm : Nat} {al am : Option Addr} {ls ms us : List Value} {C D : List (List Nat)} {v v' : Value} {x : List Nat} (h : Gw w0 w B n cl t cm al am ls ms us C D) (hv : ls[t]? = some v) (hx : C[t]? = some x)
    (o' : Own w' B v' (x.length + (x.length + 70)) (x ++ List.replicate (x.length + 70) (11 + t))) (o : Own w' B v x.length x) (hg : w.grownBy w' v.ownBlock) (loc : ∀ g, v'.ownBlock = some g → v.ownBlock = some g ∨ w.heap.size ≤ g) :
    B ≤ w'.heap.size ∧ w'.ownsRow B 24 1 (.slice am t cm) t ms ∧ ∀ (a2 : Option Addr) (c2 : Nat) (w2 : World), w2.ownsRow B 24 1 (.slice a2 (t + 1) c2) (t + 1) (ms ++ [v']) → w'.grownBy w2 (Value.slice am t cm).ownBlock → (∀ g, (Value.slice a2 (t + 1) c2).ownBlock = some g → (Value.slice am t cm).ownBlock = some g ∨ w'.heap.size < g) → Gw w0 w2 B n cl (t + 1) c2 al a2 ls (ms ++ [v']) us C D := by
  have ov := h.mo.sh.own t v x hv hx
  have m1 := h.mo.grow (t := t) h.len.symm hv hx o' o hg loc
  have k1 := h.kx.kept (List.mem_of_getElem? hv) hg
  have r1 := row_kept h.row hg (row_apart h.row ov.2 (by decide))
  have q1 := row_kept h.rm hg (row_apart h.rm ov.2 (by decide))
  have b1 := h.bel.grown hg h.hB (fun k hk => (ov.2.lt k hk).1)
  have hB1 := Nat.le_trans h.hB hg.size
  refine ⟨hB1, q1, fun a2 c2 w2 hr2 hg2 hl2 => ?_⟩
  exact ⟨b1.grown hg2 hB1 (fun k hk => (q1.lt k hk).1), Nat.le_trans hB1 hg2.size, m1.kept_row q1 hg2, k1.kept_row q1 hg2, row_kept r1 hg2 h.ap.symm, hr2, ap_new r1 h.ap hl2⟩
theorem Gw.at {w0 w : World} {B n cl t cm j : Nat} {al am : Option Addr} {ls ms us : List Value} {C D : List (List Nat)} {x : List Nat} (h : Gw w0 w B n cl t cm al am ls ms us C D) (hj : j < t) (hx : C[j]? = some x) :
    ∃ gM a c, am = some ⟨gM, 0, none⟩ ∧ w.cell? ⟨gM, j, none⟩ = some (.slice a (x.length + (x.length + 70)) c) ∧ Own w B (.slice a (x.length + (x.length + 70)) c) (x.length + (x.length + 70)) (x ++ List.replicate (x.length + 70) (11 + j)) := by
  have hl := h.len
  have hjl : j < ms.length := by omega
  have o := h.mo.om j ms[j] x (List.getElem?_eq_getElem hjl) hx
  obtain ⟨a, c, e⟩ := own_form o.2
  rcases h.rm.2 with ⟨h1, h2⟩ | ⟨g, cap, cur, h3, h4⟩
  · omega
  · simp only [Value.slice.injEq] at h3
    obtain ⟨rfl, _, _⟩ := h3
    refine ⟨g, a, c, rfl, ?_, e ▸ o⟩
    rw [h.rm.cellAt j (by omega), List.getElem?_eq_getElem hjl, e]
theorem rep_get (n m y q : Nat) (h : q < n + m) : (List.replicate n y ++ List.replicate m y).getD q 0 = y := by
  rw [List.replicate_append_replicate]
  simp [List.getD, h]
theorem rep_get1 (n y q : Nat) (h : q < n) : (List.replicate n y).getD q 0 = y := by
  simp [List.getD, h]
end Go.Proofs.Ytieehdhinponcaa
