import Derived.Test.YthhkpkfpifllkaaK19
namespace Go.Proofs.Ythhkpkfpifllkaa
open Go.RowKit
set_option linter.unusedVariables false

theorem ownNil (w : World) (B : Nat) : Own w B (.slice none 0 0) 0 [] := ⟨rfl, World.ownsRow_nil _ _ _ _⟩
theorem ownCell {w : World} {B k g c : Nat} {xs : List Nat} (h : Own w B (.slice (some ⟨g, 0, none⟩) k c) k xs) {i : Nat} (hi : i < k) : w.cell? ⟨g, i, none⟩ = some (.int .u8 ((xs.getD i 0 : Nat) : Int)) := by
  rw [h.2.cellAt i (by omega)]
  have := h.1
  simp [bv, List.getElem?_eq_getElem (by omega : i < xs.length)]
theorem ownNonil {w : World} {B k c : Nat} {a : Option Addr} {xs : List Nat} (o : Own w B (.slice a k c) k xs) : (a = none ∧ k = 0 ∧ c = 0) ∨ ∃ g, a = some ⟨g, 0, none⟩ := by
  rcases o.2.2 with ⟨h1, h2⟩ | ⟨g, cap, cur, h1, _⟩
  · simp only [Value.slice.injEq] at h1
    exact .inl ⟨h1.1, h2, h1.2.2⟩
  · simp only [Value.slice.injEq] at h1
    exact .inr ⟨g, h1.1⟩
theorem ownAgain {w w' : World} {B n k g c cu : Nat} {xs ys : List Nat} (o : Own w B (.slice (some ⟨g, 0, none⟩) n c) n xs) (o' : Own w' B (.slice (some ⟨g, 0, none⟩) n c) n xs) (ou : Own w B (.slice (some ⟨g, 0, none⟩) k cu) k ys) (hc : ∀ i, i < k → w'.cell? ⟨g, i, none⟩ = w.cell? ⟨g, i, none⟩) : Own w' B (.slice (some ⟨g, 0, none⟩) k cu) k ys := by
  rcases o.2.2 with ⟨h1, _⟩ | ⟨g1, cap1, cur1, h1, h2, h3, h4, h5, h6, h7⟩
  · cases h1
  rcases o'.2.2 with ⟨k1, _⟩ | ⟨g2, cap2, cur2, k1, k2, k3, k4, k5, k6, k7⟩
  · cases k1
  rcases ou.2.2 with ⟨l1, _⟩ | ⟨g3, cap3, cur3, l1, l2, l3, l4, l5, l6, l7⟩
  · cases l1
  simp only [Value.slice.injEq, Option.some.injEq, Addr.mk.injEq, and_true, true_and] at h1 k1 l1
  obtain ⟨rfl, rfl⟩ := h1
  obtain ⟨rfl, rfl⟩ := k1
  obtain ⟨rfl, rfl⟩ := l1
  rw [h3] at l3
  simp only [Option.some.injEq, Obj.cells.injEq, and_true] at l3
  subst l3
  have hsz : cur2.size = cur1.size := by rw [k6, h6]
  refine ⟨ou.1, ou.2.1, .inr ⟨g, cu, cur2, rfl, l2, k3, l4, l5, by rw [hsz, l6], ?_⟩⟩
  rw [← l7]
  apply List.ext_getElem?
  intro i
  by_cases hi : i < k * 1
  · rw [List.getElem?_take_of_lt hi, List.getElem?_take_of_lt hi]
    have := hc i (by omega)
    simp only [World.cell?, k3, h3] at this
    simpa using this
  · rw [List.getElem?_take_eq_none (by omega), List.getElem?_take_eq_none (by omega)]
theorem ownPre {w w' : World} {B N k cv cu : Nat} {av au : Option Addr} {xs ys : List Nat} (ov : Own w B (.slice av N cv) N xs) (ov' : Own w' B (.slice av N cv) N xs) (gr : w.grownBy w' (Value.slice av N cv).ownBlock) (ou : Own w B (.slice au k cu) k ys) (hk : k ≤ N) : Own w' B (.slice au k cu) k ys := by
  by_cases hb : (Value.slice au k cu).ownBlock = (Value.slice av N cv).ownBlock
  · rcases ownNonil ou with ⟨rfl, rfl, rfl⟩ | ⟨g, rfl⟩
    · exact ⟨ou.1, ou.2.1, .inl ⟨rfl, rfl⟩⟩
    · rcases ownNonil ov with ⟨rfl, _, _⟩ | ⟨g2, rfl⟩
      · cases hb
      · simp only [Value.ownBlock, Option.some.injEq] at hb
        subst hb
        refine ownAgain ov ov' ou (fun i hi => ?_)
        rw [ownCell ov' (by omega : i < N), ownCell ov (by omega : i < N)]
  · exact ⟨ou.1, ou.2.kept gr (.inr hb)⟩
theorem appendKeep {w : World} {B n m c : Nat} {v : Value} {xs bs : List Nat} (ty : TypeId) (hown : Own w B v n xs) (ad : Addr) (hm : m = bs.length) (hnews : ∀ j u, (bv bs)[j]? = some u → w.cell? (ad.add j) = some u) (hp : 0 < m) (hbytes : n + m ≤ 140737488355328) (hB : B ≤ w.heap.size) :
    ∃ v' w', (Builtin.append_ #[43, 43] ty #[v, .slice (some ad) m c]).run Try.prog w = .ok v' w' ∧ Own w' B v' (n + m) (xs ++ bs) ∧ w.grownBy w' v.ownBlock ∧ Own w' B v n xs ∧ (v'.ownBlock = v.ownBlock ∨ v'.ownBlock = some w.heap.size) := by
  obtain ⟨i0, hi, hz0, hz1, hz2⟩ := info_parts info_byte
  have hl : (bv bs).length = m * 1 := by simp [bv, hm]
  obtain ⟨v', w', hr, h2, h3, _⟩ := run_append_own (P := Try.prog) w B 43 ty 5 i0 (.int .u8 0) 1 1 und_bytes hi hz0 hz1 hz2 rfl (by decide) v n (bv xs) hown.2 ad m c (bv bs) hl hnews (bv_oneCell bs) (by unfold maxLen; omega) (by omega) hB
  have o2 : Own w' B v' (n + m) (xs ++ bs) := ⟨by rw [hown.1, hm]; simp, by simpa [bv] using h2⟩
  refine ⟨v', w', hr, o2, h3, ?_⟩
  rcases hown.2.2 with ⟨rfl, h0⟩ | ⟨g, cap, cur, rfl, hg1, hg2, hg3, hg4, hg5, hg6⟩
  · have hx : xs = [] := List.eq_nil_of_length_eq_zero (by rw [← hown.1]; exact h0)
    subst hx h0
    have hr2 := run_append_nil (P := Try.prog) w 43 ty 5 i0 (.int .u8 0) und_bytes hi hz0 ad m c (bv bs) (by rw [hz1]; exact hl) hnews hp (by omega) (by rw [hz2]; omega)
    rw [hr] at hr2
    injection hr2 with e1 e2
    subst e1
    exact ⟨ownNil _ _, .inr rfl⟩
  · by_cases hroom : n + m ≤ cap
    · obtain ⟨w2, hr2, k2, _⟩ := run_append_own_spare (P := Try.prog) w B 43 ty 5 i0 1 und_bytes hi hz1 g n cap (bv xs) hown.2 ad m c (bv bs) hl hnews (bv_oneCell bs) hroom
      rw [hr] at hr2
      injection hr2 with e1 e2
      subst e1 e2
      refine ⟨⟨hown.1, hown.2.1, ?_⟩, .inl rfl⟩
      rcases o2.2.2 with ⟨h5, _⟩ | ⟨g2, cap2, cur2, h5, h6, h7, h8, h9, h10, h11⟩
      · cases h5
      · simp only [Value.slice.injEq, Option.some.injEq] at h5
        obtain ⟨e3, _, rfl⟩ := h5
        obtain rfl : g = g2 := by injection e3
        refine .inr ⟨g, cap, cur2, rfl, h6, h7, hg3, hg4, h10, ?_⟩
        have e4 : cur2.toList.take (n * 1) = (cur2.toList.take ((n + m) * 1)).take (n * 1) := by
          rw [List.take_take, Nat.min_eq_left (by omega)]
        rw [e4, h11, bv_append, List.take_append_of_le_length (by rw [bv_length, ← hown.1]; omega), List.take_of_length_le (by rw [bv_length, ← hown.1]; omega)]
    · have holds : ∀ j u, (bv xs)[j]? = some u → w.cell? ((⟨g, 0, none⟩ : Addr).add j) = some u := hown.2.cells (g := g) rfl
      have hr2 := run_append_grow (P := Try.prog) w 43 ty 5 i0 (.int .u8 0) und_bytes hi hz0 ⟨g, 0, none⟩ n cap (bv xs) (by rw [hz1, bv_length, ← hown.1]; omega) holds ad m c (bv bs) (by rw [hz1]; exact hl) hnews (by omega) (by omega) (by rw [hz2]; exact growslice_fits (by omega) (by omega))
      rw [hr] at hr2
      injection hr2 with e1 e2
      subst e1
      refine ⟨?_, .inr rfl⟩
      refine ⟨hown.1, hown.2.1, .inr ⟨g, cap, cur, rfl, hg1, ?_, hg3, hg4, hg5, hg6⟩⟩
      rw [e2, heap_alloc_old w.drew _ (Array.getElem?_eq_some_iff.1 hg2).1]
      exact hg2
theorem wpList_append_mark3 {w : World} {ops : Array Oper} {rest : List Oper} {o : Oper} {a : Act} {Q : Exit → Act → World → Prop} (hgd : o.guard = none) (s x : Operand)
    (ho : o.op = .call { callee := .builtin .append, args := #[s, x], argTypes := #[43, 43] })
    (B n cp m : Nat) (ap : Option Addr) (xs : List Nat) (hs : a.eval s = .slice ap n cp) (hx : a.eval x = .slice (some ⟨w.heap.size, 0, none⟩) 1 1) (hown : Own w B (.slice ap n cp) n xs) (hl : n + 1 ≤ 140737488355328) (hB : B ≤ w.heap.size)
    (h : ∀ a' c' w', Own w' B (.slice a' (n + 1) c') (n + 1) (xs ++ [m]) → w.grownBy w' (Value.slice ap n cp).ownBlock → Own w' B (.slice ap n cp) n xs → (∀ g, (Value.slice a' (n + 1) c').ownBlock = some g → (Value.slice ap n cp).ownBlock = some g ∨ w.heap.size ≤ g) → wpList Try.prog ops Q rest (a.put o.dst (.slice a' (n + 1) c')) w') : wpList Try.prog ops Q (o :: rest) a (w.alloc (.cells #[.int .u8 (m : Int)] 5)) := by
  have hb : Below w.heap.size w (w.alloc (.cells #[.int .u8 (m : Int)] 5)) := (Below.refl _ _).alloc (Nat.le_refl _) _
  have hnews : ∀ j u, (bv [m])[j]? = some u → (w.alloc (.cells #[.int .u8 (m : Int)] 5)).cell? ((⟨w.heap.size, 0, none⟩ : Addr).add j) = some u := cell_one_new w _ _
  obtain ⟨v', w', hr, h1, h2, h3, h4⟩ := appendKeep (c := 1) o.type (hown.later hb) ⟨w.heap.size, 0, none⟩ (m := 1) (bs := [m]) rfl hnews (by decide) hl (by simp; omega)
  obtain ⟨a', c', rfl⟩ := own_form h1.2
  refine wpList_plain hgd fun K hK => ?_
  unfold Oper.wp execOp
  simp only [ho, resolve, invoke, builtin, Sem.run_bind, Sem.run_pure, Result.andThen_ok, List.map_toArray, List.map_cons, List.map_nil, hs, hx, hr]
  refine hK _ _ (h a' c' w' h1 ((World.grownBy_alloc w _ _).trans h2) h3 (fun g hg => ?_))
  rcases h4 with h4 | h4
  · exact .inl (h4 ▸ hg)
  · rw [h4] at hg
    simp at hg
    omega


end Go.Proofs.Ythhkpkfpifllkaa

namespace Go.Proofs.Ythhkpkfpifllkaa
open Go.RowKit
set_option linter.unusedVariables false

set_option maxRecDepth 100000 in
set_option maxHeartbeats 2000000 in
theorem grown_any {w : World} {B n cv m : Nat} {av : Option Addr} {L : List Nat} (ho : Own w B (.slice av n cv) n L) (hB : B ≤ w.heap.size) (hn : n ≤ 3000000) (hm : m < 256) :
    Calls Try.prog 26 #[.slice av n cv, .int .u8 (m : Int)] w fun e w' => ∃ a' c', e = .returned (.slice a' (n + (n + 70)) c') ∧ Own w' B (.slice a' (n + (n + 70)) c') (n + (n + 70)) (L ++ List.replicate (n + 70) m) ∧ Own w' B (.slice av n cv) n L ∧ w.grownBy w' (Value.slice av n cv).ownBlock ∧ (∀ g, (Value.slice a' (n + (n + 70)) c').ownBlock = some g → (Value.slice av n cv).ownBlock = some g ∨ w.heap.size ≤ g) := by
  have HO : Hid (Own w B (.slice av n cv) n L) := ho
  clear ho
  go_enter Try.func26, Try.ntmps26
  go_wp2
  go_loopw [5, 6] (fun s i wr => ∃ (k : Nat) (a : Option Addr) (c : Nat), k ≤ n + 70 ∧ i = .int .i64 ((k : Nat) : Int) ∧ s = .slice a (n + k) c ∧ Own wr B (.slice a (n + k) c) (n + k) (L ++ List.replicate k m) ∧ Own wr B (.slice av n cv) n L ∧ w.grownBy wr (Value.slice av n cv).ownBlock ∧ (∀ g, (Value.slice a (n + k) c).ownBlock = some g → (Value.slice av n cv).ownBlock = some g ∨ w.heap.size ≤ g)) (fun _ i _ => n + 70 - (intOf i).toNat)
  case atStart => exact ⟨0, av, cv, Nat.zero_le _, rfl, rfl, by simpa using HO.out, HO.out, ⟨rfl, rfl, rfl, Nat.le_refl _, fun _ _ _ => rfl⟩, fun g hg => .inl hg⟩
  case round =>
    obtain ⟨k, a, c, hk, rfl, rfl, own, o0, gr, loc⟩ := hrel
    have hwr : IntKind.i64.wrap ((n : Int) + 70) = ((n + 70 : Nat) : Int) := by rw [IntWalk.i64_in _ ⟨by omega, by omega⟩]; omega
    have H1 : Hid (Own wr B (.slice a (n + k) c) (n + k) (L ++ List.replicate k m) ∧ Own wr B (.slice av n cv) n L ∧ w.grownBy wr (Value.slice av n cv).ownBlock ∧ (∀ g, (Value.slice a (n + k) c).ownBlock = some g → (Value.slice av n cv).ownBlock = some g ∨ w.heap.size ≤ g)) := ⟨own, o0, gr, loc⟩
    have hB2 : B ≤ wr.heap.size := Nat.le_trans hB gr.size
    clear own o0 gr loc
    by_cases hlt : k < n + 70
    · have hlt2 : (k : Int) < ((n + 70 : Nat) : Int) := by omega
      have hlt3 : (k : Int) < (n : Int) + 70 := by omega
      go_wp2_with (at_builtin; refine wpList_append_mark3 rfl _ _ rfl B (n + k) c m a _ rfl rfl H1.out.1 (by omega) hB2 ?_; intro a2 c2 w2 own2 gr2 own3 loc2; have H2 : Hid (Own w2 B (.slice a2 (n + k + 1) c2) (n + k + 1) (L ++ List.replicate k m ++ [m]) ∧ wr.grownBy w2 (Value.slice a (n + k) c).ownBlock ∧ Own w2 B (.slice a (n + k) c) (n + k) (L ++ List.replicate k m) ∧ (∀ g, (Value.slice a2 (n + k + 1) c2).ownBlock = some g → (Value.slice a (n + k) c).ownBlock = some g ∨ wr.heap.size ≤ g)) := ⟨own2, gr2, own3, loc2⟩; clear own2 gr2 own3 loc2)
      go_roundw
      case rel =>
        obtain ⟨own, o0, gr, loc⟩ := H1.out
        obtain ⟨own2, gr2, own3, loc2⟩ := H2.out
        refine ⟨k + 1, a2, c2, by omega, by go_num, by rw [Nat.add_assoc], ?_, ownPre own own3 gr2 o0 (by omega), gr.andThen gr2 (fun j e => ?_), fun g hg => ?_⟩
        · rw [← Nat.add_assoc, List.replicate_succ', ← List.append_assoc]; exact own2
        · rcases loc j e with h | h
          · exact .inr h
          · exact .inl h
        · rw [← Nat.add_assoc] at hg
          rcases loc2 g hg with h | h
          · exact loc g h
          · exact .inr (Nat.le_trans gr.size h)
      case measure => simp [intOf]; omega
    · obtain rfl : k = n + 70 := by omega
      have hge : ¬ (((n + 70 : Nat) : Int) < ((n + 70 : Nat) : Int)) := by omega
      have hge3 : ¬ (((n + 70 : Nat) : Int) < (n : Int) + 70) := by omega
      go_wp2
      go_ret
      exact ⟨a, c, rfl, H1.out.1, H1.out.2.1, H1.out.2.2.1, H1.out.2.2.2⟩
end Go.Proofs.Ythhkpkfpifllkaa

namespace Go.Proofs.Ythhkpkfpifllkaa
open Go.RowKit
set_option linter.unusedVariables false

section
variable {fs : List (Int × Int)} {clock : Int}
theorem cnt_append (major : Bool) (low : Int) (us ws : List Vd) : cntS major low (us ++ ws) = ⟨(cntS major low us).o + (cntS major low ws).o, (cntS major low us).m + (cntS major low ws).m, (cntS major low us).x + (cntS major low ws).x, (cntS major low us).a + (cntS major low ws).a, (cntS major low us).k + (cntS major low ws).k⟩ := by
  rw [cnt_is, cnt_is, cnt_is]
  unfold fCnt
  simp only [List.filter_append, List.length_append, Int.natCast_add]
def Gd : Bool → List Vd → Prop
  | true, _ => True
  | false, [] => True
  | false, v :: us => (v.rank = 1 ∧ Gd true us) ∨ (v.fate ≠ 5 ∧ v.rank ≠ 1 ∧ Gd false us)
theorem show_carry (tm n : Int) (us : List Vd) : ∀ (s0 : Int) (out : List En), Gd false us → (us.foldl (showStep tm n) (s0, out)).2 = out ++ (us.foldl (showStep tm n) (0, [])).2 := by
  have same : ∀ (us : List Vd) (s : Int) (out : List En), us.foldl (showStep tm n) (s, out) = ((us.foldl (showStep tm n) (s, [])).1, out ++ (us.foldl (showStep tm n) (s, [])).2) := by
    intro us
    induction us with
    | nil => intro s out; simp
    | cons v us ih =>
      intro s out
      simp only [List.foldl_cons]
      unfold showStep
      by_cases h : v.fate = 5 ∧ v.e.kind = 1 ∧ v.e.ts ≤ tm ∧ (if v.rank = 1 then 0 else s) ≠ n
      · simp only [if_pos h]
        have a := ih ((if v.rank = 1 then 0 else s) + 1) (out ++ [v.e])
        have b := ih ((if v.rank = 1 then 0 else s) + 1) ([] ++ [v.e])
        unfold showStep at a b
        rw [a, b]
        simp
      · simp only [if_neg h]
        have a := ih (if v.rank = 1 then 0 else s) out
        unfold showStep at a
        rw [a]
  induction us with
  | nil => intro s0 out _; simp
  | cons v us ih =>
    intro s0 out hg
    rcases hg with ⟨h1, -⟩ | ⟨h5, h1, hg⟩
    · have e : showStep tm n (s0, out) v = ((showStep tm n (0, []) v).1, out ++ (showStep tm n (0, []) v).2) := by
        unfold showStep
        simp only [if_pos h1]
        split <;> simp
      simp only [List.foldl_cons]
      rw [e, same us _ (out ++ _), same us _ (showStep tm n (0, []) v).2]
      simp
    · have e : ∀ s out, showStep tm n (s, out) v = (s, out) := fun s out => by
        unfold showStep
        simp [h5, h1]
      simp only [List.foldl_cons]
      rw [e, e]
      exact ih s0 out hg
theorem show_append (tm n : Int) (us ws : List Vd) (h : Gd false ws) : (showS tm n (us ++ ws)).2 = (showS tm n us).2 ++ (showS tm n ws).2 := by
  unfold showS
  rw [List.foldl_append]
  exact show_carry tm n ws _ _ h
def Qr (V : List Vd) (s : Sp) : Prop := Gd false V ∧ ((∃ v ∈ V, v.rank = 1) ∨ s.rank = 0)
theorem gd_append {us ws : List Vd} (h : Gd false us) (k : (∃ v ∈ us, v.rank = 1) ∨ Gd false ws) : Gd false (us ++ ws) := by
  induction us with
  | nil =>
    rcases k with ⟨v, hv, -⟩ | k
    · cases hv
    · exact k
  | cons v us ih =>
    rcases h with ⟨h1, -⟩ | ⟨h5, h1, hg⟩
    · exact .inl ⟨h1, by simp [Gd]⟩
    · refine .inr ⟨h5, h1, ih hg ?_⟩
      rcases k with ⟨y, hy, e⟩ | k
      · rcases List.mem_cons.1 hy with z | z
        · rw [z] at e; exact absurd e h1
        · exact .inl ⟨y, z, e⟩
      · exact .inr k
theorem Qr.app {V1 V2 : List Vd} {s1 s2 : Sp} (h : Qr V1 s1) (k : s1.rank = 0 → Qr V2 s2) : Qr (V1 ++ V2) s2 := by
  rcases h.2 with ⟨v, hv, e⟩ | z
  · exact ⟨gd_append h.1 (.inl ⟨v, hv, e⟩), .inl ⟨v, List.mem_append_left _ hv, e⟩⟩
  · have q := k z
    refine ⟨gd_append h.1 (.inr q.1), ?_⟩
    rcases q.2 with ⟨v, hv, e⟩ | y
    · exact .inl ⟨v, List.mem_append_right _ hv, e⟩
    · exact .inr y
theorem Qr.same {V : List Vd} {s s' : Sp} (h : Qr V s) (e : s.rank = 0 → s'.rank = 0) : Qr V s' := ⟨h.1, h.2.imp id e⟩
theorem qr_nil {s : Sp} (h : s.rank = 0) : Qr [] s := ⟨by simp [Gd], .inr h⟩
theorem qr_decide {s : Sp} (h : s.rank = 0) (e : En) : Qr [(decideS fs clock s e).1] (decideS fs clock s e).2 := by
  unfold decideS
  by_cases h1 : e.ts ≤ s.mask
  · simp [if_pos h1, Qr, Gd, h]
  · by_cases h2 : 0 < (famAt fs e.fam).2 ∧ e.ts + (famAt fs e.fam).2 ≤ clock
    · simp [if_neg h1, if_pos h2, Qr, Gd, h]
    · by_cases h3 : e.kind = 3
      · simp [if_neg h1, if_neg h2, if_pos h3, Qr, Gd, h]
      · simp [if_neg h1, if_neg h2, if_neg h3, Qr, Gd, h]
theorem qr_resolve {s : Sp} (h : s.rank = 0) (k : Int) : Qr (resolveS fs clock s k).1 (resolveS fs clock s k).2 := by
  unfold resolveS
  split
  · exact qr_decide (s := { s with waiting := false }) h _
  · exact qr_nil h
theorem left_rank0 (s : Sp) (f c : Bool) (h : s.rank = 0) : (leftS s f c).rank = 0 := by
  unfold leftS
  cases f <;> cases c <;> simp [h]
theorem qr_enter {s : Sp} (h : s.rank = 0) (e : En) : Qr (enterS fs clock s e).1 (enterS fs clock s e).2 := by
  unfold enterS
  split
  · exact qr_nil h
  · exact (qr_resolve h 3).same (left_rank0 _ _ _)
theorem qr_stretch {s : Sp} (h : s.rank = 0) (e : En) : Qr [(stretchS s e).1] (stretchS s e).2 := by
  unfold stretchS
  split <;> simp [Qr, Gd, h]
theorem qr_step {s : Sp} (h : s.rank = 0) (e : En) : Qr (stepS fs clock s e).1 (stepS fs clock s e).2 := by
  have q := qr_enter (fs := fs) (clock := clock) h e
  have one : ∀ {s : Sp}, s.rank = 0 → Qr [⟨e, 1, 0⟩] s := fun h => by simp [Qr, Gd, h]
  unfold stepS
  split
  · exact (q.app (fun z => qr_stretch z e)).same (fun z => z)
  · split
    · split
      · exact (q.app (fun z => (qr_resolve z 2).app (fun y => one y))).same (fun z => z)
      · exact (q.app (fun z => one z)).same (fun z => z)
    · split
      · exact q.same (fun z => z)
      · exact (q.app (fun z => qr_decide z e)).same (fun z => z)
theorem Pushed.qr {k : Nat} {l m : List EntD} {s : Sp} {vs : List Vd} (h : Pushed fs clock k l m s vs) : Qr vs s := by
  induction h with
  | nil => exact qr_nil rfl
  | twin h hy he ih => exact ih.app (fun z => by simp [Qr, Gd, z])
  | step h ho hc ih => exact ih.app (fun z => qr_step z _)
theorem Pushed.gd {k : Nat} {l m : List EntD} {s : Sp} {vs : List Vd} (h : Pushed fs clock k l m s vs) : Gd false vs ∧ Gd false (vs ++ (resolveS fs clock s 3).1) := ⟨h.qr.1, (h.qr.app (fun z => qr_resolve z 3)).1⟩
end
end Go.Proofs.Ythhkpkfpifllkaa

namespace Go.Proofs.Ythhkpkfpifllkaa
open Go.RowKit
set_option linter.unusedVariables false

section
variable {fs : List (Int × Int)} {clock : Int} {k : Nat} {l m : List EntD} {s : Sp} {us : List Vd}
theorem step_last (s : Sp) (e : En) : (stepS fs clock s e).2.last = e := by
  unfold stepS
  repeat' split
  all_goals rfl
theorem Pushed.last (h : Pushed fs clock k l m s us) : (l = [] ∧ m = [] ∧ us = [] ∧ s = Sp.zero) ∨ (s.begun = true ∧ ∃ y z, m.getLast? = some y ∧ l.getLast? = some z ∧ y.dat = s.last ∧ z.dat = s.last) := by
  induction h with
  | nil => exact .inl ⟨rfl, rfl, rfl, rfl⟩
  | @twin l m s vs e y h hy he ih =>
    rcases ih with ⟨_, rfl, _⟩ | ⟨b, y', z', e1, e2, e3, e4⟩
    · cases hy
    · have ey : y = y' := Option.some.inj (hy.symm.trans e1)
      exact .inr ⟨b, y, e, hy, by simp, by rw [ey]; exact e3, by rw [← he, ey]; exact e3⟩
  | @step l m s vs e h ho hc ih => exact .inr ⟨step_begun s e.dat, e, e, by simp, by simp, (step_last s e.dat).symm, (step_last s e.dat).symm⟩
theorem last_le {m : List EntD} {y z : EntD} (hp : m.Pairwise fun x y => compareS x y ≤ 0) (hl : m.getLast? = some z) (hy : y ∈ m) : compareS y z ≤ 0 := by
  obtain ⟨ys, rfl⟩ : ∃ ys, m = ys ++ [z] := ⟨m.dropLast, by
    have hne : m ≠ [] := fun q => by rw [q] at hl; cases hl
    have := List.dropLast_concat_getLast hne
    rw [List.getLast?_eq_some_getLast hne] at hl
    cases hl
    exact this.symm⟩
  rcases List.mem_append.1 hy with q | q
  · exact (List.pairwise_append.1 hp).2.2 y q z List.mem_cons_self
  · rw [List.mem_singleton.1 q, compareS_self]; exact Int.le_refl _
theorem Pushed.push {s : SpD} {e : EntD} (h : Pushed fs clock k l m s.dat us) (hc : ∀ (i : Nat) y, i + 1 < l.length → l[i]? = some y → y.seq = e.seq → y.dat = e.dat) (hE : pushE k s e = 0) : ∃ m', Pushed fs clock k (l ++ [e]) m' (pushS k fs clock s e).2 (us ++ (pushS k fs clock s e).1) := by
  unfold pushS
  rw [if_neg (by rw [hE]; decide)]
  by_cases hb : s.begun = true ∧ sameS e s.last = true
  · rw [if_pos hb]
    rcases h.last with ⟨_, _, _, q⟩ | ⟨_, y, z, e1, e2, e3, e4⟩
    · have : s.dat.begun = false := by rw [q]; rfl
      have h1 : s.begun = false := this
      rw [h1] at hb
      exact absurd hb.1 (by decide)
    · exact ⟨m, .twin h e1 (e3.trans (sameS_dat hb.2).symm)⟩
  · rw [if_neg hb]
    have hck : check3S k e = 0 := by
      unfold pushE at hE
      by_cases q : check3S k e ≠ 0
      · rw [if_pos q] at hE; exact hE
      · exact Decidable.not_not.1 q
    refine ⟨m ++ [e], .step h ?_ hck⟩
    rcases h.last with ⟨_, q, _, _⟩ | ⟨b, y, z, e1, e2, e3, e4⟩
    · rw [q]; intro y hy; cases hy
    · have b' : s.begun = true := b
      unfold pushE at hE
      rw [if_neg (by rw [hck]; decide), if_pos b'] at hE
      have c1 : ¬ compareS e s.last < 0 := fun q => by rw [if_pos q] at hE; exact absurd hE (by decide)
      have c2 : ¬ sameS e s.last = true := fun q => hb ⟨b', q⟩
      rw [if_neg c1, if_neg c2] at hE
      have c3 : ¬ e.seq = s.last.seq := fun q => by rw [if_pos q] at hE; exact absurd hE (by decide)
      have sw := compareS_swap e s.last
      have sy : EntD.Same y s.last := EntD.dat_same.1 e3
      have cy : compareS y e ≤ 0 := by
        rw [compareS_same sy ⟨rfl, rfl, rfl, rfl, rfl, rfl, rfl⟩]
        omega
      obtain ⟨o1, o2, o3, o4⟩ := h.ord
      intro x hx
      have t1 := last_le o1 e1 hx
      have tr := compareS_tri x y e
      refine ⟨tr.1 ⟨t1, cy⟩, fun hq => ?_⟩
      obtain ⟨i, hi, hxi⟩ := List.getElem_of_mem (o3 x hx).2
      have hxi' : l[i]? = some x := by rw [← hxi]; exact List.getElem?_eq_getElem hi
      by_cases hlast : i + 1 < l.length
      · have hd := hc i x hlast hxi' hq
        have z0 : compareS x e = 0 := by
          rw [compareS_same (EntD.dat_same.1 hd) ⟨rfl, rfl, rfl, rfl, rfl, rfl, rfl⟩, compareS_self]
        have := (tr.2.2.1 ⟨t1, cy, z0⟩).2
        have sq := seq_of_zero this
        have : y.seq = s.last.seq := congrArg En.seq e3
        exact c3 (sq.symm.trans this)
      · have hi' : i = l.length - 1 := by omega
        rw [List.getLast?_eq_getElem?, ← hi', hxi'] at e2
        cases e2
        exact c3 (hq.symm.trans (congrArg En.seq e4))
theorem Pushed.few (h : Pushed fs clock k l m s us) : us.length ≤ l.length ∧ (us ++ (resolveS fs clock s 3).1).length = l.length ∧ s.rank ≤ us.length ∧ (s.waiting = true → s.begun = true) := by
  obtain ⟨h1, h2, h3⟩ := h.state
  obtain ⟨w1, w2, w3⟩ := walk_len (fs := fs) (clock := clock) (m.map EntD.dat)
  rw [← h1] at w1 w2 w3
  rw [List.length_map] at w1
  have r := resolve_len (fs := fs) (clock := clock) s 3
  have hml : m.length ≤ l.length := by
    clear h1 h2 h3 w1 w2 w3 r
    induction h with
    | nil => exact Nat.le_refl _
    | twin h hy he ih => simp only [List.length_append, List.length_cons, List.length_nil]; omega
    | step h ho hc ih => simp only [List.length_append, List.length_cons, List.length_nil]; omega
  refine ⟨by omega, by rw [List.length_append, r]; omega, ?_, w3⟩
  have := w2.2
  omega
def Sz (e : En) : Prop := ByE e ∧ e.row.length ≤ 256 ∧ e.qual.length ≤ 256 ∧ e.val.length ≤ 4096
theorem Sz.like {a : En} (h : Sz a) (sq kd : Int) : Sz { a with seq := sq, kind := kd } := h
theorem resolve_sz {s : Sp} {kd : Int} (h : s.waiting = true → Sz s.last) : (∀ v ∈ (resolveS fs clock s kd).1, Sz v.e) ∧ (resolveS fs clock s kd).2.last = s.last ∧ (resolveS fs clock s kd).2.waiting = false := by
  refine ⟨fun v hv => ?_, ?_, resolve_wl s kd⟩
  · unfold resolveS at hv
    split at hv
    · rename_i w
      rw [List.mem_singleton.1 hv]
      have : (decideS fs clock { s with waiting := false } { s.last with seq := s.seq, kind := kd }).1.e = { s.last with seq := s.seq, kind := kd } := by
        unfold decideS; repeat' split
        all_goals rfl
      rw [this]
      exact h w
    · cases hv
  · unfold resolveS decideS
    repeat' split
    all_goals rfl
theorem left_keep (s : Sp) (f c : Bool) : (leftS s f c).last = s.last ∧ (leftS s f c).waiting = s.waiting := by
  unfold leftS; cases f <;> cases c <;> exact ⟨rfl, rfl⟩
theorem enter_sz {s : Sp} {e : En} (h : s.waiting = true → Sz s.last) : (∀ v ∈ (enterS fs clock s e).1, Sz v.e) ∧ (enterS fs clock s e).2.last = s.last ∧ ((enterS fs clock s e).2.waiting = true → Sz s.last) := by
  unfold enterS
  split
  · exact ⟨(fun v hv => nomatch hv), rfl, h⟩
  · obtain ⟨r1, r2, r3⟩ := resolve_sz (fs := fs) (clock := clock) (kd := 3) h
    refine ⟨r1, (left_keep _ _ _).1.trans r2, fun z => ?_⟩
    have z' : (leftS (resolveS fs clock s 3).2 (sameFam s e) (sameCol s e)).waiting = true := z
    rw [(left_keep _ _ _).2, r3] at z'
    cases z'
theorem decide_e (s : Sp) (e : En) : (decideS fs clock s e).1.e = e := by
  unfold decideS; repeat' split
  all_goals rfl
theorem step_sz {s : Sp} {e : En} (h : s.waiting = true → Sz s.last) (he : Sz e) : (∀ v ∈ (stepS fs clock s e).1, Sz v.e) ∧ ((stepS fs clock s e).2.waiting = true → Sz (stepS fs clock s e).2.last) := by
  obtain ⟨r1, r2, r3⟩ := enter_sz (fs := fs) (clock := clock) (e := e) h
  refine ⟨fun v hv => ?_, fun _ => by rw [step_last]; exact he⟩
  unfold stepS at hv
  have st : (stretchS (enterS fs clock s e).2 e).1.e = e := by unfold stretchS; split <;> rfl
  split at hv
  · rcases List.mem_append.1 hv with q | q
    · exact r1 v q
    · rw [List.mem_singleton.1 q, st]; exact he
  · split at hv
    · split at hv
      · rcases List.mem_append.1 hv with q | q
        · exact r1 v q
        · rcases List.mem_append.1 q with q | q
          · exact (resolve_sz (fs := fs) (clock := clock) (kd := 2) (s := (enterS fs clock s e).2) (fun z => by rw [r2]; exact r3 z)).1 v q
          · rw [List.mem_singleton.1 q]; exact he
      · rcases List.mem_append.1 hv with q | q
        · exact r1 v q
        · rw [List.mem_singleton.1 q]; exact he
    · split at hv
      · exact r1 v hv
      · rcases List.mem_append.1 hv with q | q
        · exact r1 v q
        · rw [List.mem_singleton.1 q, decide_e]; exact he
theorem Pushed.sz (h : Pushed fs clock k l m s us) (hl : ∀ x ∈ l, Sz x.dat) : (∀ v ∈ us, Sz v.e) ∧ (∀ v ∈ (resolveS fs clock s 3).1, Sz v.e) := by
  have gen : (∀ v ∈ us, Sz v.e) ∧ (s.waiting = true → Sz s.last) := by
    induction h with
    | nil => exact ⟨(fun v hv => nomatch hv), (fun z => nomatch z)⟩
    | @twin l m s vs e y h hy he ih =>
      obtain ⟨i1, i2⟩ := ih (fun x hx => hl x (List.mem_append_left _ hx))
      refine ⟨fun v hv => ?_, i2⟩
      rcases List.mem_append.1 hv with q | q
      · exact i1 v q
      · rw [List.mem_singleton.1 q]; exact hl e (List.mem_append_right _ List.mem_cons_self)
    | @step l m s vs e h ho hc ih =>
      obtain ⟨i1, i2⟩ := ih (fun x hx => hl x (List.mem_append_left _ hx))
      obtain ⟨s1, s2⟩ := step_sz (fs := fs) (clock := clock) (e := e.dat) i2 (hl e (List.mem_append_right _ List.mem_cons_self))
      refine ⟨fun v hv => ?_, s2⟩
      rcases List.mem_append.1 hv with q | q
      · exact i1 v q
      · exact s1 v q
  exact ⟨gen.1, (resolve_sz gen.2).1⟩
end
structure Kd (fs : List (Int × Int)) (clock : Int) (k : Nat) (OO : List Vd → List En) (wa : List En → List En) : Prop where
  nil : OO [] = []
  pre : ∀ a b, ∃ c, OO (a ++ b) = OO a ++ c
  app : ∀ a b, Gd false b → OO (a ++ b) = OO a ++ OO b
  mem : ∀ vs, ∀ e ∈ OO vs, ∃ v ∈ vs, v.e = e
  len : ∀ vs, (OO vs).length ≤ vs.length
  all : ∀ {l m : List EntD} {s : Sp} {us : List Vd}, Pushed fs clock k l m s us → OO (us ++ (resolveS fs clock s 3).1) = wa (m.map EntD.dat)
theorem kd_filter (fs : List (Int × Int)) (clock : Int) (k : Nat) (major : Bool) (low : Int) : Kd fs clock k (outS major low) (fun m => leftL fs clock m major low) where
  nil := rfl
  pre := fun a b => ⟨_, out_append major low a b⟩
  app := fun a b _ => out_append major low a b
  mem := fun vs e he => by
    obtain ⟨v, hv, rfl⟩ := List.mem_map.1 he
    exact ⟨v, (List.mem_filter.1 hv).1, rfl⟩
  len := fun vs => by
    unfold outS
    rw [List.length_map]
    exact List.length_filter_le _ _
  all := fun h => by
    rw [(h.out major low).2]
    exact out_tld h.isOrd.ah h.isOrd.va major low
theorem show_kept (tm n : Int) (us : List Vd) (h : ∀ v ∈ us, v.fate = 1 → v.rank ≠ 1) : showS tm n us = showS tm n (us.filter kept) := by
  have gen : ∀ (us : List Vd) (a : Int × List En), (∀ v ∈ us, v.fate = 1 → v.rank ≠ 1) → us.foldl (showStep tm n) a = (us.filter kept).foldl (showStep tm n) a := by
    intro us
    induction us with
    | nil => intro a _; rfl
    | cons v us ih =>
      intro a hv
      by_cases f : v.fate = 1
      · have e1 : kept v = false := by simp [kept, f]
        have e2 : showStep tm n a v = a := by
          unfold showStep
          rw [if_neg (by rw [f]; intro q; exact absurd q.1 (by decide)), if_neg (hv v List.mem_cons_self f)]
        rw [List.filter_cons_of_neg (by rw [e1]; decide), List.foldl_cons, e2]
        exact ih a (fun v hm => hv v (List.mem_cons_of_mem _ hm))
      · have e1 : kept v = true := by simp [kept, f]
        rw [List.filter_cons_of_pos e1, List.foldl_cons, List.foldl_cons]
        exact ih _ (fun v hm => hv v (List.mem_cons_of_mem _ hm))
  exact gen us (0, []) h
theorem show_pre (tm n : Int) : ∀ (b : List Vd) (a : Int × List En), ∃ c, (b.foldl (showStep tm n) a).2 = a.2 ++ c
  | [], a => ⟨[], by simp⟩
  | v :: b, a => by
    obtain ⟨c, hc⟩ := show_pre tm n b (showStep tm n a v)
    rw [List.foldl_cons, hc]
    by_cases hq : v.fate = 5 ∧ v.e.kind = 1 ∧ v.e.ts ≤ tm ∧ (if v.rank = 1 then 0 else a.1) ≠ n
    · have e1 : (showStep tm n a v).2 = a.2 ++ [v.e] := by unfold showStep; rw [if_pos hq]
      exact ⟨[v.e] ++ c, by rw [e1, List.append_assoc]⟩
    · have e1 : (showStep tm n a v).2 = a.2 := by unfold showStep; rw [if_neg hq]
      exact ⟨c, by rw [e1]⟩
theorem show_mem (tm n : Int) : ∀ (b : List Vd) (a : Int × List En), ∀ e ∈ (b.foldl (showStep tm n) a).2, e ∈ a.2 ∨ ∃ v ∈ b, v.e = e
  | [], a, e, he => .inl he
  | v :: b, a, e, he => by
    rcases show_mem tm n b (showStep tm n a v) e he with q | ⟨u, hu, q⟩
    · by_cases hq : v.fate = 5 ∧ v.e.kind = 1 ∧ v.e.ts ≤ tm ∧ (if v.rank = 1 then 0 else a.1) ≠ n
      · have e1 : (showStep tm n a v).2 = a.2 ++ [v.e] := by unfold showStep; rw [if_pos hq]
        rw [e1] at q
        rcases List.mem_append.1 q with q | q
        · exact .inl q
        · exact .inr ⟨v, List.mem_cons_self, (List.mem_singleton.1 q).symm⟩
      · have e1 : (showStep tm n a v).2 = a.2 := by unfold showStep; rw [if_neg hq]
        rw [e1] at q
        exact .inl q
    · exact .inr ⟨u, List.mem_cons_of_mem _ hu, q⟩
section
variable {fs : List (Int × Int)} {clock : Int} {k : Nat} {l m : List EntD} {s : Sp} {us : List Vd}
theorem decide_f1 (s : Sp) (e : En) : (decideS fs clock s e).1.fate ≠ 1 := by
  unfold decideS; repeat' split
  all_goals (show (_ : Int) ≠ 1; simp)
theorem resolve_f1 (s : Sp) (kd : Int) : ∀ v ∈ (resolveS fs clock s kd).1, v.fate ≠ 1 := fun v hv => by
  unfold resolveS at hv
  split at hv
  · rw [List.mem_singleton.1 hv]; exact decide_f1 _ _
  · cases hv
theorem enter_f1 (s : Sp) (e : En) : ∀ v ∈ (enterS fs clock s e).1, v.fate ≠ 1 := fun v hv => by
  unfold enterS at hv
  split at hv
  · cases hv
  · exact resolve_f1 _ _ v hv
theorem step_f1 (s : Sp) (e : En) : ∀ v ∈ (stepS fs clock s e).1, v.fate = 1 → v.rank ≠ 1 := fun v hv hf => by
  unfold stepS at hv
  split at hv
  · rcases List.mem_append.1 hv with q | q
    · exact absurd hf (enter_f1 _ _ v q)
    · rw [List.mem_singleton.1 q] at hf
      unfold stretchS at hf
      split at hf
      · exact absurd (show (8 : Int) = 1 from hf) (by decide)
      · exact absurd (show (7 : Int) = 1 from hf) (by decide)
  · split at hv
    · split at hv
      · rcases List.mem_append.1 hv with q | q
        · exact absurd hf (enter_f1 _ _ v q)
        · rcases List.mem_append.1 q with q | q
          · exact absurd hf (resolve_f1 _ _ v q)
          · rw [List.mem_singleton.1 q]; exact (show (0 : Int) ≠ 1 by decide)
      · rcases List.mem_append.1 hv with q | q
        · exact absurd hf (enter_f1 _ _ v q)
        · rw [List.mem_singleton.1 q]; exact (show (0 : Int) ≠ 1 by decide)
    · split at hv
      · exact absurd hf (enter_f1 _ _ v hv)
      · rcases List.mem_append.1 hv with q | q
        · exact absurd hf (enter_f1 _ _ v q)
        · rw [List.mem_singleton.1 q] at hf; exact absurd hf (decide_f1 _ _)
theorem walk_f1 : ∀ (l : List En) (s : Sp), ∀ v ∈ (walkS fs clock s l).1, v.fate = 1 → v.rank ≠ 1
  | [], s, v, hv => by cases hv
  | e :: l, s, v, hv => by
    rcases List.mem_append.1 hv with q | q
    · exact step_f1 s e v q
    · exact walk_f1 l _ v q
theorem Pushed.f1 (h : Pushed fs clock k l m s us) : ∀ v ∈ us, v.fate = 1 → v.rank ≠ 1 := by
  induction h with
  | nil => intro v hv; cases hv
  | @twin l m s vs e y h hy he ih =>
    intro v hv
    rcases List.mem_append.1 hv with q | q
    · exact ih v q
    · rw [List.mem_singleton.1 q]; intro _; exact (show (0 : Int) ≠ 1 by decide)
  | @step l m s vs e h ho hc ih =>
    intro v hv
    rcases List.mem_append.1 hv with q | q
    · exact ih v q
    · exact step_f1 s e.dat v q
theorem Pushed.shown (h : Pushed fs clock k l m s us) (tm n : Int) : showS tm n (us ++ (resolveS fs clock s 3).1) = showS tm n (verdictsS fs clock (m.map EntD.dat)) := by
  obtain ⟨h1, h2, h3⟩ := h.state
  rw [show_kept tm n _ (fun v hv => ?_), show_kept tm n (verdictsS fs clock (m.map EntD.dat)) (fun v hv => ?_)]
  · unfold verdictsS
    rw [List.filter_append, List.filter_append, h2, ← h1]
  · unfold verdictsS at hv
    rcases List.mem_append.1 hv with q | q
    · exact walk_f1 _ _ v q
    · exact fun hf => absurd hf (resolve_f1 _ _ v q)
  · rcases List.mem_append.1 hv with q | q
    · exact h.f1 v q
    · exact fun hf => absurd hf (resolve_f1 _ _ v q)
theorem push_new {s : SpD} {e : EntD} (hE : pushE k s e = 0) (hb : s.begun = true) (hr : s.last.row ≠ e.row) : ∃ c, (pushS k fs clock s e).1 = (resolveS fs clock s.dat 3).1 ++ c := by
  unfold pushS
  rw [if_neg (by rw [hE]; decide), if_neg (fun z => hr (congrArg En.row (sameS_dat z.2)).symm)]
  have g : sameGrp s.dat e.dat = false := by
    have : decide (s.dat.last.row = e.dat.row) = false := decide_eq_false hr
    simp [sameGrp, sameCol, sameFam, this]
  have en : (enterS fs clock s.dat e.dat).1 = (resolveS fs clock s.dat 3).1 := by
    unfold enterS
    rw [g]
    rfl
  unfold stepS
  rw [en, g]
  split
  · exact ⟨_, rfl⟩
  · rw [if_neg (by decide)]
    split
    · exact ⟨[], by simp⟩
    · exact ⟨_, rfl⟩
end
theorem kd_reader {fs : List FamD} (hS : SchemaOk fs) (clock tm n : Int) (hn : 0 ≤ n) : Kd (mt fs) clock fs.length (fun vs => (showS tm n vs).2) (fun m => readR tm n (m.filter (visB (mt fs) clock m))) where
  nil := rfl
  pre := fun a b => by
    unfold showS
    rw [List.foldl_append]
    exact show_pre tm n b _
  app := fun a b h => show_append tm n a b h
  mem := fun vs e he => by
    rcases show_mem tm n vs _ e he with q | q
    · cases q
    · exact q
  len := fun vs => show_len tm n vs
  all := fun h => by
    rw [h.shown tm n]
    exact read_ref (h.isOrd.max hS) h.isOrd.ah h.isOrd.va hn
end Go.Proofs.Ythhkpkfpifllkaa

namespace Go.Proofs.Ythhkpkfpifllkaa
open Go.RowKit
set_option linter.unusedVariables false

section
variable {w w' : World} {N : Nat} {v : Value} {xs : List EntD} {O : Nat → Prop} {x y : EntD}
theorem byte_ent {B n m : Nat} {u : Value} {bs : List Nat} {es : List Value} (ho : Own w B u n bs) (hr : w.ownsRow N 45 7 v m es) (k : Nat) (hk : u.ownBlock = some k) : v.ownBlock ≠ some k := fun hv => by
  rcases ho.2.2 with ⟨h1, -⟩ | ⟨g, cap, cur, h1, -, h3, -⟩
  · rw [h1] at hk; cases hk
  · rcases hr.2 with ⟨r1, -⟩ | ⟨g2, cap2, cur2, r1, -, r3, -⟩
    · rw [r1] at hv; cases hv
    · rw [h1] at hk
      rw [r1] at hv
      cases hk
      cases hv
      rw [h3] at r3
      simp at r3
theorem pair_dsj (h : xs.Pairwise Dsj) (hx : x ∈ xs) (hy : y ∈ xs) (hne : y ≠ x) : Dsj x y := by
  induction h with
  | nil => cases hx
  | @cons a l ha hl ih =>
    rcases List.mem_cons.1 hx with ex | hx2
    · rcases List.mem_cons.1 hy with ey | hy2
      · exact absurd (ey.trans ex.symm) hne
      · rw [ex]; exact ha y hy2
    · rcases List.mem_cons.1 hy with ey | hy2
      · rw [ey]; exact fun g h1 h2 => ha x hx2 g h2 h1
      · exact ih hx2 hy2
theorem Rw.grow (h : Rw w N v xs O) (hx : x ∈ xs) {u : Value} (hu : (u = x.vr ∧ Own w' N x.vr x.row.length x.row) ∨ (u = x.vq ∧ Own w' N x.vq x.qual.length x.qual) ∨ (u = x.vv ∧ Own w' N x.vv x.val.length x.val)) (gr : w.grownBy w' u.ownBlock) : Rw w' N v xs O := by
  have e3 := h.ents x hx
  have ou : ∃ n bs, Own w N u n bs := by
    rcases hu with ⟨rfl, hw⟩ | ⟨rfl, hw⟩ | ⟨rfl, hw⟩
    · exact ⟨_, _, e3.row⟩
    · exact ⟨_, _, e3.qual⟩
    · exact ⟨_, _, e3.val⟩
  obtain ⟨n0, b0, ou⟩ := ou
  have oth : ∀ {u2 : Value} {n : Nat} {bs : List Nat}, Own w N u2 n bs → (∀ k, u2.ownBlock = some k → u.ownBlock ≠ some k) → Own w' N u2 n bs := fun o ha => own_same o (fun k hk => gr.block k (o.2.lt k hk).2 (fun z => ha k hk z.symm))
  have ub : ∀ k, u.ownBlock = some k → x.vr.ownBlock = some k ∨ x.vq.ownBlock = some k ∨ x.vv.ownBlock = some k := fun k hk => by
    rcases hu with ⟨rfl, hw⟩ | ⟨rfl, hw⟩ | ⟨rfl, hw⟩
    · exact .inl hk
    · exact .inr (.inl hk)
    · exact .inr (.inr hk)
  refine ⟨row_same h.row (fun k hk => gr.block k (h.row.lt k hk).2 (fun z => byte_ent ou h.row k z.symm hk)), fun y hy => ?_, h.ap, h.rowO, h.entO⟩
  by_cases e : y = x
  · subst e
    refine ⟨?_, ?_, ?_, e3.arq, e3.arv, e3.aqv⟩
    · rcases hu with ⟨rfl, hw⟩ | ⟨rfl, hw⟩ | ⟨rfl, hw⟩
      · exact hw
      · exact oth e3.row (fun k hk z => e3.arq k hk z)
      · exact oth e3.row (fun k hk z => e3.arv k hk z)
    · rcases hu with ⟨rfl, hw⟩ | ⟨rfl, hw⟩ | ⟨rfl, hw⟩
      · exact oth e3.qual (fun k hk z => e3.arq k z hk)
      · exact hw
      · exact oth e3.qual (fun k hk z => e3.aqv k hk z)
    · rcases hu with ⟨rfl, hw⟩ | ⟨rfl, hw⟩ | ⟨rfl, hw⟩
      · exact oth e3.val (fun k hk z => e3.arv k z hk)
      · exact oth e3.val (fun k hk z => e3.aqv k z hk)
      · exact hw
  · have dj := pair_dsj h.ap hx hy e
    have y3 := h.ents y hy
    exact ⟨oth y3.row (fun k hk z => dj k (ub k z) (.inl hk)), oth y3.qual (fun k hk z => dj k (ub k z) (.inr (.inl hk))), oth y3.val (fun k hk z => dj k (ub k z) (.inr (.inr hk))), y3.arq, y3.arv, y3.aqv⟩
end
end Go.Proofs.Ythhkpkfpifllkaa

namespace Go.Proofs.Ythhkpkfpifllkaa
open Go.RowKit Go.Maps
set_option linter.unusedVariables false

theorem bounds_ask (C : Nat) (fs : List FamD) (clock low : Int) : boundsS C [clock, low] = askE C fs clock low 0 1 [] := by
  unfold boundsS askE
  by_cases h : C ≠ 0
  · rw [if_pos h, if_pos h]
  · rw [if_neg h, if_neg h]
    have b0 : badT 0 = false := by decide
    have i0 : inOrderE (check3S fs.length) [] = 0 := by rfl
    rw [b0, i0]
    cases h1 : badT clock <;> cases h2 : badT low <;> simp [h1, h2]
theorem reader_ask (C : Nat) (fs : List FamD) (clock t n : Int) : readerS C clock t n = askE C fs clock 0 t n [] := by
  unfold readerS boundsS askE
  by_cases h : C ≠ 0
  · have h2 : ((C : Nat) : Int) ≠ 0 := by omega
    rw [if_pos h, if_pos h, if_pos h2]
  · rw [if_neg h, if_neg h]
    have b0 : badT 0 = false := by decide
    have i0 : inOrderE (check3S fs.length) [] = 0 := by rfl
    rw [b0, i0]
    by_cases n1 : n < 1
    · cases h1 : badT clock <;> cases h2 : badT t <;> simp [h1, h2, n1]
    · by_cases n2 : 16 < n
      · cases h1 : badT clock <;> cases h2 : badT t <;> simp [h1, h2, n1, n2]
      · cases h1 : badT clock <;> cases h2 : badT t <;> simp [h1, h2, n1, n2]
theorem Rest.start {W : World} {wb g rb B : Nat} {a : Option Addr} {c : Nat} {fs : List FamD} {clock : Int} {T : World → (Nat → Prop) → List Vd → Prop} (hb : WBx W wb (.slice a fs.length c) clock (.func (.func g) #[.pointer (some ⟨rb, 0, none⟩)] #[]) spZ) (hf : OwnF W B (.slice a fs.length c) fs.length fs) (hB : B ≤ W.heap.size) (hl : fs.length ≤ 8) (t : T W (fun i => i = rb) []) (hne : wb ≠ rb) (hr : ∃ cs ty, W.heap[rb]? = some (.cells cs ty (0, 0)) ∧ ty ≠ 73) : Rest B wb g rb (.slice a fs.length c) fs clock T W spZ [] := by
  have k := Wk.start (T := T) hb hf hl t hne hr
  have nl : ∀ i, ¬ Lst spZ i := fun i z => by rcases z with z | z | z <;> cases z
  have far : ∀ k, (Value.slice a fs.length c).ownBlock = some k → k ≠ wb ∧ k ≠ rb ∧ ¬ Lst spZ k := fun k hk => by
    rcases hf.2.2 with ⟨h1, -⟩ | ⟨g, cap, cur, h1, -, h3, -⟩
    · rw [h1] at hk; cases hk
    · rw [h1] at hk
      cases hk
      refine ⟨fun z => ?_, fun z => ?_, nl _⟩
      · have := hb
        unfold WBx at this
        rw [← z, h3] at this
        simp at this
      · obtain ⟨cs, ty, k1, k2⟩ := hr
        rw [← z, h3] at k1
        simp at k1
        exact k2 k1.2.symm
  refine ⟨?_, ⟨a, c, rfl, hf⟩, far, hl⟩
  refine ⟨hb, fun Z hZ => fam_frame ⟨a, c, rfl, hf⟩ far hl Z hZ, t, ⟨⟨rfl, World.ownsRow_nil _ _ _ _⟩, ⟨rfl, World.ownsRow_nil _ _ _ _⟩, ⟨rfl, World.ownsRow_nil _ _ _ _⟩⟩, fun k hk => .inl hk, k.apart, k.apO, fun i hi => .inl hi, hB, ⟨hb.lt, hne, nl _⟩, k.rank, k.mask, k.bys, k.few, k.wait, rfl, rfl, rfl, Nat.le_refl _, fun i _ _ _ _ => rfl⟩
def entZ : EntD := ⟨.slice none 0 0, 0, .slice none 0 0, 0, 0, 0, .slice none 0 0, [], [], []⟩
end Go.Proofs.Ythhkpkfpifllkaa

namespace Go.Proofs.Ythhkpkfpifllkaa
open Go.RowKit Go.Maps
set_option linter.unusedVariables false

theorem put_ne {A : Act} {d x : Nat} {v u : Value} (h : x ≠ d) (k : A.tmps[x]?.getD undef = u) : (A.put (some d) v).tmps[x]?.getD undef = u := by
  show (A.tmps.setIfInBounds d v)[x]?.getD undef = u
  rw [Array.getElem?_setIfInBounds_ne (fun z => h z.symm)]
  exact k
theorem put_eq {A : Act} {d n : Nat} {v : Value} (hs : A.tmps.size = n) (h : d < n) : (A.put (some d) v).tmps[d]?.getD undef = v := by
  show (A.tmps.setIfInBounds d v)[d]?.getD undef = v
  rw [Array.getElem?_setIfInBounds_self_of_lt (by omega)]
  rfl
theorem put_sz {A : Act} {d n : Nat} {v : Value} (hs : A.tmps.size = n) : (A.put (some d) v).tmps.size = n := by
  show (A.tmps.setIfInBounds d v).size = n
  rw [Array.size_setIfInBounds]
  exact hs
theorem ev_tmp {A : Act} {x : Nat} {v : Value} (h : A.tmps[x]?.getD undef = v) : A.eval (.tmp x) = v := by simpa [Act.eval] using h
theorem anyE_gen {P : Program} {md : Region.Mode} {ops : Array Oper} {Q : Exit → Act → World → Prop} {S : World → Prop} {E : Nat → Bool} {n : Nat} {l : Array Bool} {a : Act} {w : World} (h : ∀ A0 : Act, A0 = a → AnyE P md ops Q S E n l A0 w) : AnyE P md ops Q S E n l a w := h a rfl
set_option maxRecDepth 100000 in
theorem op_move {a : Act} {w : World} {x : Nat} {v : Value} {d : Option Nat} {ty : TypeId} {ps : String} {af : Array Edge} (hx : a.tmps[x]?.getD undef = v) :
    (execOp a.eval { dst := d, op := Op.move (Operand.tmp x), type := ty, pos := ps, after := af, guard := none }).run Try.prog w = .ok (.value v) w := by
  go_simp
set_option maxRecDepth 100000 in
theorem op_nil {a : Act} {w : World} {x g : Nat} {d : Option Nat} {ps : String} {af : Array Edge} (hx : a.tmps[x]?.getD undef = .pointer (some ⟨g, 0, none⟩)) :
    (execOp a.eval { dst := d, op := Op.nilCheck (Operand.tmp x), type := 0, pos := ps, after := af, guard := none }).run Try.prog w = .ok (.value (.pointer (some ⟨g, 0, none⟩))) w := by
  go_simp
set_option maxRecDepth 100000 in
theorem op_loadL {a : Act} {w : World} {x g n c : Nat} {ad : Option Addr} {d : Option Nat} {ps : String} {af : Array Edge} (hx : a.tmps[x]?.getD undef = .pointer (some ⟨g, 0, none⟩)) (h : w.cell? ⟨g, 0, none⟩ = some (.slice ad n c)) :
    (execOp a.eval { dst := d, op := Op.load 25 (Operand.tmp x), type := 25, pos := ps, after := af, guard := none }).run Try.prog w = .ok (.value (.slice ad n c)) w := by
  go_simp
set_option maxRecDepth 100000 in
theorem op_loadE {a : Act} {w : World} {x g : Nat} {v0 v1 v2 v3 v4 v5 v6 : Value} {d : Option Nat} {ps : String} {af : Array Edge} (hx : a.tmps[x]?.getD undef = .pointer (some ⟨g, 0, none⟩)) (h0 : w.cell? ⟨g, 0, none⟩ = some v0) (h1 : w.cell? ⟨g, 1, none⟩ = some v1) (h2 : w.cell? ⟨g, 2, none⟩ = some v2) (h3 : w.cell? ⟨g, 3, none⟩ = some v3) (h4 : w.cell? ⟨g, 4, none⟩ = some v4) (h5 : w.cell? ⟨g, 5, none⟩ = some v5) (h6 : w.cell? ⟨g, 6, none⟩ = some v6) :
    (execOp a.eval { dst := d, op := Op.load 45 (Operand.tmp x), type := 45, pos := ps, after := af, guard := none }).run Try.prog w = .ok (.value (.agg #[v0, v1, v2, v3, v4, v5, v6])) w := by
  go_simp
set_option maxRecDepth 100000 in
theorem wp_buildE {a : Act} {w : World} {K : Act → World → Prop} {Q : Exit → Act → World → Prop} {p : Nat} {v0 v1 v2 v3 v4 v5 v6 : Value} {d : Option Nat} {ps : String} {af : Array Edge} (hp : a.tmps[p]?.getD undef = .agg #[v0, v1, v2, v3, v4, v5, v6]) (hk : K (a.put d (.slice (some ⟨w.heap.size, 0, none⟩) 1 1)) (w.alloc (.cells #[v0, v1, v2, v3, v4, v5, v6] 45))) :
    Oper.wp Try.prog { dst := d, op := Op.buildSlice 25 1 #[(0, Operand.tmp p)], type := 25, pos := ps, after := af, guard := none } a w K Q := by
  go_simp
  exact hk
set_option maxRecDepth 100000 in
theorem wp_nil0 {a : Act} {w : World} {K : Act → World → Prop} {Q : Exit → Act → World → Prop} {x g : Nat} {d : Option Nat} {ps : String} {af : Array Edge} (hx : a.tmps[x]?.getD undef = .pointer (some ⟨g, 0, none⟩)) (hk : K (a.put d (.pointer (some ⟨g, 0, none⟩))) w) :
    Oper.wp Try.prog { dst := d, op := Op.nilCheck (Operand.tmp x), type := 0, pos := ps, after := af, guard := none } a w K Q := by
  go_simp
  exact hk
set_option maxRecDepth 100000 in
theorem wp_storeL {a : Act} {w : World} {K : Act → World → Prop} {Q : Exit → Act → World → Prop} {p q g n c : Nat} {a' : Option Addr} {y : Value} {ps : String} {af : Array Edge} (hc : w.cell? ⟨g, 0, none⟩ = some y) (hf : w.frozen? ⟨g, 0, none⟩ = false) (hp : a.tmps[p]?.getD undef = .pointer (some ⟨g, 0, none⟩)) (hq : a.tmps[q]?.getD undef = .slice a' n c) (hk : K a (w.setCell ⟨g, 0, none⟩ (.slice a' n c))) :
    Oper.wp Try.prog { dst := none, op := Op.store 25 (Operand.tmp p) (Operand.tmp q), type := 0, pos := ps, after := af, guard := none } a w K Q := by
  go_simp
  exact hk
theorem row_formW {w : World} {B n : Nat} {e : TypeId} {v : Value} {xs : List Value} (h : w.ownsRow B e 1 v n xs) : ∃ a c, v = .slice a n c := by
  rcases h.2 with ⟨rfl, h2⟩ | ⟨g, cap, cur, rfl, _⟩
  · exact ⟨none, 0, by rw [h2]⟩
  · exact ⟨_, _, rfl⟩
set_option maxRecDepth 100000 in
theorem wpl_append_w3 {w : World} {ops : Array Oper} {rest : List Oper} {o : Oper} {a : Act} {Q : Exit → Act → World → Prop} (hgd : o.guard = none) (s x : Operand)
    (ho : o.op = .call { callee := .builtin .append, args := #[s, x], argTypes := #[30, 30] })
    (B : Nat) (v : Value) (us : List Value) (hs : a.eval s = v) (hown : w.ownsRow B 43 1 v us.length us)
    (u1 u2 u3 : Value) (h1 : u1.oneCell' = true) (h2 : u2.oneCell' = true) (h3 : u3.oneCell' = true) (hx : a.eval x = .slice (some ⟨w.heap.size, 0, none⟩) 3 3) (hm : us.length + 3 ≤ 5864062014805) (hB : B ≤ w.heap.size)
    (h : ∀ a' c' w', w'.ownsRow B 43 1 (.slice a' (us.length + 3) c') (us.length + 3) (us ++ [u1, u2, u3]) → w.grownBy w' v.ownBlock → wpList Try.prog ops Q rest (a.put o.dst (.slice a' (us.length + 3) c')) w') : wpList Try.prog ops Q (o :: rest) a (w.alloc (.cells #[u1, u2, u3] 43)) := by
  obtain ⟨i0, hi, hz0, hz1, hz2⟩ := info_parts (show (Try.prog.info? 43).map (fun i => (i.zero, i.size, i.bytes)) = some (some (.slice none 0 0), 1, 24) by kernel_rfl)
  refine wpList_append_own_at _ hgd s x 30 ho B 43 i0 (.slice none 0 0) 1 24 (by kernel_rfl) hi hz0 hz1 hz2 rfl (by decide) v us.length us hs (hown.alloc _) ⟨w.heap.size, 0, none⟩ 3 3 [u1, u2, u3] hx rfl (fun j u hj => ?_) (fun u hu => ?_) (by unfold maxLen; omega) (by omega) (by rw [World.size_alloc]; omega) ?_
  · have hn := heap_new w (.cells #[u1, u2, u3] 43)
    have e3 : ((⟨w.heap.size, 0, none⟩ : Addr).add j) = ⟨w.heap.size, j, none⟩ := by
      unfold Addr.add
      by_cases hj : j = 0 <;> simp [hj]
    rw [e3]
    have e2 : (w.alloc (.cells #[u1, u2, u3] 43)).heap[w.heap.size]? = some (.cells #[u1, u2, u3] 43 (0, 0)) := hn
    simp only [World.cell?, e2]
    simpa using hj
  · simp only [List.mem_cons, List.not_mem_nil, or_false] at hu
    rcases hu with rfl | rfl | rfl
    · exact h1
    · exact h2
    · exact h3
  · intro v' w' k1 k2 k3 k4
    obtain ⟨a', c', rfl⟩ := row_formW k1
    exact h a' c' w' k1 ((World.grownBy_alloc w _ _).trans k2)
theorem wide_form {w : World} {B m c : Nat} {a : Option Addr} {bs : List Nat} (h : Own w B (.slice a m c) m (bs ++ wideL)) : ∃ g, a = some ⟨g, 0, none⟩ ∧ m = bs.length + 5 ∧ bs.length + 5 ≤ c := by
  have hm : m = bs.length + 5 := by rw [h.1]; simp [wideL]
  rcases h.2.2 with ⟨h1, h2⟩ | ⟨g, cap, cur, h3, h4, h5, h6, _⟩
  · omega
  · simp only [Value.slice.injEq] at h3
    exact ⟨g, h3.1, hm, by omega⟩
def endE : EntD := ⟨.slice none 0 0, -9, .slice none 0 0, 0, 0, 0, .slice none 0 0, [], [], []⟩
theorem below_of_heap {w w1 w2 : World} {B : Nat} (h : Below B w w1) (hB : B ≤ w1.heap.size) (os : w2.os = w1.os) (tp : w2.tape = w1.tape) (ou : w2.output = w1.output) (sz : w1.heap.size ≤ w2.heap.size) (k : ∀ i, i < w1.heap.size → i < B → w2.heap[i]? = w1.heap[i]?) : Below B w w2 := by
  exact ⟨os.trans h.os, tp.trans h.tape, ou.trans h.output, Nat.le_trans h.size sz, fun i hi => (k i (by omega) hi).trans (h.block i hi)⟩
end Go.Proofs.Ythhkpkfpifllkaa

namespace Go.Proofs.Ythhkpkfpifllkaa
open Go.RowKit Go.Maps
set_option linter.unusedVariables false

structure Fz (B B1 : Nat) (w w' : World) : Prop where
  os : w'.os = w.os
  tape : w'.tape = w.tape
  output : w'.output = w.output
  size : w.heap.size ≤ w'.heap.size
  block : ∀ i, i < w.heap.size → (i < B ∨ B1 ≤ i) → w'.heap[i]? = w.heap[i]?
theorem Fz.of {B B1 : Nat} {w w' : World} (h : Below w.heap.size w w') : Fz B B1 w w' := ⟨h.os, h.tape, h.output, h.size, fun i hi _ => h.block i hi⟩
theorem Fz.trans {B B1 : Nat} {w w1 w2 : World} (h : Fz B B1 w w1) (k : Fz B B1 w1 w2) : Fz B B1 w w2 :=
  ⟨k.os.trans h.os, k.tape.trans h.tape, k.output.trans h.output, Nat.le_trans h.size k.size, fun i hi q => (k.block i (Nat.lt_of_lt_of_le hi h.size) q).trans (h.block i hi q)⟩
theorem Fz.set {B B1 : Nat} {w : World} {g j : Nat} {v : Value} (h1 : B ≤ g) (h2 : g < B1) : Fz B B1 w (w.setCell ⟨g, j, none⟩ v) :=
  ⟨rfl, rfl, rfl, by rw [World.size_setCell]; exact Nat.le_refl _, fun i hi q => Below.heap_setCell _ _ _ _ (fun z => by have : i = g := z; omega)⟩
def Bk (w : World) (g : Nat) (ty : TypeId) (n : Nat) : Prop := ∃ cur : Array Value, w.heap[g]? = some (.cells cur ty (0, 0)) ∧ n ≤ cur.size
theorem Bk.cell {w : World} {g n : Nat} {ty : TypeId} (h : Bk w g ty n) {i : Nat} (hi : i < n) : ∃ v, w.cell? ⟨g, i, none⟩ = some v ∧ w.frozen? ⟨g, i, none⟩ = false := by
  obtain ⟨cur, h1, h2⟩ := h
  exact ⟨cur[i]'(by omega), by simp [World.cell?, h1, Array.getElem?_eq_getElem (show i < cur.size by omega)], by simp [World.frozen?, h1]⟩
theorem Bk.set {w : World} {g n : Nat} {ty : TypeId} (h : Bk w g ty n) (g' j : Nat) (v : Value) : Bk (w.setCell ⟨g', j, none⟩ v) g ty n := by
  by_cases e : g = g'
  · subst e
    obtain ⟨cur, h1, h2⟩ := h
    refine ⟨cur.setIfInBounds j v, ?_, by rw [Array.size_setIfInBounds]; exact h2⟩
    simp [World.setCell, Array.getElem?_modify, h1]
  · obtain ⟨cur, h1, h2⟩ := h
    exact ⟨cur, by rw [Below.heap_setCell _ _ _ _ e]; exact h1, h2⟩
theorem Bk.tyd {w : World} {g n : Nat} {ty : TypeId} (h : Bk w g ty n) : Tyd w g ty := by
  obtain ⟨cur, h1, h2⟩ := h
  exact ⟨cur, _, h1⟩
end Go.Proofs.Ythhkpkfpifllkaa

namespace Go.Proofs.Ythhkpkfpifllkaa
open Go.RowKit Go.Maps
set_option linter.unusedVariables false

theorem Wd.far {w w' : World} {B : Nat} {v u : Value} {bs : List Nat} (h : Wd w B v u bs) (k : ∀ i, B ≤ i → i < w.heap.size → w'.heap[i]? = w.heap[i]?) : Wd w' B v u bs := h.keep (fun g hg => k g (h.own.2.lt g hg).1 (h.own.2.lt g hg).2)
theorem Re.far {w w' : World} {B : Nat} {x y : EntD} {u1 u2 u3 : Value} (h : Re w B x y u1 u2 u3) (k : ∀ i, B ≤ i → i < w.heap.size → w'.heap[i]? = w.heap[i]?) : Re w' B x y u1 u2 u3 := ⟨h.dat, h.r.far k, h.q.far k, h.v.far k⟩
theorem cell_heap {w w' : World} {b i : Nat} (h : w'.heap[b]? = w.heap[b]?) : w'.cell? ⟨b, i, none⟩ = w.cell? ⟨b, i, none⟩ := by simp only [World.cell?, h]
end Go.Proofs.Ythhkpkfpifllkaa

namespace Go.Proofs.Ythhkpkfpifllkaa
open Go.RowKit Go.Maps
set_option linter.unusedVariables false
theorem Wd.set {w : World} {B g n c : Nat} {u : Value} {bs : List Nat} (h : Wd w B (.slice (some ⟨g, 0, none⟩) n c) u bs) {k : Nat} (hk : k < bs.length) (v : Nat) : Wd (w.setCell ⟨g, k, none⟩ (.int .u8 (v : Int))) B (.slice (some ⟨g, 0, none⟩) n c) u (bs.set k v) := by
  obtain ⟨g', c', e1, e2⟩ := h.form
  simp only [Value.slice.injEq, Option.some.injEq, Addr.mk.injEq] at e1
  obtain ⟨⟨rfl, -, -⟩, rfl, rfl⟩ := e1
  refine ⟨⟨g, c, by rw [List.length_set], by rw [List.length_set]; exact e2⟩, ?_⟩
  have ho := h.own
  rw [e2] at ho ⊢
  refine ⟨by simp [wideL], ?_⟩
  rw [List.length_set]
  have := row_set ho.2 (k := k) (by simp [bv]; omega) (.int .u8 (v : Int))
  have e : (bv (bs ++ wideL)).set k (.int .u8 (v : Int)) = bv (bs.set k v ++ wideL) := by
    rw [← List.set_append_left _ _ hk]
    unfold bv
    rw [List.map_set]
  rw [e] at this
  exact this
theorem Wd.off {w : World} {B g k : Nat} {v u : Value} {bs : List Nat} (h : Wd w B v u bs) (hg : u.ownBlock ≠ some g) (x : Value) : Wd (w.setCell ⟨g, k, none⟩ x) B v u bs :=
  h.keep (fun g' hg' => Below.heap_setCell _ _ _ _ (fun z => hg (by have : g' = g := z; rw [← this]; exact hg')))
theorem apt_at {us : List Value} (h : us.Pairwise Apt) {i j : Nat} {u v : Value} (hu : us[i]? = some u) (hv : us[j]? = some v) (hne : i ≠ j) : Apt u v := by
  rw [List.pairwise_iff_getElem] at h
  obtain ⟨li, rfl⟩ := List.getElem?_eq_some_iff.1 hu
  obtain ⟨lj, rfl⟩ := List.getElem?_eq_some_iff.1 hv
  rcases Nat.lt_or_gt_of_ne hne with q | q
  · exact h i j li lj q
  · intro g e1 e2
    exact h j i lj li q g e2 e1
theorem evals_setC {xs : List EntD} {s c : Nat} {y y' : EntD} {v : Value} (hs : xs[s]? = some y) (hc : c < 7) (hy : y'.cells.toList = y.cells.toList.set c v) : evals (xs.set s y') = (evals xs).set (s * 7 + c) v := by
  have l7 : ∀ z : EntD, z.cells.toList.length = 7 := fun z => rfl
  induction xs generalizing s with
  | nil => simp at hs
  | cons x xs ih =>
    cases s with
    | zero =>
      simp only [List.getElem?_cons_zero, Option.some.injEq] at hs
      subst hs
      show y'.cells.toList ++ evals xs = (x.cells.toList ++ evals xs).set (0 * 7 + c) v
      rw [List.set_append_left _ _ (by rw [l7]; omega), hy, Nat.zero_mul, Nat.zero_add]
    | succ s =>
      simp only [List.getElem?_cons_succ] at hs
      show x.cells.toList ++ evals (xs.set s y') = (x.cells.toList ++ evals xs).set ((s + 1) * 7 + c) v
      rw [ih hs, List.set_append_right _ _ (by rw [l7]; omega), l7, show (s + 1) * 7 + c - 7 = s * 7 + c by omega]
theorem evals_same {xs : List EntD} {s : Nat} {y y' : EntD} (hs : xs[s]? = some y) (hy : y'.cells = y.cells) : evals (xs.set s y') = evals xs := by
  unfold evals
  congr 1
  rw [List.map_set, hy]
  apply List.ext_getElem?
  intro i
  by_cases e : s = i
  · subst e
    rw [List.getElem?_set_self (by rw [List.length_map]; exact (List.getElem?_eq_some_iff.1 hs).1), List.getElem?_map, hs]
    rfl
  · rw [List.getElem?_set_ne e]
theorem mem_set3 {ys : List EntD} {s : Nat} {y : EntD} {P : EntD → Prop} (h : ∀ x ∈ ys, P x) (hy : P y) : ∀ x ∈ ys.set s y, P x := fun x hx => by
  rcases List.mem_or_eq_of_mem_set hx with q | q
  · exact h x q
  · rw [q]; exact hy
theorem bys_set {bs : List Nat} {k v : Nat} (h : Bys bs) (hv : v < 256) : Bys (bs.set k v) := fun x hx => by
  rcases List.mem_or_eq_of_mem_set hx with q | q
  · exact h x q
  · rw [q]; exact hv
end Go.Proofs.Ythhkpkfpifllkaa
