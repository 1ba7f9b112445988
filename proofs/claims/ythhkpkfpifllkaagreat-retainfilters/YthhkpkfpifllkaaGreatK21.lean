import Derived.Test.YthhkpkfpifllkaaGreatK20
namespace Go.Proofs.YthhkpkfpifllkaaGreat
open Go.RowKit
set_option linter.unusedVariables false

theorem ownNil (w : World) (B : Nat) : Own w B (.slice none 0 0) 0 [] := ⟨rfl, World.ownsRow_nil _ _ _ _⟩
theorem ownCell {w : World} {B k g c : Nat} {xs : List Nat} (h : Own w B (.slice (some ⟨g, 0, none⟩) k c) k xs) {i : Nat} (hi : i < k) : w.cell? ⟨g, i, none⟩ = some (.int .u8 ((xs.getD i 0 : Nat) : Int)) := by
  rw [h.2.cellAt i (by omega)]
  have := h.1
  simp [bv, List.getElem?_eq_getElem (by omega : i < xs.length)]
theorem ownNonil {w : World} {B k c : Nat} {a : Option Addr} {xs : List Nat} (o : Own w B (.slice a k c) k xs) : (a = none ∧ k = 0 ∧ c = 0) ∨ ∃ g, a = some ⟨g, 0, none⟩ := by
  rcases o.2.2 with ⟨h1, h2⟩ | ⟨g, cap, cur, h1, _⟩
  · simp only [Value.slice.injEq] at h1
    exact .inl ⟨h1.1, h2, h1.2.2⟩
  · simp only [Value.slice.injEq] at h1
    exact .inr ⟨g, h1.1⟩
theorem ownAgain {w w' : World} {B n k g c cu : Nat} {xs ys : List Nat} (o : Own w B (.slice (some ⟨g, 0, none⟩) n c) n xs) (o' : Own w' B (.slice (some ⟨g, 0, none⟩) n c) n xs) (ou : Own w B (.slice (some ⟨g, 0, none⟩) k cu) k ys) (hc : ∀ i, i < k → w'.cell? ⟨g, i, none⟩ = w.cell? ⟨g, i, none⟩) : Own w' B (.slice (some ⟨g, 0, none⟩) k cu) k ys := by
  rcases o.2.2 with ⟨h1, _⟩ | ⟨g1, cap1, cur1, h1, h2, h3, h4, h5, h6, h7⟩
  · cases h1
  rcases o'.2.2 with ⟨k1, _⟩ | ⟨g2, cap2, cur2, k1, k2, k3, k4, k5, k6, k7⟩
  · cases k1
  rcases ou.2.2 with ⟨l1, _⟩ | ⟨g3, cap3, cur3, l1, l2, l3, l4, l5, l6, l7⟩
  · cases l1
  simp only [Value.slice.injEq, Option.some.injEq, Addr.mk.injEq, and_true, true_and] at h1 k1 l1
  obtain ⟨rfl, rfl⟩ := h1
  obtain ⟨rfl, rfl⟩ := k1
  obtain ⟨rfl, rfl⟩ := l1
  rw [h3] at l3
  simp only [Option.some.injEq, Obj.cells.injEq, and_true] at l3
  subst l3
  have hsz : cur2.size = cur1.size := by rw [k6, h6]
  refine ⟨ou.1, ou.2.1, .inr ⟨g, cu, cur2, rfl, l2, k3, l4, l5, by rw [hsz, l6], ?_⟩⟩
  rw [← l7]
  apply List.ext_getElem?
  intro i
  by_cases hi : i < k * 1
  · rw [List.getElem?_take_of_lt hi, List.getElem?_take_of_lt hi]
    have := hc i (by omega)
    simp only [World.cell?, k3, h3] at this
    simpa using this
  · rw [List.getElem?_take_eq_none (by omega), List.getElem?_take_eq_none (by omega)]
theorem ownPre {w w' : World} {B N k cv cu : Nat} {av au : Option Addr} {xs ys : List Nat} (ov : Own w B (.slice av N cv) N xs) (ov' : Own w' B (.slice av N cv) N xs) (gr : w.grownBy w' (Value.slice av N cv).ownBlock) (ou : Own w B (.slice au k cu) k ys) (hk : k ≤ N) : Own w' B (.slice au k cu) k ys := by
  by_cases hb : (Value.slice au k cu).ownBlock = (Value.slice av N cv).ownBlock
  · rcases ownNonil ou with ⟨rfl, rfl, rfl⟩ | ⟨g, rfl⟩
    · exact ⟨ou.1, ou.2.1, .inl ⟨rfl, rfl⟩⟩
    · rcases ownNonil ov with ⟨rfl, _, _⟩ | ⟨g2, rfl⟩
      · cases hb
      · simp only [Value.ownBlock, Option.some.injEq] at hb
        subst hb
        refine ownAgain ov ov' ou (fun i hi => ?_)
        rw [ownCell ov' (by omega : i < N), ownCell ov (by omega : i < N)]
  · exact ⟨ou.1, ou.2.kept gr (.inr hb)⟩
theorem appendKeep {w : World} {B n m c : Nat} {v : Value} {xs bs : List Nat} (ty : TypeId) (hown : Own w B v n xs) (ad : Addr) (hm : m = bs.length) (hnews : ∀ j u, (bv bs)[j]? = some u → w.cell? (ad.add j) = some u) (hp : 0 < m) (hbytes : n + m ≤ 140737488355328) (hB : B ≤ w.heap.size) :
    ∃ v' w', (Builtin.append_ #[82, 82] ty #[v, .slice (some ad) m c]).run Tryz.prog w = .ok v' w' ∧ Own w' B v' (n + m) (xs ++ bs) ∧ w.grownBy w' v.ownBlock ∧ Own w' B v n xs ∧ (v'.ownBlock = v.ownBlock ∨ v'.ownBlock = some w.heap.size) := by
  obtain ⟨i0, hi, hz0, hz1, hz2⟩ := info_parts info_byte
  have hl : (bv bs).length = m * 1 := by simp [bv, hm]
  obtain ⟨v', w', hr, h2, h3, _⟩ := run_append_own (P := Tryz.prog) w B 82 ty 5 i0 (.int .u8 0) 1 1 und_bytes hi hz0 hz1 hz2 rfl (by decide) v n (bv xs) hown.2 ad m c (bv bs) hl hnews (bv_oneCell bs) (by unfold maxLen; omega) (by omega) hB
  have o2 : Own w' B v' (n + m) (xs ++ bs) := ⟨by rw [hown.1, hm]; simp, by simpa [bv] using h2⟩
  refine ⟨v', w', hr, o2, h3, ?_⟩
  rcases hown.2.2 with ⟨rfl, h0⟩ | ⟨g, cap, cur, rfl, hg1, hg2, hg3, hg4, hg5, hg6⟩
  · have hx : xs = [] := List.eq_nil_of_length_eq_zero (by rw [← hown.1]; exact h0)
    subst hx h0
    have hr2 := run_append_nil (P := Tryz.prog) w 82 ty 5 i0 (.int .u8 0) und_bytes hi hz0 ad m c (bv bs) (by rw [hz1]; exact hl) hnews hp (by omega) (by rw [hz2]; omega)
    rw [hr] at hr2
    injection hr2 with e1 e2
    subst e1
    exact ⟨ownNil _ _, .inr rfl⟩
  · by_cases hroom : n + m ≤ cap
    · obtain ⟨w2, hr2, k2, _⟩ := run_append_own_spare (P := Tryz.prog) w B 82 ty 5 i0 1 und_bytes hi hz1 g n cap (bv xs) hown.2 ad m c (bv bs) hl hnews (bv_oneCell bs) hroom
      rw [hr] at hr2
      injection hr2 with e1 e2
      subst e1 e2
      refine ⟨⟨hown.1, hown.2.1, ?_⟩, .inl rfl⟩
      rcases o2.2.2 with ⟨h5, _⟩ | ⟨g2, cap2, cur2, h5, h6, h7, h8, h9, h10, h11⟩
      · cases h5
      · simp only [Value.slice.injEq, Option.some.injEq] at h5
        obtain ⟨e3, _, rfl⟩ := h5
        obtain rfl : g = g2 := by injection e3
        refine .inr ⟨g, cap, cur2, rfl, h6, h7, hg3, hg4, h10, ?_⟩
        have e4 : cur2.toList.take (n * 1) = (cur2.toList.take ((n + m) * 1)).take (n * 1) := by
          rw [List.take_take, Nat.min_eq_left (by omega)]
        rw [e4, h11, bv_append, List.take_append_of_le_length (by rw [bv_length, ← hown.1]; omega), List.take_of_length_le (by rw [bv_length, ← hown.1]; omega)]
    · have holds : ∀ j u, (bv xs)[j]? = some u → w.cell? ((⟨g, 0, none⟩ : Addr).add j) = some u := hown.2.cells (g := g) rfl
      have hr2 := run_append_grow (P := Tryz.prog) w 82 ty 5 i0 (.int .u8 0) und_bytes hi hz0 ⟨g, 0, none⟩ n cap (bv xs) (by rw [hz1, bv_length, ← hown.1]; omega) holds ad m c (bv bs) (by rw [hz1]; exact hl) hnews (by omega) (by omega) (by rw [hz2]; exact growslice_fits (by omega) (by omega))
      rw [hr] at hr2
      injection hr2 with e1 e2
      subst e1
      refine ⟨?_, .inr rfl⟩
      refine ⟨hown.1, hown.2.1, .inr ⟨g, cap, cur, rfl, hg1, ?_, hg3, hg4, hg5, hg6⟩⟩
      rw [e2, heap_alloc_old w.drew _ (Array.getElem?_eq_some_iff.1 hg2).1]
      exact hg2
theorem wpList_append_mark3 {w : World} {ops : Array Oper} {rest : List Oper} {o : Oper} {a : Act} {Q : Exit → Act → World → Prop} (hgd : o.guard = none) (s x : Operand)
    (ho : o.op = .call { callee := .builtin .append, args := #[s, x], argTypes := #[82, 82] })
    (B n cp m : Nat) (ap : Option Addr) (xs : List Nat) (hs : a.eval s = .slice ap n cp) (hx : a.eval x = .slice (some ⟨w.heap.size, 0, none⟩) 1 1) (hown : Own w B (.slice ap n cp) n xs) (hl : n + 1 ≤ 140737488355328) (hB : B ≤ w.heap.size)
    (h : ∀ a' c' w', Own w' B (.slice a' (n + 1) c') (n + 1) (xs ++ [m]) → w.grownBy w' (Value.slice ap n cp).ownBlock → Own w' B (.slice ap n cp) n xs → (∀ g, (Value.slice a' (n + 1) c').ownBlock = some g → (Value.slice ap n cp).ownBlock = some g ∨ w.heap.size ≤ g) → wpList Tryz.prog ops Q rest (a.put o.dst (.slice a' (n + 1) c')) w') : wpList Tryz.prog ops Q (o :: rest) a (w.alloc (.cells #[.int .u8 (m : Int)] 5)) := by
  have hb : Below w.heap.size w (w.alloc (.cells #[.int .u8 (m : Int)] 5)) := (Below.refl _ _).alloc (Nat.le_refl _) _
  have hnews : ∀ j u, (bv [m])[j]? = some u → (w.alloc (.cells #[.int .u8 (m : Int)] 5)).cell? ((⟨w.heap.size, 0, none⟩ : Addr).add j) = some u := cell_one_new w _ _
  obtain ⟨v', w', hr, h1, h2, h3, h4⟩ := appendKeep (c := 1) o.type (hown.later hb) ⟨w.heap.size, 0, none⟩ (m := 1) (bs := [m]) rfl hnews (by decide) hl (by simp; omega)
  obtain ⟨a', c', rfl⟩ := own_form h1.2
  refine wpList_plain hgd fun K hK => ?_
  unfold Oper.wp execOp
  simp only [ho, resolve, invoke, builtin, Sem.run_bind, Sem.run_pure, Result.andThen_ok, List.map_toArray, List.map_cons, List.map_nil, hs, hx, hr]
  refine hK _ _ (h a' c' w' h1 ((World.grownBy_alloc w _ _).trans h2) h3 (fun g hg => ?_))
  rcases h4 with h4 | h4
  · exact .inl (h4 ▸ hg)
  · rw [h4] at hg
    simp at hg
    omega


set_option maxRecDepth 100000 in
set_option maxHeartbeats 2000000 in
theorem longer_any {w : World} {B n cv : Nat} {av : Option Addr} {L : List Nat} (ho : Own w B (.slice av n cv) n L) (hB : B ≤ w.heap.size) (hn : n ≤ 3000000) :
    Calls Tryz.prog 125 #[.slice av n cv] w fun e w' => e = .returned (.bool true) ∧ Own w' B (.slice av n cv) n L ∧ w.grownBy w' (Value.slice av n cv).ownBlock := by
  have HO : Hid (Own w B (.slice av n cv) n L) := ho
  clear ho
  go_enter Tryz.func125, Tryz.ntmps125
  go_wp2
  go_loopw [3, 4] (fun s i wr => ∃ (k : Nat) (a : Option Addr) (c : Nat), k ≤ 70 ∧ i = .int .i64 ((k : Nat) : Int) ∧ s = .slice a (n + k) c ∧ Own wr B (.slice a (n + k) c) (n + k) (L ++ List.replicate k 80) ∧ Own wr B (.slice av n cv) n L ∧ w.grownBy wr (Value.slice av n cv).ownBlock ∧ (∀ g, (Value.slice a (n + k) c).ownBlock = some g → (Value.slice av n cv).ownBlock = some g ∨ w.heap.size ≤ g)) (fun _ i _ => 70 - (intOf i).toNat)
  case atStart => exact ⟨0, av, cv, Nat.zero_le _, rfl, rfl, by simpa using HO.out, HO.out, ⟨rfl, rfl, rfl, Nat.le_refl _, fun _ _ _ => rfl⟩, fun g hg => .inl hg⟩
  case round =>
    obtain ⟨k, a, c, hk, rfl, rfl, own, o0, gr, loc⟩ := hrel
    have H1 : Hid (Own wr B (.slice a (n + k) c) (n + k) (L ++ List.replicate k 80) ∧ Own wr B (.slice av n cv) n L ∧ w.grownBy wr (Value.slice av n cv).ownBlock ∧ (∀ g, (Value.slice a (n + k) c).ownBlock = some g → (Value.slice av n cv).ownBlock = some g ∨ w.heap.size ≤ g)) := ⟨own, o0, gr, loc⟩
    have hB2 : B ≤ wr.heap.size := Nat.le_trans hB gr.size
    clear own o0 gr loc
    by_cases hlt : k < 70
    · have hlt2 : (k : Int) < 70 := by omega
      go_wp2_with (at_builtin; refine wpList_append_mark3 rfl _ _ rfl B (n + k) c 80 a _ rfl rfl H1.out.1 (by omega) hB2 ?_; intro a2 c2 w2 own2 gr2 own3 loc2; have H2 : Hid (Own w2 B (.slice a2 (n + k + 1) c2) (n + k + 1) (L ++ List.replicate k 80 ++ [80]) ∧ wr.grownBy w2 (Value.slice a (n + k) c).ownBlock ∧ Own w2 B (.slice a (n + k) c) (n + k) (L ++ List.replicate k 80) ∧ (∀ g, (Value.slice a2 (n + k + 1) c2).ownBlock = some g → (Value.slice a (n + k) c).ownBlock = some g ∨ wr.heap.size ≤ g)) := ⟨own2, gr2, own3, loc2⟩; clear own2 gr2 own3 loc2)
      go_roundw
      case rel =>
        obtain ⟨own, o0, gr, loc⟩ := H1.out
        obtain ⟨own2, gr2, own3, loc2⟩ := H2.out
        refine ⟨k + 1, a2, c2, by omega, by go_num, by rw [Nat.add_assoc], ?_, ownPre own own3 gr2 o0 (by omega), gr.andThen gr2 (fun j e => ?_), fun g hg => ?_⟩
        · rw [← Nat.add_assoc, List.replicate_succ', ← List.append_assoc]; exact own2
        · rcases loc j e with h | h
          · exact .inr h
          · exact .inl h
        · rw [← Nat.add_assoc] at hg
          rcases loc2 g hg with h | h
          · exact loc g h
          · exact .inr (Nat.le_trans gr.size h)
      case measure => simp [intOf]; omega
    · obtain rfl : k = 70 := by omega
      have hge : ¬ (((70 : Nat) : Int) < (70 : Int)) := by omega
      go_wp2
      go_ret
      exact ⟨by first | rfl | simp, H1.out.2.1, H1.out.2.2.1⟩
end Go.Proofs.YthhkpkfpifllkaaGreat

namespace Go.Proofs.YthhkpkfpifllkaaGreat
open Go.RowKit
set_option linter.unusedVariables false

section
variable {w w' : World} {N : Nat} {v : Value} {xs : List EntD} {O : Nat → Prop} {x y : EntD}
theorem byte_ent {B n m : Nat} {u : Value} {bs : List Nat} {es : List Value} (ho : Own w B u n bs) (hr : w.ownsRow N 84 7 v m es) (k : Nat) (hk : u.ownBlock = some k) : v.ownBlock ≠ some k := fun hv => by
  rcases ho.2.2 with ⟨h1, -⟩ | ⟨g, cap, cur, h1, -, h3, -⟩
  · rw [h1] at hk; cases hk
  · rcases hr.2 with ⟨r1, -⟩ | ⟨g2, cap2, cur2, r1, -, r3, -⟩
    · rw [r1] at hv; cases hv
    · rw [h1] at hk
      rw [r1] at hv
      cases hk
      cases hv
      rw [h3] at r3
      simp at r3
theorem pair_dsj (h : xs.Pairwise Dsj) (hx : x ∈ xs) (hy : y ∈ xs) (hne : y ≠ x) : Dsj x y := by
  induction h with
  | nil => cases hx
  | @cons a l ha hl ih =>
    rcases List.mem_cons.1 hx with ex | hx2
    · rcases List.mem_cons.1 hy with ey | hy2
      · exact absurd (ey.trans ex.symm) hne
      · rw [ex]; exact ha y hy2
    · rcases List.mem_cons.1 hy with ey | hy2
      · rw [ey]; exact fun g h1 h2 => ha x hx2 g h2 h1
      · exact ih hx2 hy2
theorem Rw.grow (h : Rw w N v xs O) (hx : x ∈ xs) {u : Value} (hu : (u = x.vr ∧ Own w' N x.vr x.row.length x.row) ∨ (u = x.vq ∧ Own w' N x.vq x.qual.length x.qual) ∨ (u = x.vv ∧ Own w' N x.vv x.val.length x.val)) (gr : w.grownBy w' u.ownBlock) : Rw w' N v xs O := by
  have e3 := h.ents x hx
  have ou : ∃ n bs, Own w N u n bs := by
    rcases hu with ⟨rfl, hw⟩ | ⟨rfl, hw⟩ | ⟨rfl, hw⟩
    · exact ⟨_, _, e3.row⟩
    · exact ⟨_, _, e3.qual⟩
    · exact ⟨_, _, e3.val⟩
  obtain ⟨n0, b0, ou⟩ := ou
  have oth : ∀ {u2 : Value} {n : Nat} {bs : List Nat}, Own w N u2 n bs → (∀ k, u2.ownBlock = some k → u.ownBlock ≠ some k) → Own w' N u2 n bs := fun o ha => own_same o (fun k hk => gr.block k (o.2.lt k hk).2 (fun z => ha k hk z.symm))
  have ub : ∀ k, u.ownBlock = some k → x.vr.ownBlock = some k ∨ x.vq.ownBlock = some k ∨ x.vv.ownBlock = some k := fun k hk => by
    rcases hu with ⟨rfl, hw⟩ | ⟨rfl, hw⟩ | ⟨rfl, hw⟩
    · exact .inl hk
    · exact .inr (.inl hk)
    · exact .inr (.inr hk)
  refine ⟨row_same h.row (fun k hk => gr.block k (h.row.lt k hk).2 (fun z => byte_ent ou h.row k z.symm hk)), fun y hy => ?_, h.ap, h.rowO, h.entO⟩
  by_cases e : y = x
  · subst e
    refine ⟨?_, ?_, ?_, e3.arq, e3.arv, e3.aqv⟩
    · rcases hu with ⟨rfl, hw⟩ | ⟨rfl, hw⟩ | ⟨rfl, hw⟩
      · exact hw
      · exact oth e3.row (fun k hk z => e3.arq k hk z)
      · exact oth e3.row (fun k hk z => e3.arv k hk z)
    · rcases hu with ⟨rfl, hw⟩ | ⟨rfl, hw⟩ | ⟨rfl, hw⟩
      · exact oth e3.qual (fun k hk z => e3.arq k z hk)
      · exact hw
      · exact oth e3.qual (fun k hk z => e3.aqv k hk z)
    · rcases hu with ⟨rfl, hw⟩ | ⟨rfl, hw⟩ | ⟨rfl, hw⟩
      · exact oth e3.val (fun k hk z => e3.arv k z hk)
      · exact oth e3.val (fun k hk z => e3.aqv k z hk)
      · exact hw
  · have dj := pair_dsj h.ap hx hy e
    have y3 := h.ents y hy
    exact ⟨oth y3.row (fun k hk z => dj k (ub k z) (.inl hk)), oth y3.qual (fun k hk z => dj k (ub k z) (.inr (.inl hk))), oth y3.val (fun k hk z => dj k (ub k z) (.inr (.inr hk))), y3.arq, y3.arv, y3.aqv⟩
end
end Go.Proofs.YthhkpkfpifllkaaGreat

namespace Go.Proofs.YthhkpkfpifllkaaGreat
open Go.RowKit Go.Maps
set_option linter.unusedVariables false

theorem bounds_ask (C : Nat) (fs : List FamD) (clock low : Int) : boundsS C [clock, low] = askE C fs clock low 0 1 [] := by
  unfold boundsS askE
  by_cases h : C ≠ 0
  · rw [if_pos h, if_pos h]
  · rw [if_neg h, if_neg h]
    have b0 : badT 0 = false := by decide
    have i0 : inOrderE (check3S fs.length) [] = 0 := by rfl
    rw [b0, i0]
    cases h1 : badT clock <;> cases h2 : badT low <;> simp [h1, h2]
theorem Rest.start {W : World} {wb g rb B : Nat} {a : Option Addr} {c : Nat} {fs : List FamD} {clock : Int} {T : World → (Nat → Prop) → List Vd → Prop} (hb : WBx W wb (.slice a fs.length c) clock (.func (.func g) #[.pointer (some ⟨rb, 0, none⟩)] #[]) spZ) (hf : OwnF W B (.slice a fs.length c) fs.length fs) (hB : B ≤ W.heap.size) (hl : fs.length ≤ 8) (t : T W (fun i => i = rb) []) (hne : wb ≠ rb) (hr : ∃ cs ty, W.heap[rb]? = some (.cells cs ty (0, 0)) ∧ ty ≠ 132) : Rest B wb g rb (.slice a fs.length c) fs clock T W spZ [] := by
  have k := Wk.start (T := T) hb hf hl t hne hr
  have nl : ∀ i, ¬ Lst spZ i := fun i z => by rcases z with z | z | z <;> cases z
  have far : ∀ k, (Value.slice a fs.length c).ownBlock = some k → k ≠ wb ∧ k ≠ rb ∧ ¬ Lst spZ k := fun k hk => by
    rcases hf.2.2 with ⟨h1, -⟩ | ⟨g, cap, cur, h1, -, h3, -⟩
    · rw [h1] at hk; cases hk
    · rw [h1] at hk
      cases hk
      refine ⟨fun z => ?_, fun z => ?_, nl _⟩
      · have := hb
        unfold WBx at this
        rw [← z, h3] at this
        simp at this
      · obtain ⟨cs, ty, k1, k2⟩ := hr
        rw [← z, h3] at k1
        simp at k1
        exact k2 k1.2.symm
  refine ⟨?_, ⟨a, c, rfl, hf⟩, far, hl⟩
  refine ⟨hb, fun Z hZ => fam_frame ⟨a, c, rfl, hf⟩ far hl Z hZ, t, ⟨⟨rfl, World.ownsRow_nil _ _ _ _⟩, ⟨rfl, World.ownsRow_nil _ _ _ _⟩, ⟨rfl, World.ownsRow_nil _ _ _ _⟩⟩, fun k hk => .inl hk, k.apart, k.apO, fun i hi => .inl hi, hB, ⟨hb.lt, hne, nl _⟩, k.rank, k.mask, k.bys, k.few, k.wait, rfl, rfl, rfl, Nat.le_refl _, fun i _ _ _ _ => rfl⟩
def FlBx (w : World) (q : Nat) (pf pr : Option Addr) (vi vo : Value) (la : EntD) (has : Bool) (c : Ct) : Prop := w.heap[q]? = some (.cells #[.pointer pf, .pointer pr, vi, vo, la.vr, .int .i64 la.fam, la.vq, .int .i64 la.ts, .int .i64 la.seq, .int .i64 la.kind, la.vv, .bool has, .int .i64 c.o, .int .i64 c.m, .int .i64 c.x, .int .i64 c.a, .int .i64 c.k] 155 (0, 0))
def entZ : EntD := ⟨.slice none 0 0, 0, .slice none 0 0, 0, 0, 0, .slice none 0 0, [], [], []⟩
def MadeP (w w' : World) (fs : List FamD) (clock : Int) (g : Nat) (p1 p2 : Nat → Option Addr) (T : Nat → Nat → World → (Nat → Prop) → List Vd → Prop) (r : Ending) : Prop := ∃ q fb wb a' c', r = .returned (.tuple #[.pointer (some ⟨q, 0, none⟩), .bool true]) ∧ w.heap.size ≤ q ∧ w.heap.size ≤ fb ∧ w.heap.size ≤ wb ∧ q ≠ fb ∧ q ≠ wb ∧ FlBx w' q (p1 fb) (p2 fb) (.slice none 0 0) (.slice none 0 0) entZ false ⟨0, 0, 0, 0, 0⟩ ∧ Rest w.heap.size wb g fb (.slice a' fs.length c') fs clock (T fb wb) w' spZ []


set_option maxRecDepth 100000 in
set_option maxHeartbeats 4000000 in
theorem madeF_any {w : World} {fa : Option Addr} {fc : Nat} {fs : List FamD} (hr : RdF w (.slice fa fs.length fc) fs) (hnn : fa = none → fc = 0) (C : Nat) (hC : (C = 0 ↔ SchemaOk fs) ∧ (C = 0 ∨ C = 28)) (clock low t nv : Int) (major : Bool) :
    Calls Tryz.prog 67 #[.agg #[.slice fa fs.length fc, .int .i64 clock, .bool major, .int .i64 low, .int .i64 t, .int .i64 nv], .bool false] w fun r w' => Below w.heap.size w w' ∧ (boundsS C [clock, low] ≠ 0 → r = .returned (.tuple #[.pointer none, .bool true])) ∧ (boundsS C [clock, low] = 0 → MadeP w w' fs clock 70 (fun fb => (some ⟨fb, 0, none⟩)) (fun fb => none) (fun fb wb => (TF [] fb w.heap.size (.pointer (some ⟨wb, 0, none⟩)) major low)) r) := by
  obtain ⟨X, hX, A, hb⟩ := case_box w fa fs.length fc clock low t nv major
  have HN := Lib.hid (newFilter_any (hr.later A) hnn C hC clock low major)
  have hnil : ∀ Z : World, RdL3 Z none 0 [] := fun Z => ⟨⟨Nat.le_refl _, Nat.zero_le _⟩, .inl rfl, fun x hx => by cases hx⟩
  have HR := Lib.hid (fun (Z : World) (b : Below X.heap.size X Z) => refSquash_any (hr.later (A.trans (b.mono A.size))) C hC clock low major (hnil Z) (Nat.zero_le _))
  obtain ⟨E, hE⟩ : ∃ E, E = boundsS C [clock, low] := ⟨_, rfl⟩
  have hE2 : askE C fs clock low 0 1 [] = E := by rw [hE]; exact (bounds_ask C fs clock low).symm
  rw [← hE] at HN ⊢
  simp only [hE2, List.length_nil] at HR
  have HSc : Hid (E = 0 → fs.length ≤ 8) := fun z => by
    have q : C = 0 := by
      rw [z] at hE2
      unfold askE at hE2
      by_cases y : C = 0
      · exact y
      · rw [if_pos y] at hE2; omega
    exact (hC.1.1 q).1.2
  obtain ⟨K, hK⟩ : ∃ K, K = fs.length := ⟨_, rfl⟩
  rw [← hK] at HN HR hb hX
  rw [← hK]
  obtain ⟨z0, z1, z2, z3, z4, z5⟩ := hb X (Below.refl _ _)
  have HX := Lib.hid hX
  have HA := Lib.hid A
  have HK := Lib.hid hK
  have HB := Lib.hid hb
  clear hr hnn hC hX A hK hb hE hE2 hnil
  go_enter Tryz.func67, Tryz.ntmps67
  go_upto_region 1 with fail
  rw [← HX.out]
  clear HX
  go_wp2_with fail
  refine Calls.mono HN.out ?_
  rintro z W1 ⟨b1, h1, h2⟩
  have HB1 := Lib.hid b1
  have HR1 := Lib.hid (HR.out W1 b1)
  clear z0 z1 z2 z3 z4 z5 HR HN
  obtain ⟨z0, z1, z2, z3, z4, z5⟩ := HB.out W1 b1
  clear b1 HB
  by_cases he : E = 0
  · obtain ⟨fb, wb, a', c', rfl, hfb, hwb, hne, sb, wx, of⟩ := h2 he
    have h8 := HSc.out he
    have HQ := Lib.hid (And.intro hfb (And.intro hwb (And.intro hne (And.intro sb (And.intro wx (And.intro of h8))))))
    subst he
    clear h1 h2 hfb hwb hne sb wx of h8 HSc
    go_wp2_with fail
    refine Calls.mono HR1.out ?_
    rintro z W2 ⟨b2, -, h3⟩
    obtain ⟨zs, v, m, rfl, -, hv⟩ := h3 (by trivial)
    obtain ⟨av, cv, ev⟩ := hv.form
    have HB2 := Lib.hid b2
    obtain ⟨N, hN⟩ : ∃ N, N = zs.length := ⟨_, rfl⟩
    rw [← hN] at ev
    subst ev
    clear h3 hv hN HR1 b2 z0 z1 z2 z3 z4 z5
    go_wp2_with (first | (go_at_call 17; refine Calls.mono (num_sym 0 _) ?_; rintro _ _ ⟨rfl, rfl⟩))
    go_ret2
    obtain ⟨hfb, hwb, hne, sb, wx, of, h8⟩ := HQ.out
    rw [HK.out] at wx of
    have hV := heap_new W2 (.cells #[.pointer (some ⟨fb, 0, none⟩), .pointer none, .slice none 0 0, .slice none 0 0, .slice none 0 0, .int .i64 0, .slice none 0 0, .int .i64 0, .int .i64 0, .int .i64 0, .slice none 0 0, .bool false, .int .i64 0, .int .i64 0, .int .i64 0, .int .i64 0, .int .i64 0] 155)
    have BV := HB2.out.alloc HB2.out.size (.cells #[.pointer (some ⟨fb, 0, none⟩), .pointer none, .slice none 0 0, .slice none 0 0, .slice none 0 0, .int .i64 0, .slice none 0 0, .int .i64 0, .int .i64 0, .int .i64 0, .slice none 0 0, .bool false, .int .i64 0, .int .i64 0, .int .i64 0, .int .i64 0, .int .i64 0] 155)
    have sX : w.heap.size ≤ X.heap.size := HA.out.size
    have s1 : X.heap.size ≤ W1.heap.size := HB1.out.size
    have s2 : W1.heap.size ≤ W2.heap.size := HB2.out.size
    have lf := sb.lt
    have lw := wx.lt
    have sbV := sb.later BV
    refine ⟨HA.out.trans ((HB1.out.trans (BV.mono HB1.out.size)).mono HA.out.size), ?_⟩
    refine ⟨W2.heap.size, fb, wb, a', c', rfl, by omega, by omega, by omega, by omega, by omega, hV, ?_⟩
    exact Rest.start (wx.later BV) ⟨of.1, row_low (row_same of.2 (fun k hk => BV.block k (of.2.lt k hk).2)) sX⟩ (by have := BV.size; omega) h8 (TF.start sbV (by have := BV.size; omega)) (Ne.symm hne) ⟨_, 107, sbV, by decide⟩
  · have hz := h1 he
    subst hz
    have b0 : (E != 0) = true := by simp [he]
    have b1 : (E != E) = false := by simp
    have HE := Lib.hid he
    clear h1 h2 HSc
    go_wp2_with fail
    refine Calls.mono HR1.out ?_
    rintro z W2 ⟨b2, h3, -⟩
    have h4 := h3 he
    subst h4
    have HB2 := Lib.hid (HA.out.trans ((HB1.out.trans (b2.mono HB1.out.size)).mono HA.out.size))
    clear h3 HR1 b2 z0 z1 z2 z3 z4 z5 he
    go_wp2_with (first | (go_at_call 17; refine Calls.mono (num_sym E _) ?_; rintro _ _ ⟨rfl, rfl⟩))
    go_ret2
    exact ⟨HB2.out, fun _ => rfl, fun z => absurd z HE.out⟩


end Go.Proofs.YthhkpkfpifllkaaGreat

namespace Go.Proofs.YthhkpkfpifllkaaGreat
open Go.RowKit Go.Maps
set_option linter.unusedVariables false

theorem put_ne {A : Act} {d x : Nat} {v u : Value} (h : x ≠ d) (k : A.tmps[x]?.getD undef = u) : (A.put (some d) v).tmps[x]?.getD undef = u := by
  show (A.tmps.setIfInBounds d v)[x]?.getD undef = u
  rw [Array.getElem?_setIfInBounds_ne (fun z => h z.symm)]
  exact k
theorem put_eq {A : Act} {d n : Nat} {v : Value} (hs : A.tmps.size = n) (h : d < n) : (A.put (some d) v).tmps[d]?.getD undef = v := by
  show (A.tmps.setIfInBounds d v)[d]?.getD undef = v
  rw [Array.getElem?_setIfInBounds_self_of_lt (by omega)]
  rfl
theorem put_sz {A : Act} {d n : Nat} {v : Value} (hs : A.tmps.size = n) : (A.put (some d) v).tmps.size = n := by
  show (A.tmps.setIfInBounds d v).size = n
  rw [Array.size_setIfInBounds]
  exact hs
theorem ev_tmp {A : Act} {x : Nat} {v : Value} (h : A.tmps[x]?.getD undef = v) : A.eval (.tmp x) = v := by simpa [Act.eval] using h
theorem anyE_gen {P : Program} {md : Region.Mode} {ops : Array Oper} {Q : Exit → Act → World → Prop} {S : World → Prop} {E : Nat → Bool} {n : Nat} {l : Array Bool} {a : Act} {w : World} (h : ∀ A0 : Act, A0 = a → AnyE P md ops Q S E n l A0 w) : AnyE P md ops Q S E n l a w := h a rfl
set_option maxRecDepth 100000 in
theorem op_move {a : Act} {w : World} {x : Nat} {v : Value} {d : Option Nat} {ty : TypeId} {ps : String} {af : Array Edge} (hx : a.tmps[x]?.getD undef = v) :
    (execOp a.eval { dst := d, op := Op.move (Operand.tmp x), type := ty, pos := ps, after := af, guard := none }).run Tryz.prog w = .ok (.value v) w := by
  go_simp
set_option maxRecDepth 100000 in
theorem op_nil {a : Act} {w : World} {x g : Nat} {d : Option Nat} {ps : String} {af : Array Edge} (hx : a.tmps[x]?.getD undef = .pointer (some ⟨g, 0, none⟩)) :
    (execOp a.eval { dst := d, op := Op.nilCheck (Operand.tmp x), type := 0, pos := ps, after := af, guard := none }).run Tryz.prog w = .ok (.value (.pointer (some ⟨g, 0, none⟩))) w := by
  go_simp
set_option maxRecDepth 100000 in
theorem op_field0 {a : Act} {w : World} {x g : Nat} {d : Option Nat} {ps : String} {af : Array Edge} (hx : a.tmps[x]?.getD undef = .pointer (some ⟨g, 0, none⟩)) :
    (execOp a.eval { dst := d, op := Op.fieldAddr 37 (Operand.tmp x) 0, type := 0, pos := ps, after := af, guard := none }).run Tryz.prog w = .ok (.value (.pointer (some ⟨g, 0, none⟩))) w := by
  go_simp
set_option maxRecDepth 100000 in
theorem op_loadL {a : Act} {w : World} {x g n c : Nat} {ad : Option Addr} {d : Option Nat} {ps : String} {af : Array Edge} (hx : a.tmps[x]?.getD undef = .pointer (some ⟨g, 0, none⟩)) (h : w.cell? ⟨g, 0, none⟩ = some (.slice ad n c)) :
    (execOp a.eval { dst := d, op := Op.load 28 (Operand.tmp x), type := 28, pos := ps, after := af, guard := none }).run Tryz.prog w = .ok (.value (.slice ad n c)) w := by
  go_simp
set_option maxRecDepth 100000 in
theorem op_loadE {a : Act} {w : World} {x g : Nat} {v0 v1 v2 v3 v4 v5 v6 : Value} {d : Option Nat} {ps : String} {af : Array Edge} (hx : a.tmps[x]?.getD undef = .pointer (some ⟨g, 0, none⟩)) (h0 : w.cell? ⟨g, 0, none⟩ = some v0) (h1 : w.cell? ⟨g, 1, none⟩ = some v1) (h2 : w.cell? ⟨g, 2, none⟩ = some v2) (h3 : w.cell? ⟨g, 3, none⟩ = some v3) (h4 : w.cell? ⟨g, 4, none⟩ = some v4) (h5 : w.cell? ⟨g, 5, none⟩ = some v5) (h6 : w.cell? ⟨g, 6, none⟩ = some v6) :
    (execOp a.eval { dst := d, op := Op.load 84 (Operand.tmp x), type := 84, pos := ps, after := af, guard := none }).run Tryz.prog w = .ok (.value (.agg #[v0, v1, v2, v3, v4, v5, v6])) w := by
  go_simp
set_option maxRecDepth 100000 in
theorem wp_buildE {a : Act} {w : World} {K : Act → World → Prop} {Q : Exit → Act → World → Prop} {p : Nat} {v0 v1 v2 v3 v4 v5 v6 : Value} {d : Option Nat} {ps : String} {af : Array Edge} (hp : a.tmps[p]?.getD undef = .agg #[v0, v1, v2, v3, v4, v5, v6]) (hk : K (a.put d (.slice (some ⟨w.heap.size, 0, none⟩) 1 1)) (w.alloc (.cells #[v0, v1, v2, v3, v4, v5, v6] 84))) :
    Oper.wp Tryz.prog { dst := d, op := Op.buildSlice 28 1 #[(0, Operand.tmp p)], type := 28, pos := ps, after := af, guard := none } a w K Q := by
  go_simp
  exact hk
set_option maxRecDepth 100000 in
theorem wp_nil0 {a : Act} {w : World} {K : Act → World → Prop} {Q : Exit → Act → World → Prop} {x g : Nat} {d : Option Nat} {ps : String} {af : Array Edge} (hx : a.tmps[x]?.getD undef = .pointer (some ⟨g, 0, none⟩)) (hk : K (a.put d (.pointer (some ⟨g, 0, none⟩))) w) :
    Oper.wp Tryz.prog { dst := d, op := Op.nilCheck (Operand.tmp x), type := 0, pos := ps, after := af, guard := none } a w K Q := by
  go_simp
  exact hk
set_option maxRecDepth 100000 in
theorem wp_field0 {a : Act} {w : World} {K : Act → World → Prop} {Q : Exit → Act → World → Prop} {x g : Nat} {d : Option Nat} {ps : String} {af : Array Edge} (hx : a.tmps[x]?.getD undef = .pointer (some ⟨g, 0, none⟩)) (hk : K (a.put d (.pointer (some ⟨g, 0, none⟩))) w) :
    Oper.wp Tryz.prog { dst := d, op := Op.fieldAddr 37 (Operand.tmp x) 0, type := 0, pos := ps, after := af, guard := none } a w K Q := by
  go_simp
  exact hk
set_option maxRecDepth 100000 in
theorem wp_storeL {a : Act} {w : World} {K : Act → World → Prop} {Q : Exit → Act → World → Prop} {p q g n c : Nat} {a' : Option Addr} {y : Value} {ps : String} {af : Array Edge} (hc : w.cell? ⟨g, 0, none⟩ = some y) (hf : w.frozen? ⟨g, 0, none⟩ = false) (hp : a.tmps[p]?.getD undef = .pointer (some ⟨g, 0, none⟩)) (hq : a.tmps[q]?.getD undef = .slice a' n c) (hk : K a (w.setCell ⟨g, 0, none⟩ (.slice a' n c))) :
    Oper.wp Tryz.prog { dst := none, op := Op.store 28 (Operand.tmp p) (Operand.tmp q), type := 0, pos := ps, after := af, guard := none } a w K Q := by
  go_simp
  exact hk
theorem row_formW {w : World} {B n : Nat} {e : TypeId} {v : Value} {xs : List Value} (h : w.ownsRow B e 1 v n xs) : ∃ a c, v = .slice a n c := by
  rcases h.2 with ⟨rfl, h2⟩ | ⟨g, cap, cur, rfl, _⟩
  · exact ⟨none, 0, by rw [h2]⟩
  · exact ⟨_, _, rfl⟩
set_option maxRecDepth 100000 in
theorem wpl_append_w3 {w : World} {ops : Array Oper} {rest : List Oper} {o : Oper} {a : Act} {Q : Exit → Act → World → Prop} (hgd : o.guard = none) (s x : Operand)
    (ho : o.op = .call { callee := .builtin .append, args := #[s, x], argTypes := #[35, 35] })
    (B : Nat) (v : Value) (us : List Value) (hs : a.eval s = v) (hown : w.ownsRow B 82 1 v us.length us)
    (u1 u2 u3 : Value) (h1 : u1.oneCell' = true) (h2 : u2.oneCell' = true) (h3 : u3.oneCell' = true) (hx : a.eval x = .slice (some ⟨w.heap.size, 0, none⟩) 3 3) (hm : us.length + 3 ≤ 5864062014805) (hB : B ≤ w.heap.size)
    (h : ∀ a' c' w', w'.ownsRow B 82 1 (.slice a' (us.length + 3) c') (us.length + 3) (us ++ [u1, u2, u3]) → w.grownBy w' v.ownBlock → wpList Tryz.prog ops Q rest (a.put o.dst (.slice a' (us.length + 3) c')) w') : wpList Tryz.prog ops Q (o :: rest) a (w.alloc (.cells #[u1, u2, u3] 82)) := by
  obtain ⟨i0, hi, hz0, hz1, hz2⟩ := info_parts (show (Tryz.prog.info? 82).map (fun i => (i.zero, i.size, i.bytes)) = some (some (.slice none 0 0), 1, 24) by kernel_rfl)
  refine wpList_append_own_at _ hgd s x 35 ho B 82 i0 (.slice none 0 0) 1 24 (by kernel_rfl) hi hz0 hz1 hz2 rfl (by decide) v us.length us hs (hown.alloc _) ⟨w.heap.size, 0, none⟩ 3 3 [u1, u2, u3] hx rfl (fun j u hj => ?_) (fun u hu => ?_) (by unfold maxLen; omega) (by omega) (by rw [World.size_alloc]; omega) ?_
  · have hn := heap_new w (.cells #[u1, u2, u3] 82)
    have e3 : ((⟨w.heap.size, 0, none⟩ : Addr).add j) = ⟨w.heap.size, j, none⟩ := by
      unfold Addr.add
      by_cases hj : j = 0 <;> simp [hj]
    rw [e3]
    have e2 : (w.alloc (.cells #[u1, u2, u3] 82)).heap[w.heap.size]? = some (.cells #[u1, u2, u3] 82 (0, 0)) := hn
    simp only [World.cell?, e2]
    simpa using hj
  · simp only [List.mem_cons, List.not_mem_nil, or_false] at hu
    rcases hu with rfl | rfl | rfl
    · exact h1
    · exact h2
    · exact h3
  · intro v' w' k1 k2 k3 k4
    obtain ⟨a', c', rfl⟩ := row_formW k1
    exact h a' c' w' k1 ((World.grownBy_alloc w _ _).trans k2)
theorem wide_form {w : World} {B m c : Nat} {a : Option Addr} {bs : List Nat} (h : Own w B (.slice a m c) m (bs ++ wideL)) : ∃ g, a = some ⟨g, 0, none⟩ ∧ m = bs.length + 5 ∧ bs.length + 5 ≤ c := by
  have hm : m = bs.length + 5 := by rw [h.1]; simp [wideL]
  rcases h.2.2 with ⟨h1, h2⟩ | ⟨g, cap, cur, h3, h4, h5, h6, _⟩
  · omega
  · simp only [Value.slice.injEq] at h3
    exact ⟨g, h3.1, hm, by omega⟩
def endE : EntD := ⟨.slice none 0 0, -9, .slice none 0 0, 0, 0, 0, .slice none 0 0, [], [], []⟩
theorem below_of_heap {w w1 w2 : World} {B : Nat} (h : Below B w w1) (hB : B ≤ w1.heap.size) (os : w2.os = w1.os) (tp : w2.tape = w1.tape) (ou : w2.output = w1.output) (sz : w1.heap.size ≤ w2.heap.size) (k : ∀ i, i < w1.heap.size → i < B → w2.heap[i]? = w1.heap[i]?) : Below B w w2 := by
  exact ⟨os.trans h.os, tp.trans h.tape, ou.trans h.output, Nat.le_trans h.size sz, fun i hi => (k i (by omega) hi).trans (h.block i hi)⟩
end Go.Proofs.YthhkpkfpifllkaaGreat
