import Derived.Test.YtlkhphhmhffdjaaK15
import Derived.Deep.DeepAppendRoom
set_option linter.unusedSimpArgs false
set_option linter.unusedVariables false
namespace Go.Proofs.Ytlkhphhmhffdjaa
open Go.RowKit

theorem news_new (w : World) (xs : List Value) (T : TypeId) : ∀ j u, xs[j]? = some u → (w.alloc (.cells xs.toArray T)).cell? ((⟨w.heap.size, 0, none⟩ : Addr).add j) = some u := by
 intro j u hj
 have : (⟨w.heap.size, 0, none⟩ : Addr).add j = ⟨w.heap.size, j, none⟩ := by unfold Addr.add; split <;> simp_all
 rw [this]
 unfold World.cell?
 rw [heap_alloc_new]
 simpa using hj
theorem heap_new (w : World) (o : Obj) : (w.alloc o).heap[w.heap.size]? = some o := by
 show (w.heap.push o)[w.heap.size]? = some o
 simp
theorem rep_bys (n m : Nat) (h : m < 256) : Bys (List.replicate n m) := by intro x hx; rw [List.eq_of_mem_replicate hx]; exact h
theorem own_nil (w : World) (B : Nat) : Own w B (.slice none 0 0) ([] : List Nat).length [] := ⟨rfl, rfl, .inl ⟨rfl, rfl⟩⟩
structure Apart (g : Nat) (w w' : World) : Prop where
 os : w'.os = w.os
 tape : w'.tape = w.tape
 output : w'.output = w.output
 size : w.heap.size ≤ w'.heap.size
 block : ∀ k, k < w.heap.size → k ≠ g → w'.heap[k]? = w.heap[k]?
theorem apart_set (w : World) (g i : Nat) (x : Value) : Apart g w (w.setCell ⟨g, i, none⟩ x) := by
 refine ⟨rfl, rfl, rfl, by simp [World.setCell], fun k hk hg => ?_⟩
 simp [World.setCell, Array.getElem?_modify, Ne.symm hg]
theorem Own.far {w w' : World} {B m : Nat} {v : Value} {o : Option Nat} {xs : List Nat} (h : Own w B v m xs) (k : w.grownBy w' o) (hne : ∀ g, o = some g → v.ownBlock ≠ some g) : Own w' B v m xs := by
 refine ⟨h.1, h.2.1, ?_⟩
 rcases h.2.2 with h2 | ⟨g, cap, cur, h3, h4, h5, h6⟩
 ·exact .inl h2
 ·refine .inr ⟨g, cap, cur, h3, h4, ?_, h6⟩
  rw [k.block g (Array.getElem?_eq_some_iff.1 h5).1 ?_]
  ·exact h5
  ·intro e
   exact hne g e.symm (by rw [h3]; rfl)
theorem drop_cons (l : List Nat) (t : Nat) (h : t < l.length) : l.drop t = l.getD t 0 :: l.drop (t + 1) := by
 rw [List.drop_eq_getElem_cons h]; simp [List.getD, List.getElem?_eq_getElem h]
theorem same_self {a b : Value} {xs : List Nat} {w : World} (ha : Rd w a xs) (hb : Rd w b xs) :
  Calls Try.prog 31 #[a, b] w fun e w' => e = .returned (.bool true) ∧ w' = w := by
 have := same_any ha hb
 rw [decide_eq_true rfl] at this
 exact this
theorem append_keep {w : World} {B n m c : Nat} {v : Value} {xs bs : List Nat} (ty : TypeId) (hown : Own w B v n xs) (ad : Addr) (hm : m = bs.length) (hnews : ∀ j u, (bv bs)[j]? = some u → w.cell? (ad.add j) = some u) (hp : 0 < m) (hbytes : n + m ≤ 140737488355328) (hB : B ≤ w.heap.size) :
  ∃ v' w', (Builtin.append_ #[27, 27] ty #[v, .slice (some ad) m c]).run Try.prog w = .ok v' w' ∧ Own w' B v' (n + m) (xs ++ bs) ∧ w.grownBy w' v.ownBlock ∧ Own w' B v n xs ∧ (v'.ownBlock = v.ownBlock ∨ v'.ownBlock = some w.heap.size) := by
 obtain ⟨i0, hi, hz0, hz1, hz2⟩ := info_parts info_byte
 have hl : (bv bs).length = m * 1 := by simp [bv, hm]
 obtain ⟨v', w', hr, h2, h3, _⟩ := run_append_own (P := Try.prog) w B 27 ty 5 i0 (.int .u8 0) 1 1 und_bytes hi hz0 hz1 hz2 rfl (by decide) v n (bv xs) hown.2 ad m c (bv bs) hl hnews (bv_oneCell bs) (by unfold maxLen; omega) (by omega) hB
 have o2 : Own w' B v' (n + m) (xs ++ bs) := ⟨by rw [hown.1, hm]; simp, by simpa [bv] using h2⟩
 refine ⟨v', w', hr, o2, h3, ?_⟩
 rcases hown.2.2 with ⟨rfl, h0⟩ | ⟨g, cap, cur, rfl, hg1, hg2, hg3, hg4, hg5, hg6⟩
 ·have hx : xs = [] := List.eq_nil_of_length_eq_zero (by rw [← hown.1]; exact h0)
  subst hx h0
  have hr2 := run_append_nil (P := Try.prog) w 27 ty 5 i0 (.int .u8 0) und_bytes hi hz0 ad m c (bv bs) (by rw [hz1]; exact hl) hnews hp (by omega) (by rw [hz2]; omega)
  rw [hr] at hr2
  injection hr2 with e1 e2
  subst e1
  exact ⟨own_nil _ _, .inr rfl⟩
 ·by_cases hroom : n + m ≤ cap
  ·obtain ⟨w2, hr2, k2, _⟩ := run_append_own_spare (P := Try.prog) w B 27 ty 5 i0 1 und_bytes hi hz1 g n cap (bv xs) hown.2 ad m c (bv bs) hl hnews (bv_oneCell bs) hroom
   rw [hr] at hr2
   injection hr2 with e1 e2
   subst e1 e2
   refine ⟨⟨hown.1, hown.2.1, ?_⟩, .inl rfl⟩
   rcases o2.2.2 with ⟨h5, _⟩ | ⟨g2, cap2, cur2, h5, h6, h7, h8, h9, h10, h11⟩
   ·cases h5
   ·simp only [Value.slice.injEq, Option.some.injEq] at h5
    obtain ⟨e3, _, rfl⟩ := h5
    obtain rfl : g = g2 := by injection e3
    refine .inr ⟨g, cap, cur2, rfl, h6, h7, hg3, hg4, h10, ?_⟩
    have e4 : cur2.toList.take (n * 1) = (cur2.toList.take ((n + m) * 1)).take (n * 1) := by
     rw [List.take_take, Nat.min_eq_left (by omega)]
    rw [e4, h11, bv_append, List.take_append_of_le_length (by rw [bv_length, ← hown.1]; omega), List.take_of_length_le (by rw [bv_length, ← hown.1]; omega)]
  ·have holds : ∀ j u, (bv xs)[j]? = some u → w.cell? ((⟨g, 0, none⟩ : Addr).add j) = some u := hown.2.cells (g := g) rfl
   have hr2 := run_append_grow (P := Try.prog) w 27 ty 5 i0 (.int .u8 0) und_bytes hi hz0 ⟨g, 0, none⟩ n cap (bv xs) (by rw [hz1, bv_length, ← hown.1]; omega) holds ad m c (bv bs) (by rw [hz1]; exact hl) hnews (by omega) (by omega) (by rw [hz2]; exact growslice_fits (by omega) (by omega))
   rw [hr] at hr2
   injection hr2 with e1 e2
   subst e1
   refine ⟨?_, .inr rfl⟩
   refine ⟨hown.1, hown.2.1, .inr ⟨g, cap, cur, rfl, hg1, ?_, hg3, hg4, hg5, hg6⟩⟩
   rw [e2, heap_alloc_old w.drew _ (Array.getElem?_eq_some_iff.1 hg2).1]
   exact hg2
def Keeps (mk : Nat) (w w' : World) : Prop := ∀ p : Addr, w.cell? p = some (.int .u8 (mk : Int)) → w'.cell? p = some (.int .u8 (mk : Int))
theorem Keeps.trans {mk : Nat} {a b c : World} (h : Keeps mk a b) (k : Keeps mk b c) : Keeps mk a c := fun p hp => k p (h p hp)
theorem Keeps.alloc (mk : Nat) (w : World) (o : Obj) : Keeps mk w (w.alloc o) := fun p hp => by
 have hb : Below w.heap.size w (w.alloc o) := (Below.refl _ _).alloc (Nat.le_refl _) o
 rw [hb.cell (World.block_lt_of_cell? w _ hp)]; exact hp
theorem Keeps.below {mk : Nat} {w w' : World} (hb : Below w.heap.size w w') : Keeps mk w w' := fun p hp => by
 rw [hb.cell (World.block_lt_of_cell? w _ hp)]; exact hp
theorem Keeps.rd {mk k : Nat} {w w' : World} {v : Value} (h : Keeps mk w w') (hr : Rd w v (List.replicate k mk)) : Rd w' v (List.replicate k mk) := by
 obtain ⟨h1, a, cap, h2, h3, h4, h5, h6, h7⟩ := hr
 refine ⟨h1, a, cap, h2, h3, h4, h5, h6, ?_⟩
 rcases h7 with h7 | ⟨b, off, rfl, hc⟩
 ·exact .inl h7
 ·refine .inr ⟨b, off, rfl, fun i hi => ?_⟩
  have e : (List.replicate k mk).getD i 0 = mk := by
   have hi2 : i < k := by simpa using hi
   simp [List.getD, hi2]
  have := hc i hi
  rw [e] at this ⊢
  exact h _ this
theorem grown_trans {a b c : World} {o p : Option Nat} (h : a.grownBy b o) (k : b.grownBy c p) (hp : p = o ∨ ∀ g, p = some g → a.heap.size ≤ g) : a.grownBy c o :=
 ⟨k.os.trans h.os, k.tape.trans h.tape, k.output.trans h.output, Nat.le_trans h.size k.size, fun i hi hne => by
  rw [k.block i (Nat.lt_of_lt_of_le hi h.size) ?_, h.block i hi hne]
  rcases hp with rfl | hp
  ·exact hne
  ·intro e
   have := hp i e.symm
   omega⟩
theorem grown_alloc (w : World) (o : Obj) (p : Option Nat) : w.grownBy (w.alloc o) p := ⟨rfl, rfl, rfl, by simp, fun k hk _ => by
 have hb : Below w.heap.size w (w.alloc o) := (Below.refl _ _).alloc (Nat.le_refl _) o
 exact hb.block k hk⟩
theorem grown_below {w w' : World} (h : Below w.heap.size w w') (p : Option Nat) : w.grownBy w' p := ⟨h.os, h.tape, h.output, h.size, fun k hk _ => h.block k hk⟩
theorem append_marks {w w' : World} {B n m c mk : Nat} {v v' : Value} {xs : List Nat} (ty : TypeId) (hown : Own w B v n xs) (ad : Addr) (hnews : ∀ j u, (bv (List.replicate m mk))[j]? = some u → w.cell? (ad.add j) = some u) (hp : 0 < m) (hbytes : n + m ≤ 140737488355328)
  (hr : (Builtin.append_ #[27, 27] ty #[v, .slice (some ad) m c]).run Try.prog w = .ok v' w') : Keeps mk w w' := by
 obtain ⟨i0, hi, hz0, hz1, hz2⟩ := info_parts info_byte
 have hl : (bv (List.replicate m mk)).length = m * 1 := by simp [bv]
 rcases hown.2.2 with ⟨rfl, h0⟩ | ⟨g, cap, cur, rfl, hg1, hg2, hg3, hg4, hg5, hg6⟩
 ·have hx : xs = [] := List.eq_nil_of_length_eq_zero (by rw [← hown.1]; exact h0)
  subst hx h0
  have hr2 := run_append_nil (P := Try.prog) w 27 ty 5 i0 (.int .u8 0) und_bytes hi hz0 ad m c _ (by rw [hz1]; exact hl) hnews hp (by omega) (by rw [hz2]; omega)
  rw [hr] at hr2
  injection hr2 with e1 e2
  rw [e2]
  exact Keeps.below (((Below.refl w.heap.size w).drew).alloc (Nat.le_refl _) _)
 ·by_cases hroom : n + m ≤ cap
  ·have hfit : n * i0.size + (bv (List.replicate m mk)).length ≤ cur.size := by rw [hz1, hl, hg5]; omega
   have hr2 := run_append_room (P := Try.prog) w 27 ty 5 i0 und_bytes hi g n cap cur hg2 ad m c _ (by rw [hz1]; exact hl) hnews (bv_oneCell _) hroom hfit
   rw [hr] at hr2
   injection hr2 with e1 e2
   rw [e2]
   intro p hc
   obtain ⟨pb, po, ps⟩ := p
   obtain rfl : ps = none := World.cell?_spot hc
   by_cases hb : pb = g
   ·subst hb
    rw [cell_setRow_same w pb po cur _ _ _ hg2]
    have hcur : cur[po]? = some (.int .u8 (mk : Int)) := by simpa [World.cell?, hg2] using hc
    have hlt : po < cur.size := (Array.getElem?_eq_some_iff.1 hcur).1
    have hcl : cur.toList[po]? = some (.int .u8 (mk : Int)) := by simpa using hcur
    simp only [hz1, Nat.mul_one, List.getElem?_toArray, hl] at *
    by_cases h1 : po < n
    ·rw [List.append_assoc, List.getElem?_append_left (by simp; omega), List.getElem?_take_of_lt h1]
     exact hcl
    ·by_cases h2 : po < n + m
     ·rw [List.getElem?_append_left (by simp [bv]; omega), List.getElem?_append_right (by simp; omega)]
      have e : (List.take n cur.toList).length = n := by simp; omega
      rw [e]
      simp [bv, List.getElem?_replicate]
      omega
     ·rw [List.getElem?_append_right (by simp [bv]; omega), List.getElem?_drop]
      have e : n + m + (po - (List.take n cur.toList ++ bv (List.replicate m mk)).length) = po := by simp [bv]; omega
      rw [e]
      exact hcl
   ·rw [cell_setRow_other w g _ ⟨pb, po, none⟩ hb]
    exact hc
  ·have holds : ∀ j u, (bv xs)[j]? = some u → w.cell? ((⟨g, 0, none⟩ : Addr).add j) = some u := hown.2.cells (g := g) rfl
   have hr2 := run_append_grow (P := Try.prog) w 27 ty 5 i0 (.int .u8 0) und_bytes hi hz0 ⟨g, 0, none⟩ n cap (bv xs) (by rw [hz1, bv_length, ← hown.1]; omega) holds ad m c _ (by rw [hz1]; exact hl) hnews (by omega) (by omega) (by rw [hz2]; exact growslice_fits (by omega) (by omega))
   rw [hr] at hr2
   injection hr2 with e1 e2
   rw [e2]
   exact Keeps.below (((Below.refl w.heap.size w).drew).alloc (Nat.le_refl _) _)
theorem wpList_append_mark {w : World} {ops : Array Oper} {rest : List Oper} {o : Oper} {a : Act} {Q : Exit → Act → World → Prop} (hgd : o.guard = none) (s x : Operand)
  (ho : o.op = .call { callee := .builtin .append, args := #[s, x], argTypes := #[27, 27] })
  (B : Nat) (a0 : Option Addr) (m0 c0 mk : Nat) (acc : List Nat) (hs : a.eval s = .slice a0 m0 c0) (hown : Own w B (.slice a0 m0 c0) m0 acc)
  (vs : List Value) (m : Nat) (hx : a.eval x = .slice (some ⟨w.heap.size, 0, none⟩) m m) (hvs : vs = bv (List.replicate m mk)) (hp : 0 < m)
  (hbytes : m0 + m ≤ 140737488355328) (hB : B ≤ w.heap.size)
  (h : ∀ a' m' c' w', Hid (m' = m0 + m) → Own w' B (.slice a' m' c') m' (acc ++ List.replicate m mk) → w.grownBy w' (Value.slice a0 m0 c0).ownBlock → Own w' B (.slice a0 m0 c0) m0 acc → ((Value.slice a' m' c').ownBlock = (Value.slice a0 m0 c0).ownBlock ∨ ∀ g, (Value.slice a' m' c').ownBlock = some g → w.heap.size ≤ g) → Keeps mk w w' → wpList Try.prog ops Q rest (a.put o.dst (.slice a' m' c')) w') : wpList Try.prog ops Q (o :: rest) a (w.alloc (.cells vs.toArray 5)) := by
 subst hvs
 have ho2 : Own (w.alloc (.cells (bv (List.replicate m mk)).toArray 5)) B (.slice a0 m0 c0) m0 acc := ⟨hown.1, hown.2.alloc _⟩
 obtain ⟨v', w', hr, h1, h2, h3, h4⟩ := append_keep (w := w.alloc (.cells (bv (List.replicate m mk)).toArray 5)) (B := B) (c := m) (bs := List.replicate m mk) o.type ho2 ⟨w.heap.size, 0, none⟩ (by simp) (news_new _ _ _) hp hbytes (by simp; omega)
 have hk := append_marks o.type ho2 ⟨w.heap.size, 0, none⟩ (news_new _ _ _) hp hbytes hr
 obtain ⟨a', c', rfl⟩ := own_form h1.2
 refine wpList_plain hgd fun K hK => ?_
 unfold Oper.wp execOp
 simp only [ho, resolve, invoke, builtin, Sem.run_bind, Sem.run_pure, Result.andThen_ok, List.map_toArray, List.map_cons, List.map_nil, hs, hx, hr]
 refine hK _ _ (h a' _ c' w' (by unfold Hid; rfl) h1 (grown_trans (grown_alloc w _ _) h2 (.inl rfl)) h3 ?_ ((Keeps.alloc mk w _).trans hk))
 rcases h4 with h4 | h4
 ·exact .inl h4
 ·refine .inr fun g hg => ?_
  rw [h4] at hg
  simp at hg
  omega
def Near (w : World) (l u : Value) : Prop := u.ownBlock = l.ownBlock ∨ ∀ g, u.ownBlock = some g → w.heap.size ≤ g
theorem Near.on {w w' : World} {l u v : Value} (h : Near w l u) (k : v.ownBlock = u.ownBlock ∨ ∀ g, v.ownBlock = some g → w'.heap.size ≤ g) (hs : w.heap.size ≤ w'.heap.size) : Near w l v := by
 rcases k with k | k
 ·rcases h with h | h
  ·exact .inl (k.trans h)
  ·exact .inr fun g hg => h g (by rw [← k]; exact hg)
 ·exact .inr fun g hg => Nat.le_trans hs (k g hg)
theorem bv_at (L : List Nat) (t : Nat) (h : t < L.length) : (bv L)[t]? = some (.int .u8 ((L.getD t 0 : Nat) : Int)) := by
 simp [bv, List.getD, List.getElem?_eq_getElem h]
theorem fill_set {mk t : Nat} {xs : List Nat} (h : t < xs.length) : (List.replicate t mk ++ xs.drop t).set t mk = List.replicate (t + 1) mk ++ xs.drop (t + 1) := by
 rw [List.set_append_right _ _ (by simp), drop_cons xs t h]
 simp [List.replicate_succ']
def RowS (w : World) (B : Nat) (v : Value) (n : Nat) (vs : List Value) : Prop := n = vs.length ∧ (∀ u ∈ vs, u.oneCell' = true) ∧ w.ownsRow B 27 1 v n vs
theorem RowS.later {w w' : World} {B n : Nat} {v : Value} {vs : List Value} (h : RowS w B v n vs) (hb : Below w.heap.size w w') : RowS w' B v n vs := by
 refine ⟨h.1, h.2.1, h.2.2.1, ?_⟩
 rcases h.2.2.2 with h2 | ⟨g, cap, cur, h3, h4, h5, h6⟩
 ·exact .inl h2
 ·exact .inr ⟨g, cap, cur, h3, h4, by rw [hb.block g (Array.getElem?_eq_some_iff.1 h5).1]; exact h5, h6⟩
theorem rows_form {w : World} {B n : Nat} {v : Value} {xs : List Value} (h : w.ownsRow B 27 1 v n xs) : ∃ a c, v = .slice a n c := by
 rcases h.2 with ⟨rfl, rfl⟩ | ⟨g, cap, cur, rfl, _⟩
 ·exact ⟨_, _, rfl⟩
 ·exact ⟨_, _, rfl⟩
theorem info_parts1 : (Try.prog.info? 27).map (fun i => (i.zero, i.size, i.bytes)) = some (some (.slice none 0 0), 1, 24) := by kernel_rfl
theorem append_row {w : World} {B n : Nat} {v u : Value} {vs : List Value} (ty : TypeId) (hown : RowS w B v n vs) (hu : u.oneCell' = true) (hbytes : n + 1 ≤ 41943040) (hB : B ≤ w.heap.size) :
  ∃ v' w', (Builtin.append_ #[33, 33] ty #[v, .slice (some ⟨w.heap.size, 0, none⟩) 1 1]).run Try.prog (w.alloc (.cells #[u] 27)) = .ok v' w' ∧ RowS w' B v' (n + 1) (vs ++ [u]) ∧ w.grownBy w' v.ownBlock ∧ (v'.ownBlock = v.ownBlock ∨ ∀ g, v'.ownBlock = some g → w.heap.size ≤ g) := by
 obtain ⟨i0, hi, hz0, hz1, hz2⟩ := info_parts info_parts1
 obtain ⟨W, hW⟩ : ∃ W, W = w.alloc (.cells #[u] 27) := ⟨_, rfl⟩
 have hsW : W.heap.size = w.heap.size + 1 := by rw [hW]; simp
 have hnews : ∀ j x, ([u] : List Value)[j]? = some x → W.cell? ((⟨w.heap.size, 0, none⟩ : Addr).add j) = some x := by
  intro j x hj
  have hh : W.heap[w.heap.size]? = some (.cells #[u] 27) := by rw [hW]; exact heap_new w _
  cases j with
  | zero =>
   simp at hj
   subst hj
   simp [World.cell?, Addr.add, hh]
  | succ j => simp at hj
 have hownW : W.ownsRow B 27 1 v n vs := by rw [hW]; exact hown.2.2.alloc _
 have h1 : ∀ x ∈ ([u] : List Value), x.oneCell' = true := by intro x hx; simp at hx; subst hx; exact hu
 obtain ⟨v', w', hr, h2, h3, _⟩ := run_append_own (P := Try.prog) W B 33 ty 27 i0 (.slice none 0 0) 1 24 und_parts hi hz0 hz1 hz2 rfl (by decide) v n vs hownW ⟨w.heap.size, 0, none⟩ 1 1 [u] (by simp) hnews h1 (by unfold maxLen; omega) (by omega) (by omega)
 have o2 : RowS w' B v' (n + 1) (vs ++ [u]) := ⟨by rw [hown.1]; simp, fun x hx => by rcases List.mem_append.1 hx with h | h; exact hown.2.1 x h; exact h1 x h, h2⟩
 have g2 : w.grownBy w' v.ownBlock := grown_trans (by rw [hW]; exact grown_alloc w _ _) h3 (.inl rfl)
 rw [hW] at hr
 refine ⟨v', w', hr, o2, g2, ?_⟩
 rw [← hW] at hr
 rcases hownW.2 with ⟨rfl, h0⟩ | ⟨g, cap, cur, rfl, hg1, hg2, hg3, hg4, hg5, hg6⟩
 ·subst h0
  have hr2 := run_append_nil (P := Try.prog) W 33 ty 27 i0 (.slice none 0 0) und_parts hi hz0 ⟨w.heap.size, 0, none⟩ 1 1 [u] (by rw [hz1]; simp) hnews (by decide) (by decide) (by rw [hz2]; decide)
  rw [hr] at hr2
  injection hr2 with e1 e2
  subst e1
  refine .inr fun g hg => ?_
  simp [Value.ownBlock] at hg
  omega
 ·by_cases hroom : n + 1 ≤ cap
  ·obtain ⟨w2, hr2, k2, _⟩ := run_append_own_spare (P := Try.prog) W B 33 ty 27 i0 1 und_parts hi hz1 g n cap vs hownW ⟨w.heap.size, 0, none⟩ 1 1 [u] (by simp) hnews h1 hroom
   rw [hr] at hr2
   injection hr2 with e1 e2
   subst e1
   exact .inl rfl
  ·have holds : ∀ j x, vs[j]? = some x → W.cell? ((⟨g, 0, none⟩ : Addr).add j) = some x := hownW.cells (g := g) rfl
   have hr2 := run_append_grow (P := Try.prog) W 33 ty 27 i0 (.slice none 0 0) und_parts hi hz0 ⟨g, 0, none⟩ n cap vs (by rw [hz1, ← hown.1]; omega) holds ⟨w.heap.size, 0, none⟩ 1 1 [u] (by rw [hz1]; simp) hnews (by omega) (by omega) (by rw [hz2]; exact growslice_fits (by omega) (by omega))
   rw [hr] at hr2
   injection hr2 with e1 e2
   subst e1
   refine .inr fun x hx => ?_
   simp [Value.ownBlock] at hx
   omega
theorem wpList_append_one {w : World} {ops : Array Oper} {rest : List Oper} {o : Oper} {a : Act} {Q : Exit → Act → World → Prop} (hgd : o.guard = none) (s x : Operand)
  (ho : o.op = .call { callee := .builtin .append, args := #[s, x], argTypes := #[33, 33] })
  (B : Nat) (a0 : Option Addr) (m0 c0 : Nat) (vs : List Value) (hs : a.eval s = .slice a0 m0 c0) (hown : RowS w B (.slice a0 m0 c0) m0 vs)
  (u : Value) (hu : u.oneCell' = true) (hx : a.eval x = .slice (some ⟨w.heap.size, 0, none⟩) 1 1)
  (hbytes : m0 + 1 ≤ 41943040) (hB : B ≤ w.heap.size)
  (h : ∀ a' c' w', RowS w' B (.slice a' (m0 + 1) c') (m0 + 1) (vs ++ [u]) → w.grownBy w' (Value.slice a0 m0 c0).ownBlock → ((Value.slice a' (m0 + 1) c').ownBlock = (Value.slice a0 m0 c0).ownBlock ∨ ∀ g, (Value.slice a' (m0 + 1) c').ownBlock = some g → w.heap.size ≤ g) → wpList Try.prog ops Q rest (a.put o.dst (.slice a' (m0 + 1) c')) w') : wpList Try.prog ops Q (o :: rest) a (w.alloc (.cells #[u] 27)) := by
 obtain ⟨v', w', hr, h1, h2, h3⟩ := append_row o.type hown hu hbytes hB
 obtain ⟨a', c', rfl⟩ := rows_form h1.2.2
 refine wpList_plain hgd fun K hK => ?_
 unfold Oper.wp execOp
 simp only [ho, resolve, invoke, builtin, Sem.run_bind, Sem.run_pure, Result.andThen_ok, List.map_toArray, List.map_cons, List.map_nil, hs, hx, hr]
 exact hK _ _ (h a' c' w' h1 h2 h3)
theorem row_own {w : World} {B B' m n g : Nat} {u v : Value} {vs : List Value} {xs : List Nat} (h : RowS w B u m vs) (o : Own w B' v n xs) (hu : u.ownBlock = some g) : v.ownBlock ≠ some g := by
 intro hv
 rcases h.2.2.2 with ⟨h1, _⟩ | ⟨g2, cap, cur, h3, _, h5, _⟩
 ·rw [h1] at hu; cases hu
 ·rcases o.2.2 with ⟨k1, _⟩ | ⟨g4, cap4, cur4, k3, _, k5, _⟩
  ·rw [k1] at hv; cases hv
  ·rw [h3] at hu
   rw [k3] at hv
   simp only [Value.ownBlock, Option.some.injEq] at hu hv
   subst hu hv
   rw [h5] at k5
   simp at k5
theorem RowS.far {w w' : World} {B m : Nat} {v : Value} {o : Option Nat} {vs : List Value} (h : RowS w B v m vs) (k : w.grownBy w' o) (hne : ∀ g, o = some g → v.ownBlock ≠ some g) : RowS w' B v m vs := by
 refine ⟨h.1, h.2.1, h.2.2.1, ?_⟩
 rcases h.2.2.2 with h2 | ⟨g, cap, cur, h3, h4, h5, h6⟩
 ·exact .inl h2
 ·refine .inr ⟨g, cap, cur, h3, h4, ?_, h6⟩
  rw [k.block g (Array.getElem?_eq_some_iff.1 h5).1 ?_]
  ·exact h5
  ·intro e
   exact hne g e.symm (by rw [h3]; rfl)
theorem set_grown (w : World) (g i : Nat) (x : Value) : w.grownBy (w.setCell ⟨g, i, none⟩ x) (some g) := by
 have a := apart_set w g i x
 exact ⟨a.os, a.tape, a.output, a.size, fun j hj hne => a.block j hj (fun e => hne (by rw [e]))⟩

end Go.Proofs.Ytlkhphhmhffdjaa

namespace Go.Proofs.Ytlkhphhmhffdjaa
open Go.RowKit Go.MapKept Go.Sort
variable {w w' W X : World} {O O' : Nat → Prop} {dB : Nat} {d r : Dk4}
set_option maxRecDepth 100000 in
set_option maxHeartbeats 8000000 in
theorem flip4_any {s : ByteArray} {x : Int} (hD : Dsk w O dB d) (hx : x ≤ 9223372036854775807) : Calls Try.prog 65 #[.pointer (some ⟨dB, 0, none⟩), .string s, .int .i64 x] w fun e w' => e = .returned (.int .i64 (flipD d s x).1) ∧ Dsk w' O dB (flipD d s x).2 ∧ Go4 w w' O O := by
 have HD := Lib.hid hD
 obtain ⟨ok, mb, fl, hM, hfl⟩ := hD
 obtain ⟨R, hR⟩ : ∃ R, R = flipD d s x := ⟨_, rfl⟩
 rw [← hR]
 unfold flipD at hR
 have b1 := (Below.refl w.heap.size w).alloc (Nat.le_refl _) (.cells #[.string s] 9)
 have r1 := rdN1 w s
 obtain ⟨W1, hW1⟩ : ∃ W, W = w.alloc (.cells #[.string s] 9) := ⟨_, rfl⟩
 rw [← hW1] at b1 r1
 have HC := Lib.hid (checkNames_any r1)
 simp only [List.length_cons, List.length_nil, Nat.zero_add] at HC
 have hM1 := hM.below b1
 obtain ⟨es, clock, hm⟩ := hM1.map
 have HF := Lib.hid (dfind_any hM1.box hm s)
 have hat := atF_pf s fl
 rw [hfl] at hat
 have hnb := atF_nb s fl
 obtain ⟨q, hq⟩ : ∃ q, q = chkN [s] := ⟨_, rfl⟩
 rw [← hq] at HC hR
 have HW := Lib.hid hW1
 have HB := Lib.hid b1
 have HM := Lib.hid (And.intro hM1 (And.intro ok hfl))
 clear hM hM1 hm b1 r1 hW1 hq ok hfl
 by_cases h0 : q = 0
 ·subst h0
  rw [if_neg (by simp)] at hR
  cases hf : atF fl s with
  | none =>
   have h1 : atP d.fs s = none := by rw [hat, hf]; rfl
   rw [h1] at hR
   have h2 : atN (fl.map FE.nb) s = none := by rw [hnb, hf]; rfl
   have HF2 := HF.out
   have e3 : fl.map FE.nb = fl.map (fun f => (f.nm, f.b)) := rfl
   rw [e3] at h2
   rw [h2] at HF2
   simp only [Option.isSome_none, Bool.false_eq_true, if_false, ptrO, Option.map_none] at HF2
   have HF3 := Lib.hid HF2
   simp only at hR
   subst hR
   clear HF HF2 hat hnb hf h1 h2 e3
   go_enter Try.func65, Try.ntmps65
   go_wp2_with fail
   rw [← HW.out]
   refine HC.out.mono ?_
   rintro e w2 ⟨rfl, rfl⟩
   go_wp2_with fail
   refine HF3.out.mono ?_
   rintro e w3 ⟨rfl, rfl⟩
   go_wp2
   go_ret
   exact ⟨rfl, HD.out.below HB.out, Go4.of_below HB.out⟩
  | some f =>
   have h1 : atP d.fs s = some (f.dat, f.syn) := by rw [hat, hf]; rfl
   rw [h1] at hR
   simp only at hR
   have h2 : atN (fl.map FE.nb) s = some f.b := by rw [hnb, hf]; rfl
   have HF2 := HF.out
   have e3 : fl.map FE.nb = fl.map (fun f => (f.nm, f.b)) := rfl
   rw [e3] at h2
   rw [h2] at HF2
   simp only [Option.isSome_some, if_true, ptrO, Option.map_some] at HF2
   have HF3 := Lib.hid HF2
   clear HF HF2 hat hnb h2 e3
   have hmf := atF_mem hf
   have hnm := hmf.2
   have hfil := HM.out.1.fil f hmf.1
   obtain ⟨a, cv, hv⟩ := hfil.2.1.form
   have bx0 := hfil.1
   rw [hv] at bx0
   obtain ⟨n, hn⟩ : ∃ n, n = f.dat.length := ⟨_, rfl⟩
   rw [← hn] at bx0 hR hv
   obtain ⟨fb, hfb⟩ : ∃ fb, fb = f.b := ⟨_, rfl⟩
   rw [← hfb] at HF3 bx0
   have c0 := bx0.cells.1
   have hnx : n ≤ 67108864 := by
    have h1' := totP_mem h1
    have h2 := HM.out.2.1.tot
    have h3 := HM.out.2.1.cap1
    simp only at h1'
    omega
   have HFX := Lib.hid (And.intro hfil (And.intro hv (And.intro hn (And.intro hf h1))))
   have HFB := Lib.hid (And.intro hfb hnm)
   have HR := Lib.hid hR
   clear hfil hv hn hf h1 hR bx0 hmf hfb hnm
   by_cases x0 : x < 0
   ·have hR := HR.out
    rw [if_pos (.inl x0)] at hR
    subst hR
    go_enter Try.func65, Try.ntmps65
    go_wp2_with fail
    rw [← HW.out]
    refine HC.out.mono ?_
    rintro e w2 ⟨rfl, rfl⟩
    go_wp2_with fail
    refine HF3.out.mono ?_
    rintro e w3 ⟨rfl, rfl⟩
    go_wp2
    go_ret
    exact ⟨rfl, HD.out.below HB.out, Go4.of_below HB.out⟩
   ·obtain ⟨jb, hjb⟩ : ∃ jb : Nat, x = jb := ⟨x.toNat, by omega⟩
    subst hjb
    by_cases x1 : (n : Int) ≤ (jb : Int) / 8
    ·have hR := HR.out
     rw [if_pos (.inr x1)] at hR
     subst hR
     go_enter Try.func65, Try.ntmps65
     go_wp2_with fail
     rw [← HW.out]
     refine HC.out.mono ?_
     rintro e w2 ⟨rfl, rfl⟩
     go_wp2_with fail
     refine HF3.out.mono ?_
     rintro e w3 ⟨rfl, rfl⟩
     go_wp2
     go_ret
     exact ⟨rfl, HD.out.below HB.out, Go4.of_below HB.out⟩
    ·have hR := HR.out
     rw [if_neg (by omega)] at hR
     have k1 : (0 : Int) ≤ (jb : Int) / 8 := by omega
     have k2 : (jb : Int) / 8 < (n : Int) := by omega
     have hlt : jb / 8 < n := by omega
     have hgv : ∃ gv, a = some ⟨gv, 0, none⟩ := by
      have ho := HFX.out.1.2.1.own
      rw [HFX.out.2.1] at ho
      rcases ho.2 with ⟨h1, h2⟩ | ⟨g, cap, cur, h1, _⟩
      ·have := HFX.out.2.2.1
       simp only [Value.slice.injEq] at h1
       omega
      ·simp only [Value.slice.injEq] at h1
       exact ⟨g, h1.1⟩
     obtain ⟨gv, hgv⟩ := hgv
     subst hgv
     have ho := HFX.out.1.2.1.own
     rw [HFX.out.2.1, ← HFX.out.2.2.1] at ho
     have hy : ∃ y : Nat, y = f.dat.getD (jb / 8) 0 := ⟨_, rfl⟩
     obtain ⟨y, hy⟩ := hy
     have cy : W1.cell? ⟨gv, jb / 8, none⟩ = some (.int .u8 (y : Int)) := by
      rw [ho.cellAt (jb / 8) (by omega), hy]
      exact bv_at _ _ (by rw [← HFX.out.2.2.1]; exact hlt)
     have fz := ho.frozenAt (jb / 8)
     have hyl : y < 256 := by
      rw [hy, List.getD_eq_getElem?_getD, List.getElem?_eq_getElem (by rw [← HFX.out.2.2.1]; exact hlt)]
      exact HFX.out.1.2.1.bys _ (List.getElem_mem _)
     have hval := xor_bit4 y jb hyl
     have HY := Lib.hid (And.intro hy (And.intro hyl hval))
     have HR2 := Lib.hid hR
     have w8 : IntKind.i64.wrap ((jb : Int) / 8) = (jb : Int) / 8 := IntWalk.i64_in _ ⟨by omega, by omega⟩
     have t8 : (jb : Int).tmod 8 = (jb : Int) % 8 := Int.tmod_eq_emod_of_nonneg (by omega)
     have s8 : IntKind.u8.wrap (2 ^ ((jb : Int) % 8).toNat) = 2 ^ (jb % 8) % 256 := by
      have e8 : ((jb : Int) % 8).toNat = jb % 8 := by omega
      rw [e8]
      first | rfl | (simp [IntKind.wrap]) | (unfold IntKind.wrap; rfl)
     have W8 := Lib.hid (And.intro w8 (And.intro t8 s8))
     clear w8 t8 s8
     clear ho hy hyl hval hR
     go_enter Try.func65, Try.ntmps65
     go_wp2_with fail
     rw [← HW.out]
     refine HC.out.mono ?_
     rintro e w2 ⟨rfl, rfl⟩
     go_wp2_with fail
     refine HF3.out.mono ?_
     rintro e w3 ⟨rfl, rfl⟩
     go_upto_region 9 with fail
     have BD : Below w3.heap.size w3 w3.drew := (Below.refl _ _).drew
     refine wp_region_noPanic ?_
     refine wp_region_anyE (S := fun wx => wx.cell? ⟨fb, 0, none⟩ = some (.slice (some ⟨gv, 0, none⟩) n cv) ∧ wx.cell? ⟨gv, jb / 8, none⟩ = some (.int .u8 (y : Int))) (E := fun j => !(decide (j = 13))) (by kernel_rfl) ?_
     have hHeld : (fun wx : World => wx.cell? ⟨fb, 0, none⟩ = some (.slice (some ⟨gv, 0, none⟩) n cv) ∧ wx.cell? ⟨gv, jb / 8, none⟩ = some (.int .u8 (y : Int))) w3.drew := ⟨(BD.cell (World.block_lt_of_cell? _ _ c0)).trans c0, (BD.cell (World.block_lt_of_cell? _ _ cy)).trans cy⟩
     have HBD := Lib.hid BD
     have MD := Lib.hid (HM.out.1.below BD)
     have zz := (BD.frozen (p := ⟨gv, jb / 8, none⟩) (World.block_lt_of_cell? _ _ cy)).trans fz
     have hZ0 : ∃ z, z = w3.drew := ⟨_, rfl⟩
     obtain ⟨Z0, hZ0⟩ := hZ0
     rw [← hZ0] at HBD MD hHeld zz ⊢
     clear hZ0 BD c0 cy fz
     refine AnyE.take (i := 0) (.pointer (some ⟨fb, 0, none⟩)) rfl (by kernel_rfl) (by kernel_rfl) (by kernel_rfl) (by kernel_rfl) (fun _ _ _ h => h) (.inl ⟨by kernel_rfl, fun wy hy => by (go_simp; done)⟩) hHeld ?_
     try simp only [Act.put, List.setIfInBounds_toArray, List.set_cons_zero, List.set_cons_succ]
     refine AnyE.take (i := 1) (.pointer (some ⟨fb, 0, none⟩)) rfl (by kernel_rfl) (by kernel_rfl) (by kernel_rfl) (by kernel_rfl) (fun _ _ _ h => h) (.inl ⟨by kernel_rfl, fun wy hy => by (go_simp; done)⟩) hHeld ?_
     try simp only [Act.put, List.setIfInBounds_toArray, List.set_cons_zero, List.set_cons_succ]
     refine AnyE.take (i := 2) (.pointer (some ⟨fb, 0, none⟩)) rfl (by kernel_rfl) (by kernel_rfl) (by kernel_rfl) (by kernel_rfl) (fun _ _ _ h => h) (.inl ⟨by kernel_rfl, fun wy hy => by (go_simp; done)⟩) hHeld ?_
     try simp only [Act.put, List.setIfInBounds_toArray, List.set_cons_zero, List.set_cons_succ]
     refine AnyE.take (i := 3) (.slice (some ⟨gv, 0, none⟩) n cv) rfl (by kernel_rfl) (by kernel_rfl) (by kernel_rfl) (by kernel_rfl) (fun _ _ _ h => h) (.inl ⟨by kernel_rfl, fun wy hy => by (have q0 := hy.1; go_simp; done)⟩) hHeld ?_
     try simp only [Act.put, List.setIfInBounds_toArray, List.set_cons_zero, List.set_cons_succ]
     refine AnyE.take (i := 4) (.int .i64 (jb : Int)) rfl (by kernel_rfl) (by kernel_rfl) (by kernel_rfl) (by kernel_rfl) (fun _ _ _ h => h) (.inl ⟨by kernel_rfl, fun wy hy => by (go_simp; done)⟩) hHeld ?_
     try simp only [Act.put, List.setIfInBounds_toArray, List.set_cons_zero, List.set_cons_succ]
     refine AnyE.take (i := 5) (.int .i64 ((jb : Int) / 8)) rfl (by kernel_rfl) (by kernel_rfl) (by kernel_rfl) (by kernel_rfl) (fun _ _ _ h => h) (.inl ⟨by kernel_rfl, fun wy hy => by (have q5 := W8.out.1; go_simp; done)⟩) hHeld ?_
     try simp only [Act.put, List.setIfInBounds_toArray, List.set_cons_zero, List.set_cons_succ]
     refine AnyE.take (i := 6) (.pointer (some ⟨gv, jb / 8, none⟩)) rfl (by kernel_rfl) (by kernel_rfl) (by kernel_rfl) (by kernel_rfl) (fun _ _ _ h => h) (.inl ⟨by kernel_rfl, fun wy hy => by (go_simp; done)⟩) hHeld ?_
     try simp only [Act.put, List.setIfInBounds_toArray, List.set_cons_zero, List.set_cons_succ]
     refine AnyE.take (i := 7) (.int .u8 (y : Int)) rfl (by kernel_rfl) (by kernel_rfl) (by kernel_rfl) (by kernel_rfl) (fun _ _ _ h => h) (.inl ⟨by kernel_rfl, fun wy hy => by (have q0 := hy.2; go_simp; done)⟩) hHeld ?_
     try simp only [Act.put, List.setIfInBounds_toArray, List.set_cons_zero, List.set_cons_succ]
     refine AnyE.take (i := 8) (.int .i64 (jb : Int)) rfl (by kernel_rfl) (by kernel_rfl) (by kernel_rfl) (by kernel_rfl) (fun _ _ _ h => h) (.inl ⟨by kernel_rfl, fun wy hy => by (go_simp; done)⟩) hHeld ?_
     try simp only [Act.put, List.setIfInBounds_toArray, List.set_cons_zero, List.set_cons_succ]
     refine AnyE.take (i := 9) (.int .i64 ((jb : Int) % 8)) rfl (by kernel_rfl) (by kernel_rfl) (by kernel_rfl) (by kernel_rfl) (fun _ _ _ h => h) (.inl ⟨by kernel_rfl, fun wy hy => by (have q5 := W8.out.2.1; go_simp; done)⟩) hHeld ?_
     try simp only [Act.put, List.setIfInBounds_toArray, List.set_cons_zero, List.set_cons_succ]
     refine AnyE.take (i := 10) (.int .u8 (2 ^ (jb % 8) % 256 : Int)) rfl (by kernel_rfl) (by kernel_rfl) (by kernel_rfl) (by kernel_rfl) (fun _ _ _ h => h) (.inl ⟨by kernel_rfl, fun wy hy => by (have q5 := W8.out.2.2; go_simp; done)⟩) hHeld ?_
     try simp only [Act.put, List.setIfInBounds_toArray, List.set_cons_zero, List.set_cons_succ]
     refine AnyE.take (i := 11) (.int .u8 (bits .xor .u8 (y : Int) (2 ^ (jb % 8) % 256 : Int))) rfl (by kernel_rfl) (by kernel_rfl) (by kernel_rfl) (by kernel_rfl) (fun _ _ _ h => h) (.inl ⟨by kernel_rfl, fun wy hy => by (go_simp; done)⟩) hHeld ?_
     try simp only [Act.put, List.setIfInBounds_toArray, List.set_cons_zero, List.set_cons_succ]
     refine AnyE.take (i := 12) (.pointer (some ⟨gv, jb / 8, none⟩)) rfl (by kernel_rfl) (by kernel_rfl) (by kernel_rfl) (by kernel_rfl) (fun _ _ _ h => h) (.inl ⟨by kernel_rfl, fun wy hy => by (go_simp; done)⟩) hHeld ?_
     try simp only [Act.put, List.setIfInBounds_toArray, List.set_cons_zero, List.set_cons_succ]
     refine AnyE.one (i := 13) rfl (by kernel_rfl) (by kernel_rfl) (fun KK hK => ?_)
     have q2 := hHeld.2
     go_simp
     refine hK.out _ _ ⟨fun h => (by cases h), ?_⟩
     clear hK
     try simp only [Act.put, List.setIfInBounds_toArray, List.set_cons_zero, List.set_cons_succ]
     refine AnyE.done (by kernel_rfl) (NoPanic.normal ?_) _
     rw [HY.out.2.2]
     clear hHeld zz q2
     have hfd := flip_dsk (f := f) (t := jb / 8) (x := y ^^^ 2 ^ (jb % 8)) MD.out (by rw [HFB.out.2]; exact HFX.out.2.2.2.1) HFX.out.2.1 HFX.out.2.2.1 hlt (bit_lt y jb HY.out.2.1)
     have HFD := Lib.hid hfd
     clear hfd
     go_simp
     go_step
     go_wp2
     go_ret
     have hR := HR2.out
     rw [hR]
     refine ⟨rfl, ⟨?_, mb, _, HFD.out.1, ?_⟩, (Go4.of_below (HB.out.trans (HBD.out.mono HB.out.size))).trans HFD.out.2⟩
     ·have hs := fsOk_set HM.out.2.1 (s := s) (v := (f.dat, f.syn)) HFX.out.2.2.2.2 (dat := flipB f.dat jb) (syn := f.syn) (by unfold flipB; rw [List.length_set]; have := HM.out.2.1.tot; simp only; omega) (by unfold flipB; rw [List.length_set]; exact HM.out.2.1.syn (s, f.dat, f.syn) (atP_mem4 HFX.out.2.2.2.2))
      exact HM.out.2.1.mk2 hs HM.out.2.1.arm0 HM.out.2.1.arm1 d.down d.c
     ·have e := setF_pf ⟨f.nm, f.b, f.v, f.dat.set (jb / 8) (y ^^^ 2 ^ (jb % 8)), f.syn⟩ fl
      rw [e, HM.out.2.2]
      simp only [FE.pf, HFB.out.2, Int.toNat_natCast, flipB, HY.out.1]
 ·have hRR : R = (q, d) := by rw [hR, if_pos h0]
  subst hRR
  have h0n : (q != 0) = true := by simp [h0]
  clear HF hat hnb hR
  go_enter Try.func65, Try.ntmps65
  go_wp2_with fail
  rw [← HW.out]
  refine HC.out.mono ?_
  rintro e w2 ⟨rfl, rfl⟩
  go_wp2
  go_ret
  exact ⟨rfl, HD.out.below HB.out, Go4.of_below HB.out⟩
end Go.Proofs.Ytlkhphhmhffdjaa

namespace Go.Proofs.Ytlkhphhmhffdjaa
open Go.RowKit Go.MapKept Go.Sort
variable {w w' W X : World} {O O' : Nat → Prop} {dB rB : Nat} {d r : Dk4}
set_option maxRecDepth 100000 in
set_option maxHeartbeats 8000000 in
theorem rFlip_any {s : ByteArray} {X : Int} (h : RD w O rB r) (hx9 : X ≤ 9223372036854775807) : Calls Try.prog 66 #[.pointer (some ⟨rB, 0, none⟩), .string s, .int .i64 X] w (AnsR w O rB (flipD r s X)) := by
 have h9 := h
 obtain ⟨⟨ok, srt⟩, a, n, k, l, hm, hl⟩ := h
 have hR : ∃ R, R = flipD r s X := ⟨_, rfl⟩
 obtain ⟨R, hR⟩ := hR
 rw [← hR]
 unfold flipD at hR
 have hn : n = r.fs.length := by rw [← hl, List.length_map]; exact hm.row.len
 have HM := Lib.hid (And.intro hm (And.intro hl hn))
 have HOK := Lib.hid (And.intro ok srt)
 have H9 := Lib.hid h9
 have hat0 := rAt_any hm s
 have hch : chkN [s] = if DkName s then 0 else 40 := by unfold chkN; simp
 rw [hch] at hR
 clear hch ok srt hm hl hn h9
 by_cases hnm : DkName s
 ·rw [if_pos hnm, if_neg (by simp)] at hR
  cases hv : atP r.fs s with
  | none =>
   rw [hv] at hR
   simp only at hR
   subst hR
   have hidx : idxI (l.map (·.1)) s = -1 := by
    have := idxI_at (l.map (·.1)) s
    rw [HM.out.2.1, hv] at this
    rcases this with q | q
    ·rw [HM.out.2.1]; exact q.1
    ·simp at q
   rw [hidx] at hat0
   have HAT := Lib.hid hat0
   clear hat0 hidx
   go_enter Try.func66, Try.ntmps66
   go_wp2_with fail
   refine (refName_any s w).mono ?_
   rintro e w2 ⟨rfl, hw2⟩
   rw [hw2]
   clear hw2 w2
   rw [decide_eq_true hnm]
   go_wp2_with fail
   refine HAT.out.mono ?_
   rintro e w2 ⟨rfl, hw2⟩
   rw [hw2]
   clear hw2 w2
   go_wp2
   go_ret
   exact ⟨rfl, O, H9.out, Go4.refl _ _⟩
  | some v =>
   rw [hv] at hR
   simp only at hR
   have HV := Lib.hid hv
   have HR := Lib.hid hR
   clear hv hR
   have hidx : ∃ i, idxP (l.map (·.1)) s = some i := by
    cases hi : idxP (l.map (·.1)) s with
    | some i => exact ⟨i, rfl⟩
    | none =>
     have := (idxP_none hi).1
     rw [HM.out.2.1, HV.out] at this
     cases this
   obtain ⟨i, hi⟩ := hidx
   have e2 : idxI (l.map (·.1)) s = (i : Int) := by unfold idxI; rw [hi]
   obtain ⟨v2, hi1, hi2, _⟩ := idxP_some hi
   rw [HM.out.2.1, HV.out] at hi2
   cases hi2
   rw [List.getElem?_map] at hi1
   obtain ⟨x, hx, ex⟩ := Option.map_eq_some_iff.1 hi1
   have hset := setP_idx (v := (flipB v.1 X.toNat, v.2)) hi
   rw [HM.out.2.1] at hset
   have HI := Lib.hid (And.intro hset ex)
   have HX := Lib.hid hx
   have hin : i < n := by have := (List.getElem?_eq_some_iff.1 hx).1; have := HM.out.1.row.len; omega
   have i1 : (i : Int) < (n : Int) := by omega
   have i2 : (0 : Int) ≤ (i : Int) := by omega
   clear hi hi1 hset hx
   rw [e2] at hat0
   have HAT := Lib.hid hat0
   clear hat0 e2
   have hvx : v = (x.1.2.1, x.1.2.2) := by rw [HI.out.2]
   have HVX := Lib.hid hvx
   clear hvx
   have hat2 := HM.out.1.row.at_ HX.out
   obtain ⟨g, hag, _, cx0, cx1, cx2⟩ := hat2
   subst hag
   have lg := World.block_lt_of_cell? _ _ cx0
   simp only at lg
   obtain ⟨xa, xc, hxv⟩ := (HM.out.1.dat x (List.mem_of_getElem? HX.out)).form
   have hnx : ∃ nx, nx = x.1.2.1.length := ⟨_, rfl⟩
   obtain ⟨nx, hnx⟩ := hnx
   have hxs : ∃ xs, xs = x.1.2.2 := ⟨_, rfl⟩
   obtain ⟨xs, hxs⟩ := hxs
   rw [hxv, ← hnx] at cx1
   rw [← hnx] at hxv
   rw [← hxs] at cx2
   have CX := Lib.hid cx1
   have CS := Lib.hid cx2
   have HXV := Lib.hid (And.intro hxv hnx)
   clear cx0 cx1 cx2 hxv hnx hxs
   have c1 := HM.out.1.box.cells.2.1
   have cx := CX.out
   have hR := HR.out
   have hvx1 : v.1 = x.1.2.1 := by rw [HVX.out]
   rw [hvx1, ← HXV.out.2] at hR
   have HR2 := Lib.hid hR
   clear hvx1 hR HR
   have hnb : nx ≤ 67108864 := by
    have h1 := totP_mem HV.out
    have h2 := HOK.out.1.tot
    have h3 := HOK.out.1.cap1
    have hvx1 : v.1 = x.1.2.1 := by rw [HVX.out]
    rw [hvx1, ← HXV.out.2] at h1
    omega
   by_cases x0 : X < 0
   ·have hR := HR2.out
    rw [if_pos (.inl x0)] at hR
    subst hR
    go_enter Try.func66, Try.ntmps66
    go_wp2_with fail
    refine (refName_any s w).mono ?_
    rintro e w2 ⟨rfl, hw2⟩
    rw [hw2]
    clear hw2 w2
    rw [decide_eq_true hnm]
    go_wp2_with fail
    refine HAT.out.mono ?_
    rintro e w2 ⟨rfl, hw2⟩
    rw [hw2]
    clear hw2 w2
    go_wp2
    go_ret
    exact ⟨rfl, O, H9.out, Go4.refl _ _⟩
   ·obtain ⟨jb, hjb⟩ : ∃ jb : Nat, X = jb := ⟨X.toNat, by omega⟩
    subst hjb
    by_cases x1 : (nx : Int) ≤ (jb : Int) / 8
    ·have hR := HR2.out
     rw [if_pos (.inr x1)] at hR
     subst hR
     go_enter Try.func66, Try.ntmps66
     go_wp2_with fail
     refine (refName_any s w).mono ?_
     rintro e w2 ⟨rfl, hw2⟩
     rw [hw2]
     clear hw2 w2
     rw [decide_eq_true hnm]
     go_wp2_with fail
     refine HAT.out.mono ?_
     rintro e w2 ⟨rfl, hw2⟩
     rw [hw2]
     clear hw2 w2
     go_wp2
     go_ret
     exact ⟨rfl, O, H9.out, Go4.refl _ _⟩
    ·have hR := HR2.out
     rw [if_neg (by omega), Int.toNat_natCast] at hR
     have HR3 := Lib.hid hR
     have k1 : (0 : Int) ≤ (jb : Int) / 8 := by omega
     have k2 : (jb : Int) / 8 < (nx : Int) := by omega
     have hlt : jb / 8 < nx := by omega
     have w8 : IntKind.i64.wrap ((jb : Int) / 8) = (jb : Int) / 8 := IntWalk.i64_in _ ⟨by omega, by omega⟩
     have t8 : (jb : Int).tmod 8 = (jb : Int) % 8 := Int.tmod_eq_emod_of_nonneg (by omega)
     have s8 : IntKind.u8.wrap (2 ^ ((jb : Int) % 8).toNat) = 2 ^ (jb % 8) % 256 := by
      have e8 : ((jb : Int) % 8).toNat = jb % 8 := by omega
      rw [e8]
      first | rfl | (simp [IntKind.wrap]) | (unfold IntKind.wrap; rfl)
     have W8 := Lib.hid (And.intro w8 (And.intro t8 s8))
     have hdx := HM.out.1.dat x (List.mem_of_getElem? HX.out)
     rw [HXV.out.1] at hdx
     have hrd := hdx.rd (by have := HXV.out.2; omega)
     have HCP := Lib.hid (rCopied_any hrd (by have := HXV.out.2; omega))
     have HBY := Lib.hid hdx.bys
     rw [← HXV.out.2] at HCP
     clear w8 t8 s8 hdx hrd hR HR2
     go_enter Try.func66, Try.ntmps66
     go_wp2_with fail
     refine (refName_any s w).mono ?_
     rintro e w2 ⟨rfl, hw2⟩
     rw [hw2]
     clear hw2 w2
     rw [decide_eq_true hnm]
     go_wp2_with fail
     refine HAT.out.mono ?_
     rintro e w2 ⟨rfl, hw2⟩
     rw [hw2]
     clear hw2 w2
     go_wp2_with fail
     refine HCP.out.mono ?_
     rintro e w5 ⟨ca, cc, rfl, hca, b5⟩
     have ho : OwnO w5 (fun i => w.heap.size ≤ i ∧ i < w5.heap.size) (.slice ca nx cc) x.1.2.1 := by
      rw [HXV.out.2] at hca ⊢
      exact OwnO.of_row hca HBY.out
     have hgc : ∃ gc, ca = some ⟨gc, 0, none⟩ := by
      rcases hca.2 with ⟨h1, h2⟩ | ⟨g5, cap, cur, h1, _⟩
      ·simp only [Value.slice.injEq] at h1
       omega
      ·simp only [Value.slice.injEq] at h1
       exact ⟨g5, h1.1⟩
     obtain ⟨gc, hgc⟩ := hgc
     subst hgc
     have hy : ∃ y : Nat, y = x.1.2.1.getD (jb / 8) 0 := ⟨_, rfl⟩
     obtain ⟨y, hy⟩ := hy
     have cy : w5.cell? ⟨gc, jb / 8, none⟩ = some (.int .u8 (y : Int)) := by
      rw [hca.cellAt (jb / 8) (by omega), hy]
      exact bv_at _ _ (by rw [← HXV.out.2]; exact hlt)
     have fz := hca.frozenAt (jb / 8)
     have hyl : y < 256 := by
      rw [hy, List.getD_eq_getElem?_getD, List.getElem?_eq_getElem (by rw [← HXV.out.2]; exact hlt)]
      exact HBY.out _ (List.getElem_mem _)
     have hval := xor_bit4 y jb hyl
     have HY := Lib.hid (And.intro hy (And.intro hyl hval))
     have HO := Lib.hid (And.intro ho b5)
     clear ho b5 hca hy hyl hval c1 cx
     go_upto_region 10 with fail
     have BD : Below w5.heap.size w5 w5.drew := (Below.refl _ _).drew
     refine wp_region_noPanic ?_
     refine wp_region_anyE (S := fun wx => wx.cell? ⟨gc, jb / 8, none⟩ = some (.int .u8 (y : Int))) (E := fun j => !(decide (j = 13))) (by kernel_rfl) ?_
     have hHeld : (fun wx : World => wx.cell? ⟨gc, jb / 8, none⟩ = some (.int .u8 (y : Int))) w5.drew := (BD.cell (World.block_lt_of_cell? _ _ cy)).trans cy
     have ho0 := HO.out.1.later13 BD
     have HBD := Lib.hid (And.intro (HO.out.2.trans (BD.mono HO.out.2.size)) BD.size)
     have zz := (BD.frozen (p := ⟨gc, jb / 8, none⟩) (World.block_lt_of_cell? _ _ cy)).trans fz
     have hZ0 : ∃ z, z = w5.drew := ⟨_, rfl⟩
     obtain ⟨Z0, hZ0⟩ := hZ0
     rw [← hZ0] at HBD ho0 hHeld zz ⊢
     clear hZ0 BD cy fz
     refine AnyE.take (i := 0) (.slice (some ⟨gc, 0, none⟩) nx cc) rfl (by kernel_rfl) (by kernel_rfl) (by kernel_rfl) (by kernel_rfl) (fun _ _ _ h => h) (.inl ⟨by kernel_rfl, fun wy hy => by (go_simp; done)⟩) hHeld ?_
     try simp only [Act.put, List.setIfInBounds_toArray, List.set_cons_zero, List.set_cons_succ]
     refine AnyE.take (i := 1) (.int .i64 (jb : Int)) rfl (by kernel_rfl) (by kernel_rfl) (by kernel_rfl) (by kernel_rfl) (fun _ _ _ h => h) (.inl ⟨by kernel_rfl, fun wy hy => by (go_simp; done)⟩) hHeld ?_
     try simp only [Act.put, List.setIfInBounds_toArray, List.set_cons_zero, List.set_cons_succ]
     refine AnyE.take (i := 2) (.int .i64 ((jb : Int) / 8)) rfl (by kernel_rfl) (by kernel_rfl) (by kernel_rfl) (by kernel_rfl) (fun _ _ _ h => h) (.inl ⟨by kernel_rfl, fun wy hy => by (have q5 := W8.out.1; go_simp; done)⟩) hHeld ?_
     try simp only [Act.put, List.setIfInBounds_toArray, List.set_cons_zero, List.set_cons_succ]
     refine AnyE.take (i := 3) (.slice (some ⟨gc, 0, none⟩) nx cc) rfl (by kernel_rfl) (by kernel_rfl) (by kernel_rfl) (by kernel_rfl) (fun _ _ _ h => h) (.inl ⟨by kernel_rfl, fun wy hy => by (go_simp; done)⟩) hHeld ?_
     try simp only [Act.put, List.setIfInBounds_toArray, List.set_cons_zero, List.set_cons_succ]
     refine AnyE.take (i := 4) (.int .i64 (jb : Int)) rfl (by kernel_rfl) (by kernel_rfl) (by kernel_rfl) (by kernel_rfl) (fun _ _ _ h => h) (.inl ⟨by kernel_rfl, fun wy hy => by (go_simp; done)⟩) hHeld ?_
     try simp only [Act.put, List.setIfInBounds_toArray, List.set_cons_zero, List.set_cons_succ]
     refine AnyE.take (i := 5) (.int .i64 ((jb : Int) / 8)) rfl (by kernel_rfl) (by kernel_rfl) (by kernel_rfl) (by kernel_rfl) (fun _ _ _ h => h) (.inl ⟨by kernel_rfl, fun wy hy => by (have q5 := W8.out.1; go_simp; done)⟩) hHeld ?_
     try simp only [Act.put, List.setIfInBounds_toArray, List.set_cons_zero, List.set_cons_succ]
     refine AnyE.take (i := 6) (.pointer (some ⟨gc, jb / 8, none⟩)) rfl (by kernel_rfl) (by kernel_rfl) (by kernel_rfl) (by kernel_rfl) (fun _ _ _ h => h) (.inl ⟨by kernel_rfl, fun wy hy => by (go_simp; done)⟩) hHeld ?_
     try simp only [Act.put, List.setIfInBounds_toArray, List.set_cons_zero, List.set_cons_succ]
     refine AnyE.take (i := 7) (.int .u8 (y : Int)) rfl (by kernel_rfl) (by kernel_rfl) (by kernel_rfl) (by kernel_rfl) (fun _ _ _ h => h) (.inl ⟨by kernel_rfl, fun wy hy => by (have q0 := hy; go_simp; done)⟩) hHeld ?_
     try simp only [Act.put, List.setIfInBounds_toArray, List.set_cons_zero, List.set_cons_succ]
     refine AnyE.take (i := 8) (.int .i64 (jb : Int)) rfl (by kernel_rfl) (by kernel_rfl) (by kernel_rfl) (by kernel_rfl) (fun _ _ _ h => h) (.inl ⟨by kernel_rfl, fun wy hy => by (go_simp; done)⟩) hHeld ?_
     try simp only [Act.put, List.setIfInBounds_toArray, List.set_cons_zero, List.set_cons_succ]
     refine AnyE.take (i := 9) (.int .i64 ((jb : Int) % 8)) rfl (by kernel_rfl) (by kernel_rfl) (by kernel_rfl) (by kernel_rfl) (fun _ _ _ h => h) (.inl ⟨by kernel_rfl, fun wy hy => by (have q5 := W8.out.2.1; go_simp; done)⟩) hHeld ?_
     try simp only [Act.put, List.setIfInBounds_toArray, List.set_cons_zero, List.set_cons_succ]
     refine AnyE.take (i := 10) (.int .u8 (2 ^ (jb % 8) % 256 : Int)) rfl (by kernel_rfl) (by kernel_rfl) (by kernel_rfl) (by kernel_rfl) (fun _ _ _ h => h) (.inl ⟨by kernel_rfl, fun wy hy => by (have q5 := W8.out.2.2; go_simp; done)⟩) hHeld ?_
     try simp only [Act.put, List.setIfInBounds_toArray, List.set_cons_zero, List.set_cons_succ]
     refine AnyE.take (i := 11) (.int .u8 (bits .xor .u8 (y : Int) (2 ^ (jb % 8) % 256 : Int))) rfl (by kernel_rfl) (by kernel_rfl) (by kernel_rfl) (by kernel_rfl) (fun _ _ _ h => h) (.inl ⟨by kernel_rfl, fun wy hy => by (go_simp; done)⟩) hHeld ?_
     try simp only [Act.put, List.setIfInBounds_toArray, List.set_cons_zero, List.set_cons_succ]
     refine AnyE.take (i := 12) (.pointer (some ⟨gc, jb / 8, none⟩)) rfl (by kernel_rfl) (by kernel_rfl) (by kernel_rfl) (by kernel_rfl) (fun _ _ _ h => h) (.inl ⟨by kernel_rfl, fun wy hy => by (go_simp; done)⟩) hHeld ?_
     try simp only [Act.put, List.setIfInBounds_toArray, List.set_cons_zero, List.set_cons_succ]
     refine AnyE.one (i := 13) rfl (by kernel_rfl) (by kernel_rfl) (fun KK hK => ?_)
     have q2 := hHeld
     go_simp
     refine hK.out _ _ ⟨fun h => (by cases h), ?_⟩
     clear hK
     try simp only [Act.put, List.setIfInBounds_toArray, List.set_cons_zero, List.set_cons_succ]
     refine AnyE.done (by kernel_rfl) (NoPanic.normal ?_) _
     rw [HY.out.2.2]
     clear hHeld zz q2
     have ho1 := ho0.setB4 (t := jb / 8) (x := y ^^^ 2 ^ (jb % 8)) HXV.out.2 hlt (bit_lt y jb HY.out.2.1)
     have hgc2 : w.heap.size ≤ gc ∧ gc < w5.heap.size := ho0.blk gc rfl
     have g1 : w.grownBy (Z0.setCell ⟨gc, jb / 8, none⟩ (.int .u8 ((y ^^^ 2 ^ (jb % 8) : Nat) : Int))) x.2.ownBlock := by
      have sg := set_grown Z0 gc (jb / 8) (.int .u8 ((y ^^^ 2 ^ (jb % 8) : Nat) : Int))
      exact grown_trans (grown_below HBD.out.1 _) ⟨sg.os, sg.tape, sg.output, sg.size, sg.block⟩ (.inr (fun g e => by cases e; exact hgc2.1))
     obtain ⟨Z1, hZ1⟩ : ∃ Z1, Z1 = Z0.setCell ⟨gc, jb / 8, none⟩ (.int .u8 ((y ^^^ 2 ^ (jb % 8) : Nat) : Int)) := ⟨_, rfl⟩
     have sz1 : w5.heap.size ≤ Z1.heap.size := by rw [hZ1]; simp [World.setCell]; exact HBD.out.2
     rw [← hZ1] at ho1 g1 ⊢
     have kept1 : ∀ k, k < w.heap.size → Z1.heap[k]? = w.heap[k]? := fun k hk => by
      rw [hZ1, heap_setCell_other _ _ _ _ (show k ≠ gc from by have := hgc2.1; omega)]
      exact HBD.out.1.block k hk
     clear hZ1
     have ho2 : OwnO Z1 (fun i => O i ∨ (w.heap.size ≤ i ∧ i < Z1.heap.size)) (.slice (some ⟨gc, 0, none⟩) nx cc) (flipB x.1.2.1 jb) := by
      unfold flipB
      rw [← HY.out.1]
      exact ho1.kept (fun i hi => ⟨rfl, .inr (by have := ho0.blk i hi; exact ⟨this.1, by omega⟩)⟩)
     have hsd := HM.out.1.setDat (i := i) HX.out g1 ho2 (fun i hi => .inr (ho0.blk i hi).1) g1.size
     have bx1 := HM.out.1.box.kept (kept1 rB HM.out.1.box.lt)
     have c1 := bx1.cells.2.1
     have zg := row_fz (HM.out.1.row.kept (w' := Z1) (fun q hq => kept1 q (HM.out.1.lt q (HM.out.1.rowO q hq)))) rfl (i * 3 + 1)
     have cg : Z1.cell? ⟨g, i * 3 + 1, none⟩ = some (.slice xa nx xc) := by
      have := CX.out
      unfold World.cell? at this ⊢
      rw [kept1 g lg]
      exact this
     have HSD := Lib.hid hsd
     clear ho0 ho1 ho2 g1 hsd kept1 bx1
     go_simp
     go_step
     go_wp2
     go_ret
     have hnames : Srt (setP r.fs (s, flipB v.1 jb, v.2)) := srt_names HOK.out.2 (setP_names HV.out)
     have hok := fsOk_set HOK.out.1 HV.out (dat := flipB v.1 jb) (syn := v.2) (by unfold flipB; rw [List.length_set]; have := HOK.out.1.tot; omega) (by unfold flipB; rw [List.length_set]; exact HOK.out.1.syn (s, v) (atP_mem4 HV.out))
     rw [HR3.out]
     refine ⟨rfl, _, ⟨⟨?_, ?_⟩, some ⟨g, 0, none⟩, n, k, _, HSD.out.1, ?_⟩, HSD.out.2.2⟩
     ·rw [HVX.out] at hok ⊢
      exact HOK.out.1.mk2 hok HOK.out.1.arm0 HOK.out.1.arm1 r.down r.c
     ·rw [HVX.out] at hnames ⊢
      exact hnames
     ·have hi := HI.out.1
      rw [Int.toNat_natCast] at hi
      have e1 : x.1.1 = s := by rw [HI.out.2]
      have e2 : v.1 = x.1.2.1 := by rw [HVX.out]
      have e3 : v.2 = x.1.2.2 := by rw [HVX.out]
      rw [e2, e3] at hi
      rw [List.map_set, HM.out.2.1]
      simp only [e1, e3]
      exact hi.symm
 ·have hRR : R = (40, r) := by rw [hR, if_neg hnm, if_pos (by simp)]
  subst hRR
  clear hR hat0
  go_enter Try.func66, Try.ntmps66
  go_wp2_with fail
  refine (refName_any s w).mono ?_
  rintro e w2 ⟨rfl, hw2⟩
  rw [hw2]
  clear hw2 w2
  rw [decide_eq_false hnm]
  go_wp2
  go_ret
  exact ⟨rfl, O, H9.out, Go4.refl _ _⟩
end Go.Proofs.Ytlkhphhmhffdjaa

namespace Go.Proofs.Ytlkhphhmhffdjaa
open Go.RowKit Go.MapKept Go.Sort
variable {w w' W X : World} {O O' : Nat → Prop} {dB : Nat} {d : Dk4}
def ctV (c : Nat → Int) : Value := .agg #[.int .i64 (c 0), .int .i64 (c 1), .int .i64 (c 2), .int .i64 (c 3), .int .i64 (c 4), .int .i64 (c 5)]
theorem und_cnt4 : Try.prog.underlying 48 = some (Try.prog.underlying 48).get! := by kernel_rfl
theorem info_cnt4 : (Try.prog.info? 48).map (·.size) = some 6 := by kernel_rfl
set_option maxRecDepth 100000 in
set_option maxHeartbeats 4000000 in
theorem counts4_any (hD : Dsk w O dB d) : Calls Try.prog 17 #[.pointer (some ⟨dB, 0, none⟩)] w fun e w' => e = .returned (ctV d.c) ∧ Below w.heap.size w w' := by
 obtain ⟨ok, mb, fl, hM, hfl⟩ := hD
 obtain ⟨_, _, _, _, e0, e1, e2, e3, e4, e5⟩ := hM.box.cells
 have lt := hM.box.lt
 clear hM hfl ok
 go_enter Try.func17, Try.ntmps17
 go_wp2
 refine bodyPost_ret (results_cell_row rfl _ _ w.heap.size 48 _ (0, 0) _ rfl (heap_alloc_new _ _) und_cnt4 rfl info_cnt4) rfl ?_
 exact ⟨rfl, (Below.refl _ _).alloc (Nat.le_refl _) _⟩
end Go.Proofs.Ytlkhphhmhffdjaa
