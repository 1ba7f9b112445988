import Derived.Test.YtledfniedoapiaaDoorJ08
import Derived.Deep.DeepAppendRoom
import Derived.Maps.AppendAt
import Derived.Lib.Hide
import Derived.Test.YtledfniedoapiaaDoorJ07
import Derived.Deep.RegionHeld3
namespace Go.Proofs.YtledfniedoapiaaDoor
open Go.RowKit
set_option linter.unusedVariables false

theorem rep_bys (n m : Nat) (h : m < 256) : Bys (List.replicate n m) := by intro x hx; rw [List.eq_of_mem_replicate hx]; exact h
theorem own_nil (w : World) (B : Nat) : Own w B (.slice none 0 0) ([] : List Nat).length [] := ⟨rfl, rfl, .inl ⟨rfl, rfl⟩⟩
theorem own_len {w : World} {B m : Nat} {v : Value} {xs : List Nat} (h : Own w B v m xs) : Own w B v xs.length xs := by
  have e := h.1
  subst e
  exact h
/-- All blocks but one are as they were. -/
structure Apart (g : Nat) (w w' : World) : Prop where
  os : w'.os = w.os
  tape : w'.tape = w.tape
  output : w'.output = w.output
  size : w.heap.size ≤ w'.heap.size
  block : ∀ k, k < w.heap.size → k ≠ g → w'.heap[k]? = w.heap[k]?
theorem apart_set (w : World) (g i : Nat) (x : Value) : Apart g w (w.setCell ⟨g, i, none⟩ x) := by
  refine ⟨rfl, rfl, rfl, by simp [World.setCell], fun k hk hg => ?_⟩
  simp [World.setCell, Array.getElem?_modify, Ne.symm hg]
theorem Own.far {w w' : World} {B m : Nat} {v : Value} {o : Option Nat} {xs : List Nat} (h : Own w B v m xs) (k : w.grownBy w' o) (hne : ∀ g, o = some g → v.ownBlock ≠ some g) : Own w' B v m xs := by
  refine ⟨h.1, h.2.1, ?_⟩
  rcases h.2.2 with h2 | ⟨g, cap, cur, h3, h4, h5, h6⟩
  · exact .inl h2
  · refine .inr ⟨g, cap, cur, h3, h4, ?_, h6⟩
    rw [k.block g (Array.getElem?_eq_some_iff.1 h5).1 ?_]
    · exact h5
    · intro e
      exact hne g e.symm (by rw [h3]; rfl)
theorem drop_cons (l : List Nat) (t : Nat) (h : t < l.length) : l.drop t = l.getD t 0 :: l.drop (t + 1) := by
  rw [List.drop_eq_getElem_cons h]; simp [List.getD, List.getElem?_eq_getElem h]
theorem same_self {a b : Value} {xs : List Nat} {w : World} (ha : Rd w a xs) (hb : Rd w b xs) :
    Calls Tryd.prog 12 #[a, b] w fun e w' => e = .returned (.bool true) ∧ w' = w := by
  have := same_any ha hb
  rw [decide_eq_true rfl] at this
  exact this
theorem alike_same {va vb : Value} {xs : List Nat} {w : World} (ha : Rd w va xs) (hb : Rd w vb xs) :
    Calls Tryd.prog 12 #[va, vb] w fun e w' => e = .returned (.bool true) ∧ Below w.heap.size w w' := by
  refine (same_self ha hb).mono ?_
  rintro e w' ⟨rfl, rfl⟩
  exact ⟨rfl, Below.refl _ _⟩
/-- append to what is owned, by bytes that lie somewhere: the old list stays as it was. -/
theorem append_keep {w : World} {B n m c : Nat} {v : Value} {xs bs : List Nat} (ty : TypeId) (hown : Own w B v n xs) (ad : Addr) (hm : m = bs.length) (hnews : ∀ j u, (bv bs)[j]? = some u → w.cell? (ad.add j) = some u) (hp : 0 < m) (hbytes : n + m ≤ 140737488355328) (hB : B ≤ w.heap.size) :
    ∃ v' w', (Builtin.append_ #[23, 23] ty #[v, .slice (some ad) m c]).run Tryd.prog w = .ok v' w' ∧ Own w' B v' (n + m) (xs ++ bs) ∧ w.grownBy w' v.ownBlock ∧ Own w' B v n xs ∧ (v'.ownBlock = v.ownBlock ∨ v'.ownBlock = some w.heap.size) := by
  obtain ⟨i0, hi, hz0, hz1, hz2⟩ := info_parts info_byte
  have hl : (bv bs).length = m * 1 := by simp [bv, hm]
  obtain ⟨v', w', hr, h2, h3, _⟩ := run_append_own (P := Tryd.prog) w B 23 ty 5 i0 (.int .u8 0) 1 1 und_bytes hi hz0 hz1 hz2 rfl (by decide) v n (bv xs) hown.2 ad m c (bv bs) hl hnews (bv_oneCell bs) (by unfold maxLen; omega) (by omega) hB
  have o2 : Own w' B v' (n + m) (xs ++ bs) := ⟨by rw [hown.1, hm]; simp, by simpa [bv] using h2⟩
  refine ⟨v', w', hr, o2, h3, ?_⟩
  rcases hown.2.2 with ⟨rfl, h0⟩ | ⟨g, cap, cur, rfl, hg1, hg2, hg3, hg4, hg5, hg6⟩
  · have hx : xs = [] := List.eq_nil_of_length_eq_zero (by rw [← hown.1]; exact h0)
    subst hx h0
    have hr2 := run_append_nil (P := Tryd.prog) w 23 ty 5 i0 (.int .u8 0) und_bytes hi hz0 ad m c (bv bs) (by rw [hz1]; exact hl) hnews hp (by omega) (by rw [hz2]; omega)
    rw [hr] at hr2
    injection hr2 with e1 e2
    subst e1
    exact ⟨own_nil _ _, .inr rfl⟩
  · by_cases hroom : n + m ≤ cap
    · obtain ⟨w2, hr2, k2, _⟩ := run_append_own_spare (P := Tryd.prog) w B 23 ty 5 i0 1 und_bytes hi hz1 g n cap (bv xs) hown.2 ad m c (bv bs) hl hnews (bv_oneCell bs) hroom
      rw [hr] at hr2
      injection hr2 with e1 e2
      subst e1 e2
      refine ⟨⟨hown.1, hown.2.1, ?_⟩, .inl rfl⟩
      rcases o2.2.2 with ⟨h5, _⟩ | ⟨g2, cap2, cur2, h5, h6, h7, h8, h9, h10, h11⟩
      · cases h5
      · simp only [Value.slice.injEq, Option.some.injEq] at h5
        obtain ⟨e3, _, rfl⟩ := h5
        obtain rfl : g = g2 := by injection e3
        refine .inr ⟨g, cap, cur2, rfl, h6, h7, hg3, hg4, h10, ?_⟩
        have e4 : cur2.toList.take (n * 1) = (cur2.toList.take ((n + m) * 1)).take (n * 1) := by
          rw [List.take_take, Nat.min_eq_left (by omega)]
        rw [e4, h11, bv_append, List.take_append_of_le_length (by rw [bv_length, ← hown.1]; omega), List.take_of_length_le (by rw [bv_length, ← hown.1]; omega)]
    · have holds : ∀ j u, (bv xs)[j]? = some u → w.cell? ((⟨g, 0, none⟩ : Addr).add j) = some u := hown.2.cells (g := g) rfl
      have hr2 := run_append_grow (P := Tryd.prog) w 23 ty 5 i0 (.int .u8 0) und_bytes hi hz0 ⟨g, 0, none⟩ n cap (bv xs) (by rw [hz1, bv_length, ← hown.1]; omega) holds ad m c (bv bs) (by rw [hz1]; exact hl) hnews (by omega) (by omega) (by rw [hz2]; exact growslice_fits (by omega) (by omega))
      rw [hr] at hr2
      injection hr2 with e1 e2
      subst e1
      refine ⟨?_, .inr rfl⟩
      refine ⟨hown.1, hown.2.1, .inr ⟨g, cap, cur, rfl, hg1, ?_, hg3, hg4, hg5, hg6⟩⟩
      rw [e2, heap_alloc_old w.drew _ (Array.getElem?_eq_some_iff.1 hg2).1]
      exact hg2
/-- What holds a mark goes on holding it. -/
def Keeps (mk : Nat) (w w' : World) : Prop := ∀ p : Addr, w.cell? p = some (.int .u8 (mk : Int)) → w'.cell? p = some (.int .u8 (mk : Int))
theorem Keeps.refl (mk : Nat) (w : World) : Keeps mk w w := fun _ h => h
theorem Keeps.trans {mk : Nat} {a b c : World} (h : Keeps mk a b) (k : Keeps mk b c) : Keeps mk a c := fun p hp => k p (h p hp)
theorem Keeps.alloc (mk : Nat) (w : World) (o : Obj) : Keeps mk w (w.alloc o) := fun p hp => by
  have hb : Below w.heap.size w (w.alloc o) := (Below.refl _ _).alloc (Nat.le_refl _) o
  rw [hb.cell (World.block_lt_of_cell? w _ hp)]; exact hp
theorem Keeps.below {mk : Nat} {w w' : World} (hb : Below w.heap.size w w') : Keeps mk w w' := fun p hp => by
  rw [hb.cell (World.block_lt_of_cell? w _ hp)]; exact hp
theorem Keeps.rd {mk k : Nat} {w w' : World} {v : Value} (h : Keeps mk w w') (hr : Rd w v (List.replicate k mk)) : Rd w' v (List.replicate k mk) := by
  obtain ⟨h1, a, cap, h2, h3, h4, h5, h6, h7⟩ := hr
  refine ⟨h1, a, cap, h2, h3, h4, h5, h6, ?_⟩
  rcases h7 with h7 | ⟨b, off, rfl, hc⟩
  · exact .inl h7
  · refine .inr ⟨b, off, rfl, fun i hi => ?_⟩
    have e : (List.replicate k mk).getD i 0 = mk := by
      have hi2 : i < k := by simpa using hi
      simp [List.getD, hi2]
    have := hc i hi
    rw [e] at this ⊢
    exact h _ this
theorem grown_trans {a b c : World} {o p : Option Nat} (h : a.grownBy b o) (k : b.grownBy c p) (hp : p = o ∨ ∀ g, p = some g → a.heap.size ≤ g) : a.grownBy c o :=
  ⟨k.os.trans h.os, k.tape.trans h.tape, k.output.trans h.output, Nat.le_trans h.size k.size, fun i hi hne => by
    rw [k.block i (Nat.lt_of_lt_of_le hi h.size) ?_, h.block i hi hne]
    rcases hp with rfl | hp
    · exact hne
    · intro e
      have := hp i e.symm
      omega⟩
theorem grown_alloc (w : World) (o : Obj) (p : Option Nat) : w.grownBy (w.alloc o) p := ⟨rfl, rfl, rfl, by simp, fun k hk _ => by
  have hb : Below w.heap.size w (w.alloc o) := (Below.refl _ _).alloc (Nat.le_refl _) o
  exact hb.block k hk⟩
theorem grown_below {w w' : World} (h : Below w.heap.size w w') (p : Option Nat) : w.grownBy w' p := ⟨h.os, h.tape, h.output, h.size, fun k hk _ => h.block k hk⟩
theorem below_grown {w w' : World} (h : w.grownBy w' none) : Below w.heap.size w w' := ⟨h.os, h.tape, h.output, h.size, fun k hk => h.block k hk (by simp)⟩
/-- append of marks: what held the mark holds it. -/
theorem append_marks {w w' : World} {B n m c mk : Nat} {v v' : Value} {xs : List Nat} (ty : TypeId) (hown : Own w B v n xs) (ad : Addr) (hnews : ∀ j u, (bv (List.replicate m mk))[j]? = some u → w.cell? (ad.add j) = some u) (hp : 0 < m) (hbytes : n + m ≤ 140737488355328)
    (hr : (Builtin.append_ #[23, 23] ty #[v, .slice (some ad) m c]).run Tryd.prog w = .ok v' w') : Keeps mk w w' := by
  obtain ⟨i0, hi, hz0, hz1, hz2⟩ := info_parts info_byte
  have hl : (bv (List.replicate m mk)).length = m * 1 := by simp [bv]
  rcases hown.2.2 with ⟨rfl, h0⟩ | ⟨g, cap, cur, rfl, hg1, hg2, hg3, hg4, hg5, hg6⟩
  · have hx : xs = [] := List.eq_nil_of_length_eq_zero (by rw [← hown.1]; exact h0)
    subst hx h0
    have hr2 := run_append_nil (P := Tryd.prog) w 23 ty 5 i0 (.int .u8 0) und_bytes hi hz0 ad m c _ (by rw [hz1]; exact hl) hnews hp (by omega) (by rw [hz2]; omega)
    rw [hr] at hr2
    injection hr2 with e1 e2
    rw [e2]
    exact Keeps.below (((Below.refl w.heap.size w).drew).alloc (Nat.le_refl _) _)
  · by_cases hroom : n + m ≤ cap
    · have hfit : n * i0.size + (bv (List.replicate m mk)).length ≤ cur.size := by rw [hz1, hl, hg5]; omega
      have hr2 := run_append_room (P := Tryd.prog) w 23 ty 5 i0 und_bytes hi g n cap cur hg2 ad m c _ (by rw [hz1]; exact hl) hnews (bv_oneCell _) hroom hfit
      rw [hr] at hr2
      injection hr2 with e1 e2
      rw [e2]
      intro p hc
      obtain ⟨pb, po, ps⟩ := p
      obtain rfl : ps = none := World.cell?_spot hc
      by_cases hb : pb = g
      · subst hb
        rw [cell_setRow_same w pb po cur _ _ _ hg2]
        have hcur : cur[po]? = some (.int .u8 (mk : Int)) := by simpa [World.cell?, hg2] using hc
        have hlt : po < cur.size := (Array.getElem?_eq_some_iff.1 hcur).1
        have hcl : cur.toList[po]? = some (.int .u8 (mk : Int)) := by simpa using hcur
        simp only [hz1, Nat.mul_one, List.getElem?_toArray, hl] at *
        by_cases h1 : po < n
        · rw [List.append_assoc, List.getElem?_append_left (by simp; omega), List.getElem?_take_of_lt h1]
          exact hcl
        · by_cases h2 : po < n + m
          · rw [List.getElem?_append_left (by simp [bv]; omega), List.getElem?_append_right (by simp; omega)]
            have e : (List.take n cur.toList).length = n := by simp; omega
            rw [e]
            simp [bv, List.getElem?_replicate]
            omega
          · rw [List.getElem?_append_right (by simp [bv]; omega), List.getElem?_drop]
            have e : n + m + (po - (List.take n cur.toList ++ bv (List.replicate m mk)).length) = po := by simp [bv]; omega
            rw [e]
            exact hcl
      · rw [cell_setRow_other w g _ ⟨pb, po, none⟩ hb]
        exact hc
    · have holds : ∀ j u, (bv xs)[j]? = some u → w.cell? ((⟨g, 0, none⟩ : Addr).add j) = some u := hown.2.cells (g := g) rfl
      have hr2 := run_append_grow (P := Tryd.prog) w 23 ty 5 i0 (.int .u8 0) und_bytes hi hz0 ⟨g, 0, none⟩ n cap (bv xs) (by rw [hz1, bv_length, ← hown.1]; omega) holds ad m c _ (by rw [hz1]; exact hl) hnews (by omega) (by omega) (by rw [hz2]; exact growslice_fits (by omega) (by omega))
      rw [hr] at hr2
      injection hr2 with e1 e2
      rw [e2]
      exact Keeps.below (((Below.refl w.heap.size w).drew).alloc (Nat.le_refl _) _)
/-- append(own, mark, ..): all that is wanted of it. -/
theorem wpList_append_mark {w : World} {ops : Array Oper} {rest : List Oper} {o : Oper} {a : Act} {Q : Exit → Act → World → Prop} (hgd : o.guard = none) (s x : Operand)
    (ho : o.op = .call { callee := .builtin .append, args := #[s, x], argTypes := #[23, 23] })
    (B : Nat) (a0 : Option Addr) (m0 c0 mk : Nat) (acc : List Nat) (hs : a.eval s = .slice a0 m0 c0) (hown : Own w B (.slice a0 m0 c0) m0 acc)
    (vs : List Value) (m : Nat) (hx : a.eval x = .slice (some ⟨w.heap.size, 0, none⟩) m m) (hvs : vs = bv (List.replicate m mk)) (hp : 0 < m)
    (hbytes : m0 + m ≤ 140737488355328) (hB : B ≤ w.heap.size)
    (h : ∀ a' m' c' w', Hid (m' = m0 + m) → Own w' B (.slice a' m' c') m' (acc ++ List.replicate m mk) → w.grownBy w' (Value.slice a0 m0 c0).ownBlock → Own w' B (.slice a0 m0 c0) m0 acc → ((Value.slice a' m' c').ownBlock = (Value.slice a0 m0 c0).ownBlock ∨ ∀ g, (Value.slice a' m' c').ownBlock = some g → w.heap.size ≤ g) → Keeps mk w w' → wpList Tryd.prog ops Q rest (a.put o.dst (.slice a' m' c')) w') : wpList Tryd.prog ops Q (o :: rest) a (w.alloc (.cells vs.toArray 5)) := by
  subst hvs
  have ho2 : Own (w.alloc (.cells (bv (List.replicate m mk)).toArray 5)) B (.slice a0 m0 c0) m0 acc := ⟨hown.1, hown.2.alloc _⟩
  obtain ⟨v', w', hr, h1, h2, h3, h4⟩ := append_keep (w := w.alloc (.cells (bv (List.replicate m mk)).toArray 5)) (B := B) (c := m) (bs := List.replicate m mk) o.type ho2 ⟨w.heap.size, 0, none⟩ (by simp) (news_new _ _ _) hp hbytes (by simp; omega)
  have hk := append_marks o.type ho2 ⟨w.heap.size, 0, none⟩ (news_new _ _ _) hp hbytes hr
  obtain ⟨a', c', rfl⟩ := own_form h1.2
  refine wpList_plain hgd fun K hK => ?_
  unfold Oper.wp execOp
  simp only [ho, resolve, invoke, builtin, Sem.run_bind, Sem.run_pure, Result.andThen_ok, List.map_toArray, List.map_cons, List.map_nil, hs, hx, hr]
  refine hK _ _ (h a' _ c' w' (by unfold Hid; rfl) h1 (grown_trans (grown_alloc w _ _) h2 (.inl rfl)) h3 ?_ ((Keeps.alloc mk w _).trans hk))
  rcases h4 with h4 | h4
  · exact .inl h4
  · refine .inr fun g hg => ?_
    rw [h4] at hg
    simp at hg
    omega
/-- Where a list that was made since w may lie: where l lay, or in new memory. -/
def Near (w : World) (l u : Value) : Prop := u.ownBlock = l.ownBlock ∨ ∀ g, u.ownBlock = some g → w.heap.size ≤ g
theorem Near.on {w w' : World} {l u v : Value} (h : Near w l u) (k : v.ownBlock = u.ownBlock ∨ ∀ g, v.ownBlock = some g → w'.heap.size ≤ g) (hs : w.heap.size ≤ w'.heap.size) : Near w l v := by
  rcases k with k | k
  · rcases h with h | h
    · exact .inl (k.trans h)
    · exact .inr fun g hg => h g (by rw [← k]; exact hg)
  · exact .inr fun g hg => Nat.le_trans hs (k g hg)
theorem Near.grow {w : World} {l u : Value} (h : Near w l u) : u.ownBlock = l.ownBlock ∨ ∀ g, u.ownBlock = some g → w.heap.size ≤ g := h
theorem bv_at (L : List Nat) (t : Nat) (h : t < L.length) : (bv L)[t]? = some (.int .u8 ((L.getD t 0 : Nat) : Int)) := by
  simp [bv, List.getD, List.getElem?_eq_getElem h]
theorem fill_set {mk t : Nat} {xs : List Nat} (h : t < xs.length) : (List.replicate t mk ++ xs.drop t).set t mk = List.replicate (t + 1) mk ++ xs.drop (t + 1) := by
  rw [List.set_append_right _ _ (by simp), drop_cons xs t h]
  simp [List.replicate_succ']
/-- A row of byte strings that is owned. -/
def RowS (w : World) (B : Nat) (v : Value) (n : Nat) (vs : List Value) : Prop := n = vs.length ∧ (∀ u ∈ vs, u.oneCell' = true) ∧ w.ownsRow B 23 1 v n vs
theorem RowS.later {w w' : World} {B n : Nat} {v : Value} {vs : List Value} (h : RowS w B v n vs) (hb : Below w.heap.size w w') : RowS w' B v n vs := by
  refine ⟨h.1, h.2.1, h.2.2.1, ?_⟩
  rcases h.2.2.2 with h2 | ⟨g, cap, cur, h3, h4, h5, h6⟩
  · exact .inl h2
  · exact .inr ⟨g, cap, cur, h3, h4, by rw [hb.block g (Array.getElem?_eq_some_iff.1 h5).1]; exact h5, h6⟩
theorem rows_form {w : World} {B n : Nat} {v : Value} {xs : List Value} (h : w.ownsRow B 23 1 v n xs) : ∃ a c, v = .slice a n c := by
  rcases h.2 with ⟨rfl, rfl⟩ | ⟨g, cap, cur, rfl, _⟩
  · exact ⟨_, _, rfl⟩
  · exact ⟨_, _, rfl⟩
theorem info_parts1 : (Tryd.prog.info? 23).map (fun i => (i.zero, i.size, i.bytes)) = some (some (.slice none 0 0), 1, 24) := by kernel_rfl
/-- append of one byte string to a row that is owned: all that is wanted of it. -/
theorem append_row {w : World} {B n : Nat} {v u : Value} {vs : List Value} (ty : TypeId) (hown : RowS w B v n vs) (hu : u.oneCell' = true) (hbytes : n + 1 ≤ 41943040) (hB : B ≤ w.heap.size) :
    ∃ v' w', (Builtin.append_ #[25, 25] ty #[v, .slice (some ⟨w.heap.size, 0, none⟩) 1 1]).run Tryd.prog (w.alloc (.cells #[u] 23)) = .ok v' w' ∧ RowS w' B v' (n + 1) (vs ++ [u]) ∧ w.grownBy w' v.ownBlock ∧ (v'.ownBlock = v.ownBlock ∨ ∀ g, v'.ownBlock = some g → w.heap.size ≤ g) := by
  obtain ⟨i0, hi, hz0, hz1, hz2⟩ := info_parts info_parts1
  obtain ⟨W, hW⟩ : ∃ W, W = w.alloc (.cells #[u] 23) := ⟨_, rfl⟩
  have hsW : W.heap.size = w.heap.size + 1 := by rw [hW]; simp
  have hnews : ∀ j x, ([u] : List Value)[j]? = some x → W.cell? ((⟨w.heap.size, 0, none⟩ : Addr).add j) = some x := by
    intro j x hj
    have hh : W.heap[w.heap.size]? = some (.cells #[u] 23) := by rw [hW]; exact heap_new w _
    cases j with
    | zero =>
      simp at hj
      subst hj
      simp [World.cell?, Addr.add, hh]
    | succ j => simp at hj
  have hownW : W.ownsRow B 23 1 v n vs := by rw [hW]; exact hown.2.2.alloc _
  have h1 : ∀ x ∈ ([u] : List Value), x.oneCell' = true := by intro x hx; simp at hx; subst hx; exact hu
  obtain ⟨v', w', hr, h2, h3, _⟩ := run_append_own (P := Tryd.prog) W B 25 ty 23 i0 (.slice none 0 0) 1 24 und_parts hi hz0 hz1 hz2 rfl (by decide) v n vs hownW ⟨w.heap.size, 0, none⟩ 1 1 [u] (by simp) hnews h1 (by unfold maxLen; omega) (by omega) (by omega)
  have o2 : RowS w' B v' (n + 1) (vs ++ [u]) := ⟨by rw [hown.1]; simp, fun x hx => by rcases List.mem_append.1 hx with h | h; exact hown.2.1 x h; exact h1 x h, h2⟩
  have g2 : w.grownBy w' v.ownBlock := grown_trans (by rw [hW]; exact grown_alloc w _ _) h3 (.inl rfl)
  rw [hW] at hr
  refine ⟨v', w', hr, o2, g2, ?_⟩
  rw [← hW] at hr
  rcases hownW.2 with ⟨rfl, h0⟩ | ⟨g, cap, cur, rfl, hg1, hg2, hg3, hg4, hg5, hg6⟩
  · subst h0
    have hr2 := run_append_nil (P := Tryd.prog) W 25 ty 23 i0 (.slice none 0 0) und_parts hi hz0 ⟨w.heap.size, 0, none⟩ 1 1 [u] (by rw [hz1]; simp) hnews (by decide) (by decide) (by rw [hz2]; decide)
    rw [hr] at hr2
    injection hr2 with e1 e2
    subst e1
    refine .inr fun g hg => ?_
    simp [Value.ownBlock] at hg
    omega
  · by_cases hroom : n + 1 ≤ cap
    · obtain ⟨w2, hr2, k2, _⟩ := run_append_own_spare (P := Tryd.prog) W B 25 ty 23 i0 1 und_parts hi hz1 g n cap vs hownW ⟨w.heap.size, 0, none⟩ 1 1 [u] (by simp) hnews h1 hroom
      rw [hr] at hr2
      injection hr2 with e1 e2
      subst e1
      exact .inl rfl
    · have holds : ∀ j x, vs[j]? = some x → W.cell? ((⟨g, 0, none⟩ : Addr).add j) = some x := hownW.cells (g := g) rfl
      have hr2 := run_append_grow (P := Tryd.prog) W 25 ty 23 i0 (.slice none 0 0) und_parts hi hz0 ⟨g, 0, none⟩ n cap vs (by rw [hz1, ← hown.1]; omega) holds ⟨w.heap.size, 0, none⟩ 1 1 [u] (by rw [hz1]; simp) hnews (by omega) (by omega) (by rw [hz2]; exact growslice_fits (by omega) (by omega))
      rw [hr] at hr2
      injection hr2 with e1 e2
      subst e1
      refine .inr fun x hx => ?_
      simp [Value.ownBlock] at hx
      omega
theorem wpList_append_one {w : World} {ops : Array Oper} {rest : List Oper} {o : Oper} {a : Act} {Q : Exit → Act → World → Prop} (hgd : o.guard = none) (s x : Operand)
    (ho : o.op = .call { callee := .builtin .append, args := #[s, x], argTypes := #[25, 25] })
    (B : Nat) (a0 : Option Addr) (m0 c0 : Nat) (vs : List Value) (hs : a.eval s = .slice a0 m0 c0) (hown : RowS w B (.slice a0 m0 c0) m0 vs)
    (u : Value) (hu : u.oneCell' = true) (hx : a.eval x = .slice (some ⟨w.heap.size, 0, none⟩) 1 1)
    (hbytes : m0 + 1 ≤ 41943040) (hB : B ≤ w.heap.size)
    (h : ∀ a' c' w', RowS w' B (.slice a' (m0 + 1) c') (m0 + 1) (vs ++ [u]) → w.grownBy w' (Value.slice a0 m0 c0).ownBlock → ((Value.slice a' (m0 + 1) c').ownBlock = (Value.slice a0 m0 c0).ownBlock ∨ ∀ g, (Value.slice a' (m0 + 1) c').ownBlock = some g → w.heap.size ≤ g) → wpList Tryd.prog ops Q rest (a.put o.dst (.slice a' (m0 + 1) c')) w') : wpList Tryd.prog ops Q (o :: rest) a (w.alloc (.cells #[u] 23)) := by
  obtain ⟨v', w', hr, h1, h2, h3⟩ := append_row o.type hown hu hbytes hB
  obtain ⟨a', c', rfl⟩ := rows_form h1.2.2
  refine wpList_plain hgd fun K hK => ?_
  unfold Oper.wp execOp
  simp only [ho, resolve, invoke, builtin, Sem.run_bind, Sem.run_pure, Result.andThen_ok, List.map_toArray, List.map_cons, List.map_nil, hs, hx, hr]
  exact hK _ _ (h a' c' w' h1 h2 h3)
/-- A book's box: the list, and what its items held. -/
def KBox (w : World) (g : Nat) (vL vW : Value) : Prop := w.heap[g]? = some (.cells #[vL, vW] 45 (0, 0))
theorem KBox.later {w w' : World} {g : Nat} {vL vW : Value} (h : KBox w g vL vW) (hb : Below w.heap.size w w') : KBox w' g vL vW := by
  unfold KBox at *
  rw [hb.block g (Array.getElem?_eq_some_iff.1 h).1]; exact h
theorem KBox.l {w : World} {g : Nat} {vL vW : Value} (h : KBox w g vL vW) : w.cell? ⟨g, 0, none⟩ = some vL := by unfold KBox at h; simp [World.cell?, h]
theorem KBox.w {w : World} {g : Nat} {vL vW : Value} (h : KBox w g vL vW) : w.cell? ⟨g, 1, none⟩ = some vW := by unfold KBox at h; simp [World.cell?, h]
theorem KBox.fz {w : World} {g : Nat} {vL vW : Value} (h : KBox w g vL vW) (i : Nat) : w.frozen? ⟨g, i, none⟩ = false := by unfold KBox at h; simp [World.frozen?, h]
theorem KBox.setL {w : World} {g : Nat} {vL vW : Value} (h : KBox w g vL vW) (x : Value) : KBox (w.setCell ⟨g, 0, none⟩ x) g x vW := by
  unfold KBox at *; simp [World.setCell, Array.getElem?_modify, h]
theorem KBox.setW {w : World} {g : Nat} {vL vW : Value} (h : KBox w g vL vW) (x : Value) : KBox (w.setCell ⟨g, 1, none⟩ x) g vL x := by
  unfold KBox at *; simp [World.setCell, Array.getElem?_modify, h]
theorem KBox.far {w w' : World} {g : Nat} {vL vW : Value} {o : Option Nat} (h : KBox w g vL vW) (k : w.grownBy w' o) (hne : ∀ x, o = some x → g ≠ x) : KBox w' g vL vW := by
  unfold KBox at *
  rw [k.block g (Array.getElem?_eq_some_iff.1 h).1 (fun e => hne g e.symm rfl)]
  exact h
/-- A box is no block of bytes, nor of a row; a row is no block of bytes. -/
theorem kbox_own {w : World} {B m g x : Nat} {v vL vW : Value} {xs : List Nat} (h : KBox w g vL vW) (o : Own w B v m xs) (hx : v.ownBlock = some x) : g ≠ x := by
  rintro rfl
  rcases o.2.2 with ⟨h1, _⟩ | ⟨g2, cap, cur, h3, _, h5, _⟩
  · rw [h1] at hx; cases hx
  · rw [h3] at hx
    simp only [Value.ownBlock, Option.some.injEq] at hx
    subst hx
    unfold KBox at h
    rw [h5] at h
    simp at h
theorem kbox_row {w : World} {B m g x : Nat} {v vL vW : Value} {vs : List Value} (h : KBox w g vL vW) (o : RowS w B v m vs) (hx : v.ownBlock = some x) : g ≠ x := by
  rintro rfl
  rcases o.2.2.2 with ⟨h1, _⟩ | ⟨g2, cap, cur, h3, _, h5, _⟩
  · rw [h1] at hx; cases hx
  · rw [h3] at hx
    simp only [Value.ownBlock, Option.some.injEq] at hx
    subst hx
    unfold KBox at h
    rw [h5] at h
    simp at h
theorem row_own {w : World} {B B' m n g : Nat} {u v : Value} {vs : List Value} {xs : List Nat} (h : RowS w B u m vs) (o : Own w B' v n xs) (hu : u.ownBlock = some g) : v.ownBlock ≠ some g := by
  intro hv
  rcases h.2.2.2 with ⟨h1, _⟩ | ⟨g2, cap, cur, h3, _, h5, _⟩
  · rw [h1] at hu; cases hu
  · rcases o.2.2 with ⟨k1, _⟩ | ⟨g4, cap4, cur4, k3, _, k5, _⟩
    · rw [k1] at hv; cases hv
    · rw [h3] at hu
      rw [k3] at hv
      simp only [Value.ownBlock, Option.some.injEq] at hu hv
      subst hu hv
      rw [h5] at k5
      simp at k5
theorem RowS.far {w w' : World} {B m : Nat} {v : Value} {o : Option Nat} {vs : List Value} (h : RowS w B v m vs) (k : w.grownBy w' o) (hne : ∀ g, o = some g → v.ownBlock ≠ some g) : RowS w' B v m vs := by
  refine ⟨h.1, h.2.1, h.2.2.1, ?_⟩
  rcases h.2.2.2 with h2 | ⟨g, cap, cur, h3, h4, h5, h6⟩
  · exact .inl h2
  · refine .inr ⟨g, cap, cur, h3, h4, ?_, h6⟩
    rw [k.block g (Array.getElem?_eq_some_iff.1 h5).1 ?_]
    · exact h5
    · intro e
      exact hne g e.symm (by rw [h3]; rfl)
theorem set_grown (w : World) (g i : Nat) (x : Value) : w.grownBy (w.setCell ⟨g, i, none⟩ x) (some g) := by
  have a := apart_set w g i x
  exact ⟨a.os, a.tape, a.output, a.size, fun j hj hne => a.block j hj (fun e => hne (by rw [e]))⟩

end Go.Proofs.YtledfniedoapiaaDoor

namespace Go.Proofs.YtledfniedoapiaaDoor
open Go.RowKit
set_option linter.unusedVariables false

/-- One call of a script: its values, and the bytes and parts that they read as. -/
structure OpD where
  k : Int
  vb : Value
  z : Int
  n : Int
  v : Int
  vp : Value
  bs : List Nat
  ps : List (List Nat)
def OpD.cells (o : OpD) : List Value := [.int .i64 o.k, o.vb, .int .i64 o.z, .int .i64 o.n, .int .u64 o.v, o.vp]
def OpD.Ok (w : World) (o : OpD) : Prop := Rd w o.vb o.bs ∧ RdP w o.vp o.ps ∧ o.bs.length ≤ 1048576 ∧ o.ps.length ≤ 1048576 ∧ (∀ i, (o.ps.getD i []).length ≤ 1048576) ∧ 0 ≤ o.v ∧ o.v < 18446744073709551616 ∧ -9223372036854775808 ≤ o.z ∧ o.z ≤ 9223372036854775807 ∧ -9223372036854775808 ≤ o.n ∧ o.n ≤ 9223372036854775807
/-- A script reads as calls. -/
def RdO (w : World) (v : Value) (os : List OpD) : Prop :=
  os.length ≤ 1048576 ∧ ∃ a cap, v = .slice a os.length cap ∧ (os = [] ∨ ∃ b off, a = some ⟨b, off, none⟩ ∧ ∀ i o, os[i]? = some o → (∀ j x, o.cells[j]? = some x → w.cell? ⟨b, off + i * 6 + j, none⟩ = some x) ∧ OpD.Ok w o)


end Go.Proofs.YtledfniedoapiaaDoor

namespace Go.Proofs.YtledfniedoapiaaDoor
open Go.RowKit
set_option linter.unusedVariables false


set_option maxRecDepth 100000 in
set_option maxHeartbeats 4000000 in
theorem numbers_2 {vb vp : Value} {bs : List Nat} {w : World} (z nn vv : Int) (hb : Rd w vb bs) :
    Calls Tryd.prog 31 #[.agg #[.int .i64 2, vb, .int .i64 z, .int .i64 nn, .int .u64 vv, vp]] w fun e w' => e = .returned (.bool true) ∧ Below w.heap.size w w' := by
  obtain ⟨ab, nb, capb, rfl⟩ := rd_slice hb
  obtain ⟨R, hR⟩ : ∃ R, R = uintZ bs z := ⟨_, rfl⟩
  obtain ⟨V, P, E⟩ := R
  have HR : Hid (uintZ bs z = (V, P, E)) := hR.symm
  clear hR
  have A1 := (Below.refl w.heap.size w).alloc (Nat.le_refl _) (.cells #[.int .i64 2, .slice ab nb capb, .int .i64 z, .int .i64 nn, .int .u64 vv, vp] 38)
  have rb1 := hb.later A1
  go_enter Tryd.func31, Tryd.ntmps31
  go_wp2_with fail
  refine (readUint_p rb1 z HR.out).mono ?_
  rintro e w2 ⟨rfl, rfl⟩
  go_wp2_with fail
  refine (refReadUint_p rb1 z HR.out).mono ?_
  rintro e w3 ⟨rfl, rfl⟩
  go_wp2_with fail
  refine (num_any _ _).mono ?_
  rintro e w5 ⟨rfl, rfl⟩
  go_wp2
  go_ret
  exact ⟨by simp, A1⟩

set_option maxRecDepth 100000 in
set_option maxHeartbeats 4000000 in
theorem numbers_6 {vb vp : Value} {bs : List Nat} {w : World} (z nn vv : Int) (hb : Rd w vb bs) :
    Calls Tryd.prog 31 #[.agg #[.int .i64 6, vb, .int .i64 z, .int .i64 nn, .int .u64 vv, vp]] w fun e w' => e = .returned (.bool true) ∧ Below w.heap.size w w' := by
  obtain ⟨ab, nb, capb, rfl⟩ := rd_slice hb
  obtain ⟨R, hR⟩ : ∃ R, R = riseZ bs z := ⟨_, rfl⟩
  obtain ⟨V, P, E⟩ := R
  have HR : Hid (riseZ bs z = (V, P, E)) := hR.symm
  clear hR
  have A1 := (Below.refl w.heap.size w).alloc (Nat.le_refl _) (.cells #[.int .i64 6, .slice ab nb capb, .int .i64 z, .int .i64 nn, .int .u64 vv, vp] 38)
  have rb1 := hb.later A1
  go_enter Tryd.func31, Tryd.ntmps31
  go_wp2_with fail
  refine (readRising_p rb1 z HR.out).mono ?_
  rintro e w2 ⟨rfl, rfl⟩
  go_wp2_with fail
  refine (refReadRising_p rb1 z HR.out).mono ?_
  rintro e w3 ⟨rfl, rfl⟩
  go_wp2_with fail
  refine (num_any _ _).mono ?_
  rintro e w5 ⟨rfl, rfl⟩
  go_wp2
  go_ret
  exact ⟨by simp, A1⟩

set_option maxRecDepth 100000 in
set_option maxHeartbeats 4000000 in
theorem numbers_8 {vb vp : Value} {bs : List Nat} {w : World} (z nn vv : Int) (hb : Rd w vb bs) :
    Calls Tryd.prog 31 #[.agg #[.int .i64 8, vb, .int .i64 z, .int .i64 nn, .int .u64 vv, vp]] w fun e w' => e = .returned (.bool true) ∧ Below w.heap.size w w' := by
  obtain ⟨ab, nb, capb, rfl⟩ := rd_slice hb
  obtain ⟨R, hR⟩ : ∃ R, R = fallZ bs z := ⟨_, rfl⟩
  obtain ⟨V, P, E⟩ := R
  have HR : Hid (fallZ bs z = (V, P, E)) := hR.symm
  clear hR
  have A1 := (Below.refl w.heap.size w).alloc (Nat.le_refl _) (.cells #[.int .i64 8, .slice ab nb capb, .int .i64 z, .int .i64 nn, .int .u64 vv, vp] 38)
  have rb1 := hb.later A1
  go_enter Tryd.func31, Tryd.ntmps31
  go_wp2_with fail
  refine (readFalling_p rb1 z HR.out).mono ?_
  rintro e w2 ⟨rfl, rfl⟩
  go_wp2_with fail
  refine (refReadFalling_p rb1 z HR.out).mono ?_
  rintro e w3 ⟨rfl, rfl⟩
  go_wp2_with fail
  refine (num_any _ _).mono ?_
  rintro e w5 ⟨rfl, rfl⟩
  go_wp2
  go_ret
  exact ⟨by simp, A1⟩

set_option maxRecDepth 100000 in
set_option maxHeartbeats 4000000 in
theorem numbers_5 {vb vp : Value} {bs : List Nat} {w : World} (z nn vv : Int) (hb : Rd w vb bs) (hn : nn ≤ 9223372036854775807) :
    Calls Tryd.prog 31 #[.agg #[.int .i64 5, vb, .int .i64 z, .int .i64 nn, .int .u64 vv, vp]] w fun e w' => e = .returned (.bool true) ∧ Below w.heap.size w w' := by
  obtain ⟨ab, nb, capb, rfl⟩ := rd_slice hb
  have A1 := (Below.refl w.heap.size w).alloc (Nat.le_refl _) (.cells #[.int .i64 5, .slice ab nb capb, .int .i64 z, .int .i64 nn, .int .u64 vv, vp] 38)
  by_cases hneg : nn < 0
  · have HNEG : Hid (nn < 0) := hneg
    clear hneg hn
    go_enter Tryd.func31, Tryd.ntmps31
    go_wp2_with fail
    refine (rising_neg nn HNEG.out _).mono ?_
    rintro e w2 ⟨rfl, rfl⟩
    go_wp2_with fail
    refine (refRising_neg nn HNEG.out _).mono ?_
    rintro e w3 ⟨rfl, rfl⟩
    go_wp2_with fail
    refine (same_any (Rd.nil _) (Rd.nil _)).mono ?_
    rintro e w4 ⟨rfl, rfl⟩
    rw [decide_eq_true rfl]
    go_wp2_with fail
    refine (num_any _ _).mono ?_
    rintro e w5 ⟨rfl, rfl⟩
    go_wp2
    go_ret
    exact ⟨by simp, A1⟩
  · obtain ⟨n, rfl⟩ := Int.eq_ofNat_of_zero_le (show 0 ≤ nn by omega)
    have HN : Hid (n < 9223372036854775808) := by unfold Hid; omega
    clear hneg hn
    have bx1 : Hid (Box (w.alloc (.cells #[.int .i64 5, .slice ab nb capb, .int .i64 z, .int .i64 (Int.ofNat n), .int .u64 vv, vp] 38)) w.heap.size 5 (.slice ab nb capb) z (Int.ofNat n) vv vp) := Box.new w 5 (.slice ab nb capb) z _ vv vp
    have HL : Hid (Bys (be8 n) ∧ (be8 n).length ≤ 281474976710656) := ⟨be8_bys _, by simp [be8]⟩
    go_enter Tryd.func31, Tryd.ntmps31
    go_wp2_with fail
    refine (rising_any n HN.out _).mono ?_
    rintro e w2 ⟨a2, m2, c2, rfl, own2, hb2⟩
    have bx2 : Hid (Box w2 w.heap.size 5 (.slice ab nb capb) z (Int.ofNat n) vv vp) := bx1.out.later hb2
    have hxn := bx2.out.n
    have r2 := own2.rd HL.out.1 (by rw [own2.1]; exact HL.out.2)
    have B2 := A1.trans (hb2.mono A1.size)
    clear hb2 own2 bx1
    go_wp2_with fail
    refine (refRising_any n HN.out _).mono ?_
    rintro e w3 ⟨a3, m3, c3, rfl, own3, hb3⟩
    have r3 := own3.rd HL.out.1 (by rw [own3.1]; exact HL.out.2)
    have r23 := r2.later hb3
    have B3 := B2.trans (hb3.mono B2.size)
    clear hb3 own3 r2 hxn
    go_wp2_with fail
    refine (same_any r23 r3).mono ?_
    rintro e w4 ⟨rfl, rfl⟩
    rw [decide_eq_true rfl]
    go_wp2_with fail
    refine (num_any _ _).mono ?_
    rintro e w5 ⟨rfl, rfl⟩
    go_wp2
    go_ret
    exact ⟨by simp, B3⟩

set_option maxRecDepth 100000 in
set_option maxHeartbeats 4000000 in
theorem numbers_7 {vb vp : Value} {bs : List Nat} {w : World} (z nn vv : Int) (hb : Rd w vb bs) (hn : nn ≤ 9223372036854775807) :
    Calls Tryd.prog 31 #[.agg #[.int .i64 7, vb, .int .i64 z, .int .i64 nn, .int .u64 vv, vp]] w fun e w' => e = .returned (.bool true) ∧ Below w.heap.size w w' := by
  obtain ⟨ab, nb, capb, rfl⟩ := rd_slice hb
  have A1 := (Below.refl w.heap.size w).alloc (Nat.le_refl _) (.cells #[.int .i64 7, .slice ab nb capb, .int .i64 z, .int .i64 nn, .int .u64 vv, vp] 38)
  by_cases hneg : nn < 0
  · have HNEG : Hid (nn < 0) := hneg
    clear hneg hn
    go_enter Tryd.func31, Tryd.ntmps31
    go_wp2_with fail
    refine (falling_neg nn HNEG.out _).mono ?_
    rintro e w2 ⟨rfl, rfl⟩
    go_wp2_with fail
    refine (refFalling_neg nn HNEG.out _).mono ?_
    rintro e w3 ⟨rfl, rfl⟩
    go_wp2_with fail
    refine (same_any (Rd.nil _) (Rd.nil _)).mono ?_
    rintro e w4 ⟨rfl, rfl⟩
    rw [decide_eq_true rfl]
    go_wp2_with fail
    refine (num_any _ _).mono ?_
    rintro e w5 ⟨rfl, rfl⟩
    go_wp2
    go_ret
    exact ⟨by simp, A1⟩
  · obtain ⟨n, rfl⟩ := Int.eq_ofNat_of_zero_le (show 0 ≤ nn by omega)
    have HN : Hid (n < 9223372036854775808) := by unfold Hid; omega
    clear hneg hn
    have bx1 : Hid (Box (w.alloc (.cells #[.int .i64 7, .slice ab nb capb, .int .i64 z, .int .i64 (Int.ofNat n), .int .u64 vv, vp] 38)) w.heap.size 7 (.slice ab nb capb) z (Int.ofNat n) vv vp) := Box.new w 7 (.slice ab nb capb) z _ vv vp
    have HL : Hid (Bys (be8 (9223372036854775807 - n)) ∧ (be8 (9223372036854775807 - n)).length ≤ 281474976710656) := ⟨be8_bys _, by simp [be8]⟩
    go_enter Tryd.func31, Tryd.ntmps31
    go_wp2_with fail
    refine (falling_any n HN.out _).mono ?_
    rintro e w2 ⟨a2, m2, c2, rfl, own2, hb2⟩
    have bx2 : Hid (Box w2 w.heap.size 7 (.slice ab nb capb) z (Int.ofNat n) vv vp) := bx1.out.later hb2
    have hxn := bx2.out.n
    have r2 := own2.rd HL.out.1 (by rw [own2.1]; exact HL.out.2)
    have B2 := A1.trans (hb2.mono A1.size)
    clear hb2 own2 bx1
    go_wp2_with fail
    refine (refFalling_any n HN.out _).mono ?_
    rintro e w3 ⟨a3, m3, c3, rfl, own3, hb3⟩
    have r3 := own3.rd HL.out.1 (by rw [own3.1]; exact HL.out.2)
    have r23 := r2.later hb3
    have B3 := B2.trans (hb3.mono B2.size)
    clear hb3 own3 r2 hxn
    go_wp2_with fail
    refine (same_any r23 r3).mono ?_
    rintro e w4 ⟨rfl, rfl⟩
    rw [decide_eq_true rfl]
    go_wp2_with fail
    refine (num_any _ _).mono ?_
    rintro e w5 ⟨rfl, rfl⟩
    go_wp2
    go_ret
    exact ⟨by simp, B3⟩

end Go.Proofs.YtledfniedoapiaaDoor
