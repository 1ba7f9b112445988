import Derived.Test.YthpdlclgiggekaaCell24
import Derived.Deep.DeepAppendRoom
import Derived.Maps.AppendAt
namespace Go.Proofs.Ythpdlclgiggekaa
open Go.RowKit
set_option linter.unusedVariables false

/-- append to what is owned, by bytes that lie somewhere: the old list stays as it was. -/
theorem append_keep {w : World} {B n m c : Nat} {v : Value} {xs bs : List Nat} (ty : TypeId) (hown : Own w B v n xs) (ad : Addr) (hm : m = bs.length) (hnews : ∀ j u, (bv bs)[j]? = some u → w.cell? (ad.add j) = some u) (hp : 0 < m) (hbytes : n + m ≤ 140737488355328) (hB : B ≤ w.heap.size) :
    ∃ v' w', (Builtin.append_ #[33, 33] ty #[v, .slice (some ad) m c]).run Try.prog w = .ok v' w' ∧ Own w' B v' (n + m) (xs ++ bs) ∧ w.grownBy w' v.ownBlock ∧ Own w' B v n xs ∧ (v'.ownBlock = v.ownBlock ∨ v'.ownBlock = some w.heap.size) := by
  obtain ⟨i0, hi, hz0, hz1, hz2⟩ := info_parts info_byte
  have hl : (bv bs).length = m * 1 := by simp [bv, hm]
  obtain ⟨v', w', hr, h2, h3, _⟩ := run_append_own (P := Try.prog) w B 33 ty 5 i0 (.int .u8 0) 1 1 und_bytes hi hz0 hz1 hz2 rfl (by decide) v n (bv xs) hown.2 ad m c (bv bs) hl hnews (bv_oneCell bs) (by unfold maxLen; omega) (by omega) hB
  have o2 : Own w' B v' (n + m) (xs ++ bs) := ⟨by rw [hown.1, hm]; simp, by simpa [bv] using h2⟩
  refine ⟨v', w', hr, o2, h3, ?_⟩
  rcases hown.2.2 with ⟨rfl, h0⟩ | ⟨g, cap, cur, rfl, hg1, hg2, hg3, hg4, hg5, hg6⟩
  · have hx : xs = [] := List.eq_nil_of_length_eq_zero (by rw [← hown.1]; exact h0)
    subst hx h0
    have hr2 := run_append_nil (P := Try.prog) w 33 ty 5 i0 (.int .u8 0) und_bytes hi hz0 ad m c (bv bs) (by rw [hz1]; exact hl) hnews hp (by omega) (by rw [hz2]; omega)
    rw [hr] at hr2
    injection hr2 with e1 e2
    subst e1
    exact ⟨own_nil _ _, .inr rfl⟩
  · by_cases hroom : n + m ≤ cap
    · obtain ⟨w2, hr2, k2, _⟩ := run_append_own_spare (P := Try.prog) w B 33 ty 5 i0 1 und_bytes hi hz1 g n cap (bv xs) hown.2 ad m c (bv bs) hl hnews (bv_oneCell bs) hroom
      rw [hr] at hr2
      injection hr2 with e1 e2
      subst e1 e2
      refine ⟨⟨hown.1, hown.2.1, ?_⟩, .inl rfl⟩
      rcases o2.2.2 with ⟨h5, _⟩ | ⟨g2, cap2, cur2, h5, h6, h7, h8, h9, h10, h11⟩
      · cases h5
      · simp only [Value.slice.injEq, Option.some.injEq] at h5
        obtain ⟨e3, _, rfl⟩ := h5
        obtain rfl : g = g2 := by injection e3
        refine .inr ⟨g, cap, cur2, rfl, h6, h7, hg3, hg4, h10, ?_⟩
        have e4 : cur2.toList.take (n * 1) = (cur2.toList.take ((n + m) * 1)).take (n * 1) := by
          rw [List.take_take, Nat.min_eq_left (by omega)]
        rw [e4, h11, bv_append, List.take_append_of_le_length (by rw [bv_length, ← hown.1]; omega), List.take_of_length_le (by rw [bv_length, ← hown.1]; omega)]
    · have holds : ∀ j u, (bv xs)[j]? = some u → w.cell? ((⟨g, 0, none⟩ : Addr).add j) = some u := hown.2.cells (g := g) rfl
      have hr2 := run_append_grow (P := Try.prog) w 33 ty 5 i0 (.int .u8 0) und_bytes hi hz0 ⟨g, 0, none⟩ n cap (bv xs) (by rw [hz1, bv_length, ← hown.1]; omega) holds ad m c (bv bs) (by rw [hz1]; exact hl) hnews (by omega) (by omega) (by rw [hz2]; exact growslice_fits (by omega) (by omega))
      rw [hr] at hr2
      injection hr2 with e1 e2
      subst e1
      refine ⟨?_, .inr rfl⟩
      refine ⟨hown.1, hown.2.1, .inr ⟨g, cap, cur, rfl, hg1, ?_, hg3, hg4, hg5, hg6⟩⟩
      rw [e2, heap_alloc_old w.drew _ (Array.getElem?_eq_some_iff.1 hg2).1]
      exact hg2


/-- What holds a mark goes on holding it. -/
def Keeps (mk : Nat) (w w' : World) : Prop := ∀ p : Addr, w.cell? p = some (.int .u8 (mk : Int)) → w'.cell? p = some (.int .u8 (mk : Int))
theorem Keeps.refl (mk : Nat) (w : World) : Keeps mk w w := fun _ h => h
theorem Keeps.trans {mk : Nat} {a b c : World} (h : Keeps mk a b) (k : Keeps mk b c) : Keeps mk a c := fun p hp => k p (h p hp)
theorem Keeps.alloc (mk : Nat) (w : World) (o : Obj) : Keeps mk w (w.alloc o) := fun p hp => by
  have hb : Below w.heap.size w (w.alloc o) := (Below.refl _ _).alloc (Nat.le_refl _) o
  rw [hb.cell (World.block_lt_of_cell? w _ hp)]; exact hp
theorem Keeps.below {mk : Nat} {w w' : World} (hb : Below w.heap.size w w') : Keeps mk w w' := fun p hp => by
  rw [hb.cell (World.block_lt_of_cell? w _ hp)]; exact hp
theorem Keeps.rd {mk k : Nat} {w w' : World} {v : Value} (h : Keeps mk w w') (hr : Rd w v (List.replicate k mk)) : Rd w' v (List.replicate k mk) := by
  obtain ⟨h1, a, cap, h2, h3, h4, h5, h6, h7⟩ := hr
  refine ⟨h1, a, cap, h2, h3, h4, h5, h6, ?_⟩
  rcases h7 with h7 | ⟨b, off, rfl, hc⟩
  · exact .inl h7
  · refine .inr ⟨b, off, rfl, fun i hi => ?_⟩
    have e : (List.replicate k mk).getD i 0 = mk := by
      have hi2 : i < k := by simpa using hi
      simp [List.getD, hi2]
    have := hc i hi
    rw [e] at this ⊢
    exact h _ this
theorem grown_trans {a b c : World} {o p : Option Nat} (h : a.grownBy b o) (k : b.grownBy c p) (hp : p = o ∨ ∀ g, p = some g → a.heap.size ≤ g) : a.grownBy c o :=
  ⟨k.os.trans h.os, k.tape.trans h.tape, k.output.trans h.output, Nat.le_trans h.size k.size, fun i hi hne => by
    rw [k.block i (Nat.lt_of_lt_of_le hi h.size) ?_, h.block i hi hne]
    rcases hp with rfl | hp
    · exact hne
    · intro e
      have := hp i e.symm
      omega⟩
theorem grown_alloc (w : World) (o : Obj) (p : Option Nat) : w.grownBy (w.alloc o) p := ⟨rfl, rfl, rfl, by simp, fun k hk _ => by
  have hb : Below w.heap.size w (w.alloc o) := (Below.refl _ _).alloc (Nat.le_refl _) o
  exact hb.block k hk⟩
theorem grown_below {w w' : World} (h : Below w.heap.size w w') (p : Option Nat) : w.grownBy w' p := ⟨h.os, h.tape, h.output, h.size, fun k hk _ => h.block k hk⟩
theorem below_grown {w w' : World} (h : w.grownBy w' none) : Below w.heap.size w w' := ⟨h.os, h.tape, h.output, h.size, fun k hk => h.block k hk (by simp)⟩

/-- append of marks: what held the mark holds it. -/
theorem append_marks {w w' : World} {B n m c mk : Nat} {v v' : Value} {xs : List Nat} (ty : TypeId) (hown : Own w B v n xs) (ad : Addr) (hnews : ∀ j u, (bv (List.replicate m mk))[j]? = some u → w.cell? (ad.add j) = some u) (hp : 0 < m) (hbytes : n + m ≤ 140737488355328)
    (hr : (Builtin.append_ #[33, 33] ty #[v, .slice (some ad) m c]).run Try.prog w = .ok v' w') : Keeps mk w w' := by
  obtain ⟨i0, hi, hz0, hz1, hz2⟩ := info_parts info_byte
  have hl : (bv (List.replicate m mk)).length = m * 1 := by simp [bv]
  rcases hown.2.2 with ⟨rfl, h0⟩ | ⟨g, cap, cur, rfl, hg1, hg2, hg3, hg4, hg5, hg6⟩
  · have hx : xs = [] := List.eq_nil_of_length_eq_zero (by rw [← hown.1]; exact h0)
    subst hx h0
    have hr2 := run_append_nil (P := Try.prog) w 33 ty 5 i0 (.int .u8 0) und_bytes hi hz0 ad m c _ (by rw [hz1]; exact hl) hnews hp (by omega) (by rw [hz2]; omega)
    rw [hr] at hr2
    injection hr2 with e1 e2
    rw [e2]
    exact Keeps.below (((Below.refl w.heap.size w).drew).alloc (Nat.le_refl _) _)
  · by_cases hroom : n + m ≤ cap
    · have hfit : n * i0.size + (bv (List.replicate m mk)).length ≤ cur.size := by rw [hz1, hl, hg5]; omega
      have hr2 := run_append_room (P := Try.prog) w 33 ty 5 i0 und_bytes hi g n cap cur hg2 ad m c _ (by rw [hz1]; exact hl) hnews (bv_oneCell _) hroom hfit
      rw [hr] at hr2
      injection hr2 with e1 e2
      rw [e2]
      intro p hc
      obtain ⟨pb, po, ps⟩ := p
      obtain rfl : ps = none := World.cell?_spot hc
      by_cases hb : pb = g
      · subst hb
        rw [cell_setRow_same w pb po cur _ _ _ hg2]
        have hcur : cur[po]? = some (.int .u8 (mk : Int)) := by simpa [World.cell?, hg2] using hc
        have hlt : po < cur.size := (Array.getElem?_eq_some_iff.1 hcur).1
        have hcl : cur.toList[po]? = some (.int .u8 (mk : Int)) := by simpa using hcur
        simp only [hz1, Nat.mul_one, List.getElem?_toArray, hl] at *
        by_cases h1 : po < n
        · rw [List.append_assoc, List.getElem?_append_left (by simp; omega), List.getElem?_take_of_lt h1]
          exact hcl
        · by_cases h2 : po < n + m
          · rw [List.getElem?_append_left (by simp [bv]; omega), List.getElem?_append_right (by simp; omega)]
            have e : (List.take n cur.toList).length = n := by simp; omega
            rw [e]
            simp [bv, List.getElem?_replicate]
            omega
          · rw [List.getElem?_append_right (by simp [bv]; omega), List.getElem?_drop]
            have e : n + m + (po - (List.take n cur.toList ++ bv (List.replicate m mk)).length) = po := by simp [bv]; omega
            rw [e]
            exact hcl
      · rw [cell_setRow_other w g _ ⟨pb, po, none⟩ hb]
        exact hc
    · have holds : ∀ j u, (bv xs)[j]? = some u → w.cell? ((⟨g, 0, none⟩ : Addr).add j) = some u := hown.2.cells (g := g) rfl
      have hr2 := run_append_grow (P := Try.prog) w 33 ty 5 i0 (.int .u8 0) und_bytes hi hz0 ⟨g, 0, none⟩ n cap (bv xs) (by rw [hz1, bv_length, ← hown.1]; omega) holds ad m c _ (by rw [hz1]; exact hl) hnews (by omega) (by omega) (by rw [hz2]; exact growslice_fits (by omega) (by omega))
      rw [hr] at hr2
      injection hr2 with e1 e2
      rw [e2]
      exact Keeps.below (((Below.refl w.heap.size w).drew).alloc (Nat.le_refl _) _)

/-- append(own, mark, ..): all that is wanted of it. -/
theorem wpList_append_mark {w : World} {ops : Array Oper} {rest : List Oper} {o : Oper} {a : Act} {Q : Exit → Act → World → Prop} (hgd : o.guard = none) (s x : Operand)
    (ho : o.op = .call { callee := .builtin .append, args := #[s, x], argTypes := #[33, 33] })
    (B : Nat) (a0 : Option Addr) (m0 c0 mk : Nat) (acc : List Nat) (hs : a.eval s = .slice a0 m0 c0) (hown : Own w B (.slice a0 m0 c0) m0 acc)
    (vs : List Value) (m : Nat) (hx : a.eval x = .slice (some ⟨w.heap.size, 0, none⟩) m m) (hvs : vs = bv (List.replicate m mk)) (hp : 0 < m)
    (hbytes : m0 + m ≤ 140737488355328) (hB : B ≤ w.heap.size)
    (h : ∀ a' m' c' w', Hid (m' = m0 + m) → Own w' B (.slice a' m' c') m' (acc ++ List.replicate m mk) → w.grownBy w' (Value.slice a0 m0 c0).ownBlock → Own w' B (.slice a0 m0 c0) m0 acc → ((Value.slice a' m' c').ownBlock = (Value.slice a0 m0 c0).ownBlock ∨ ∀ g, (Value.slice a' m' c').ownBlock = some g → w.heap.size ≤ g) → Keeps mk w w' → wpList Try.prog ops Q rest (a.put o.dst (.slice a' m' c')) w') : wpList Try.prog ops Q (o :: rest) a (w.alloc (.cells vs.toArray 5)) := by
  subst hvs
  have ho2 : Own (w.alloc (.cells (bv (List.replicate m mk)).toArray 5)) B (.slice a0 m0 c0) m0 acc := ⟨hown.1, hown.2.alloc _⟩
  obtain ⟨v', w', hr, h1, h2, h3, h4⟩ := append_keep (w := w.alloc (.cells (bv (List.replicate m mk)).toArray 5)) (B := B) (c := m) (bs := List.replicate m mk) o.type ho2 ⟨w.heap.size, 0, none⟩ (by simp) (news_new _ _ _) hp hbytes (by simp; omega)
  have hk := append_marks o.type ho2 ⟨w.heap.size, 0, none⟩ (news_new _ _ _) hp hbytes hr
  obtain ⟨a', c', rfl⟩ := own_form h1.2
  refine wpList_plain hgd fun K hK => ?_
  unfold Oper.wp execOp
  simp only [ho, resolve, invoke, builtin, Sem.run_bind, Sem.run_pure, Result.andThen_ok, List.map_toArray, List.map_cons, List.map_nil, hs, hx, hr]
  refine hK _ _ (h a' _ c' w' (by unfold Hid; rfl) h1 (grown_trans (grown_alloc w _ _) h2 (.inl rfl)) h3 ?_ ((Keeps.alloc mk w _).trans hk))
  rcases h4 with h4 | h4
  · exact .inl h4
  · refine .inr fun g hg => ?_
    rw [h4] at hg
    simp at hg
    omega

end Go.Proofs.Ythpdlclgiggekaa
