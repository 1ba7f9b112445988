import Derived.Test.YthpdlclgiggekaaWords
import Derived.Laws.AppendOwnNone
namespace Go.Proofs.Ythpdlclgiggekaa
open Go.RowKit
set_option linter.unusedVariables false

/-- A part of what is read. -/
theorem Rd.sub {w : World} {b off n cap : Nat} {bs : List Nat} (h : Rd w (.slice (some ⟨b, off, none⟩) n cap) bs) (i j : Nat) (hij : i ≤ j) (hj : j ≤ n) {off' n' cap' : Nat}
    (ho : off' = off + i) (hn : n' = j - i) (hc : cap' = cap - i) : Rd w (.slice (some ⟨b, off', none⟩) n' cap') ((bs.take j).drop i) := by
  obtain ⟨h1, a0, cap0, h2, h3, h4, h5, h6, h7⟩ := h
  simp only [Value.slice.injEq] at h2
  obtain ⟨rfl, rfl, rfl⟩ := h2
  have hl : ((bs.take j).drop i).length = j - i := by simp; omega
  subst ho hn hc
  refine ⟨fun x hx => h1 x (List.mem_of_mem_take (List.mem_of_mem_drop hx)), _, cap - i, by rw [hl], by rw [hl]; omega, Nat.le_trans (Nat.sub_le _ _) h4, by rw [hl]; omega, .inr ⟨b, off + i, rfl⟩, ?_⟩
  rcases h7 with rfl | ⟨b', off', h8, hcell⟩
  · exact .inl (by simp)
  · cases h8
    refine .inr ⟨b, off + i, rfl, fun k hk => ?_⟩
    rw [hl] at hk
    have := hcell (i + k) (by omega)
    rw [Nat.add_assoc, this]
    simp [List.getElem?_take_of_lt (show i + k < j by omega)]
theorem Rd.upto {w : World} {b off n cap : Nat} {bs : List Nat} (h : Rd w (.slice (some ⟨b, off, none⟩) n cap) bs) (j : Nat) (hj : j ≤ n) : Rd w (.slice (some ⟨b, off, none⟩) j cap) (bs.take j) := by
  have := h.sub 0 j (Nat.zero_le _) hj (off' := off) (n' := j) (cap' := cap) rfl (by omega) (by omega)
  simpa using this
theorem Rd.past {w : World} {b off n cap : Nat} {bs : List Nat} (h : Rd w (.slice (some ⟨b, off, none⟩) n cap) bs) (i : Nat) (hi : i ≤ n) {off' n' cap' : Nat}
    (ho : off' = off + i) (hn : n' = n - i) (hc : cap' = cap - i) : Rd w (.slice (some ⟨b, off', none⟩) n' cap') (bs.drop i) := by
  have hl : n = bs.length := by obtain ⟨_, _, _, h2, _⟩ := h; simp only [Value.slice.injEq] at h2; exact h2.2.1
  have := h.sub i n hi (Nat.le_refl _) ho hn hc
  rwa [hl, List.take_length] at this
/-- Nothing is read of an empty slice, whatever its address. -/
theorem Rd.empty (w : World) (b off : Nat) (cap : Nat) (hc : cap ≤ maxLen) : Rd w (.slice (some ⟨b, off, none⟩) 0 cap) [] :=
  ⟨fun x hx => by simp at hx, _, cap, rfl, Nat.zero_le _, hc, by simp, .inr ⟨b, off, rfl⟩, .inl rfl⟩

theorem rd_lens {w : World} {a : Option Addr} {n cap : Nat} {bs : List Nat} (h : Rd w (.slice a n cap) bs) : n = bs.length ∧ n ≤ cap ∧ cap ≤ maxLen ∧ n ≤ 281474976710656 := by
  obtain ⟨_, a1, c1, h2, hle, hm, hl48, _⟩ := h
  simp only [Value.slice.injEq] at h2
  obtain ⟨rfl, rfl, rfl⟩ := h2
  exact ⟨rfl, hle, hm, hl48⟩
theorem rd_slice {w : World} {v : Value} {bs : List Nat} (h : Rd w v bs) : ∃ a n cap, v = .slice a n cap := by
  obtain ⟨_, a1, c1, h2, _⟩ := h
  exact ⟨_, _, _, h2⟩
theorem rd_some {w : World} {a : Option Addr} {n cap : Nat} {bs : List Nat} (h : Rd w (.slice a n cap) bs) : (cap = 0 ∧ n = 0 ∧ bs = []) ∨ ∃ b off, a = some ⟨b, off, none⟩ := by
  obtain ⟨_, a1, c1, h2, hle, hm, hl48, hn, hat⟩ := h
  simp only [Value.slice.injEq] at h2
  obtain ⟨rfl, rfl, rfl⟩ := h2
  rcases hn with rfl | ⟨b, off, rfl⟩
  · exact .inl ⟨rfl, by omega, List.eq_nil_of_length_eq_zero (by omega)⟩
  · exact .inr ⟨b, off, rfl⟩
theorem rd_cell {w : World} {b off n cap : Nat} {bs : List Nat} (h : Rd w (.slice (some ⟨b, off, none⟩) n cap) bs) (i : Nat) (hi : i < n) : w.cell? ⟨b, off + i, none⟩ = some (.int .u8 ((bs.getD i 0 : Nat) : Int)) ∧ bs.getD i 0 < 256 := by
  obtain ⟨h1, a0, cap0, h2, h3, h4, h5, h6, h7⟩ := h
  simp only [Value.slice.injEq] at h2
  obtain ⟨rfl, rfl, rfl⟩ := h2
  rcases h7 with rfl | ⟨b', off', h8, hcell⟩
  · simp at hi
  · cases h8
    exact ⟨hcell i hi, h1.get i⟩

set_option maxRecDepth 100000 in
set_option maxHeartbeats 400000 in
theorem clone_any {v : Value} {bs : List Nat} {w : World} (hr : Rd w v bs) (h47 : bs.length ≤ 140737488355328) :
    Calls Try.prog 94 #[v] w fun e w' => ∃ s, e = .returned s ∧ w'.ownsRow w.heap.size 5 1 s bs.length (bv bs) ∧ Below w.heap.size w w' := by
  obtain ⟨i0, hi, hz0, hz1, hz2⟩ := info_parts info_byte
  obtain ⟨hby, a, cap, rfl, hle, hm, hl48, hnone, hat⟩ := hr
  have heq := fun w => Lib.run_eql_slice_nil (P := Try.prog) w 33 5 a bs.length cap 0 0 und_bytes
  cases a with
  | none =>
    have hb0 : bs = [] := by
      rcases hnone with h | ⟨b, off, h⟩
      · exact List.eq_nil_of_length_eq_zero (by omega)
      · cases h
    subst hb0
    simp only [List.length_nil, Option.isNone_none] at heq
    go_enter Try.func94, Try.ntmps94
    go_wp2
    go_ret
    exact ⟨_, rfl, World.ownsRow_nil _ _ _ _, Below.refl _ _⟩
  | some x =>
    have hc' := (hat.later ((Below.refl _ _).alloc (Nat.le_refl _) (.cells #[] 5))).add
    clear hat hnone
    go_enter Try.func94, Try.ntmps94
    go_wp2_with (at_builtin; refine wpList_append_own _ rfl _ _ 33 rfl w.heap.size 5 i0 (.int .u8 0) 1 1 und_bytes hi hz0 hz1 hz2 rfl (by decide) _ 0 (bv []) rfl (World.ownsRow_made w #[] 0 (Nat.le_refl _) (Nat.zero_le _) rfl) x bs.length cap (bv bs) rfl ?c0 hc' (bv_oneCell bs) ?c3 ?c4 ?c5 ?_)
    case c0 => simp [bv]
    case c3 => unfold maxLen; omega
    case c4 => omega
    case c5 => simp
    intro v' w1 hown' hgrow _
    have hb1 : Below w.heap.size w w1 := ((Below.refl _ w).alloc (Nat.le_refl _) _).grown hgrow (by simp) (fun k hk => by simp [Value.ownBlock] at hk; omega)
    clear hgrow hc'
    go_wp2
    go_ret
    refine ⟨_, rfl, ?_, hb1⟩
    simpa [bv] using hown'

/-- append(own, bytes...): whatever address the bytes lie at, nil too. -/
theorem wpList_append_at {w : World} {ops : Array Oper} {rest : List Oper} {o : Oper} {a : Act} {Q : Exit → Act → World → Prop} (hgd : o.guard = none) (s x : Operand)
    (ho : o.op = .call { callee := .builtin .append, args := #[s, x], argTypes := #[33, 33] })
    (B : Nat) (a0 : Option Addr) (m0 c0 : Nat) (acc : List Nat) (hs : a.eval s = .slice a0 m0 c0) (hown : Own w B (.slice a0 m0 c0) m0 acc)
    (ao : Option Addr) (m c : Nat) (bs : List Nat) (hx : a.eval x = .slice ao m c) (hrd : Rd w (.slice ao m c) bs)
    (hbytes : m0 + m ≤ 140737488355328) (hB : B ≤ w.heap.size)
    (h : ∀ a' m' c' w', Own w' B (.slice a' m' c') m' (acc ++ bs) → Below B w w' → wpList Try.prog ops Q rest (a.put o.dst (.slice a' m' c')) w') : wpList Try.prog ops Q (o :: rest) a w := by
  obtain ⟨i0, hi, hz0, hz1, hz2⟩ := info_parts info_byte
  obtain ⟨hby, a1, c1, h2, hle, hm, hl48, hnone, hat⟩ := hrd
  simp only [Value.slice.injEq] at h2
  obtain ⟨rfl, rfl, rfl⟩ := h2
  cases ao with
  | none =>
    have hb0 : bs = [] ∧ c = 0 := by
      rcases hnone with h | ⟨b, off, h⟩
      · exact ⟨List.eq_nil_of_length_eq_zero (by omega), h⟩
      · cases h
    obtain ⟨rfl, rfl⟩ := hb0
    refine wpList_append_own_none hgd s x 33 ho B 5 i0 1 und_bytes hi _ _ _ hs hown.2 (by simpa using hx) ?_
    exact h _ _ _ _ (by simpa using hown) (Below.refl _ _)
  | some ad =>
    refine wpList_append_own _ hgd s x 33 ho B 5 i0 (.int .u8 0) 1 1 und_bytes hi hz0 hz1 hz2 rfl (by decide) _ m0 (bv acc) hs hown.2 ad bs.length c (bv bs) hx (by simp [bv]) hat.add (bv_oneCell bs) (by unfold maxLen; omega) (by omega) hB ?_
    intro v' w' h1 h2 _
    obtain ⟨a', c', rfl⟩ := own_form h1
    refine h a' _ c' w' ⟨by rw [hown.1]; simp, by simpa [bv] using h1⟩ ((Below.refl B w).grown h2 hB (fun k hk => (hown.2.lt k hk).1))

/-- append(own, x, y, ..): bytes that were just laid into a block of their own. -/
theorem wpList_append_new {w : World} {ops : Array Oper} {rest : List Oper} {o : Oper} {a : Act} {Q : Exit → Act → World → Prop} (hgd : o.guard = none) (s x : Operand)
    (ho : o.op = .call { callee := .builtin .append, args := #[s, x], argTypes := #[33, 33] })
    (B : Nat) (a0 : Option Addr) (m0 c0 : Nat) (acc : List Nat) (hs : a.eval s = .slice a0 m0 c0) (hown : Own w B (.slice a0 m0 c0) m0 acc)
    (vs : List Value) (m : Nat) (hx : a.eval x = .slice (some ⟨w.heap.size, 0, none⟩) m m) (bs : List Nat) (hvs : vs = bv bs) (hm : m = bs.length)
    (hbytes : m0 + m ≤ 140737488355328) (hB : B ≤ w.heap.size)
    (h : ∀ a' m' c' w', Own w' B (.slice a' m' c') m' (acc ++ bs) → Below B w w' → wpList Try.prog ops Q rest (a.put o.dst (.slice a' m' c')) w') : wpList Try.prog ops Q (o :: rest) a (w.alloc (.cells vs.toArray 5)) := by
  obtain ⟨i0, hi, hz0, hz1, hz2⟩ := info_parts info_byte
  subst hvs
  refine wpList_append_own _ hgd s x 33 ho B 5 i0 (.int .u8 0) 1 1 und_bytes hi hz0 hz1 hz2 rfl (by decide) _ m0 (bv acc) hs (hown.2.alloc _) ⟨w.heap.size, 0, none⟩ m m (bv bs) hx (by simp [bv, hm]) (news_new _ _ _) (bv_oneCell bs) (by unfold maxLen; omega) (by omega) (by simp; omega) ?_
  intro v' w' h1 h2 _
  obtain ⟨a', c', rfl⟩ := own_form h1
  refine h a' _ c' w' ⟨by rw [hown.1, hm]; simp, by simpa [bv] using h1⟩ (((Below.refl B w).alloc hB _).grown h2 (by simp; omega) (fun k hk => (hown.2.lt k hk).1))

end Go.Proofs.Ythpdlclgiggekaa
