import Derived.Test.YtncbiohmogmcpaaDoorStarted
namespace Go.Proofs.YtncbiohmogmcpaaDoor
open Go.RowKit
set_option linter.unusedVariables false

theorem info_row : (Tryd.prog.info? 27).map (fun i => (i.zero, i.size, i.bytes)) = some (some (.slice none 0 0), 1, 24) := by kernel_rfl
def marks : List Nat := [201, 202, 203, 204, 205]
theorem marks_bys : Bys marks := by intro x hx; simp [marks] at hx; omega

theorem heap_new (w : World) (o : Obj) : (w.alloc o).heap[w.heap.size]? = some o := by
  show (w.heap.push o)[w.heap.size]? = some o
  simp

/-- A row of slices. -/
abbrev Row (w : World) (B : Nat) (s : Value) (us : List Value) : Prop := w.ownsRow B 27 1 s us.length us
theorem Row.later {w w' : World} {B n : Nat} {v : Value} {xs : List Value} (h : w.ownsRow B 27 1 v n xs) (hb : Below w.heap.size w w') : w'.ownsRow B 27 1 v n xs := by
  refine ⟨h.1, ?_⟩
  rcases h.2 with h2 | ⟨g, cap, cur, h3, h4, h5, h6⟩
  · exact .inl h2
  · exact .inr ⟨g, cap, cur, h3, h4, by rw [hb.block g (Array.getElem?_eq_some_iff.1 h5).1]; exact h5, h6⟩
/-- What owns its bytes keeps them while a row of slices grows. -/
theorem Own.beside {w w' : World} {B B2 n m : Nat} {s v : Value} {us : List Value} {xs : List Nat} (h : Own w B v m xs) (hr : w.ownsRow B2 27 1 s n us) (k : w.grownBy w' s.ownBlock) : Own w' B v m xs := by
  refine ⟨h.1, h.2.1, ?_⟩
  rcases h.2.2 with h2 | ⟨g, cap, cur, h3, h4, h5, h6⟩
  · exact .inl h2
  · refine .inr ⟨g, cap, cur, h3, h4, ?_, h6⟩
    rw [k.block g (Array.getElem?_eq_some_iff.1 h5).1 ?_]
    · exact h5
    · rcases hr.2 with ⟨rfl, _⟩ | ⟨g2, cap2, cur2, rfl, _, h7, _⟩
      · simp [Value.ownBlock]
      · simp only [Value.ownBlock]
        intro e
        obtain rfl : g = g2 := by simpa using e
        rw [h5] at h7
        have h8 : 5 = 27 := by
          have := Option.some.inj h7
          injection this
        exact absurd h8 (by decide)

/-- Bytes with marks behind them, and the slice that stops ahead of the marks. -/
def Wide (w : World) (B : Nat) (u : Value) (bs : List Nat) : Prop := ∃ g c, u = .slice (some ⟨g, 0, none⟩) bs.length c ∧ bs.length + 5 ≤ c ∧ c ≤ maxLen ∧ Own w B (.slice (some ⟨g, 0, none⟩) (bs.length + 5) c) (bs.length + 5) (bs ++ marks)
theorem Wide.later {w w' : World} {B : Nat} {u : Value} {bs : List Nat} (h : Wide w B u bs) (hb : Below w.heap.size w w') : Wide w' B u bs := by
  obtain ⟨g, c, h1, h2, h3, h4⟩ := h
  exact ⟨g, c, h1, h2, h3, h4.later hb⟩
theorem Wide.beside {w w' : World} {B B2 n : Nat} {s u : Value} {us : List Value} {bs : List Nat} (h : Wide w B u bs) (hr : w.ownsRow B2 27 1 s n us) (k : w.grownBy w' s.ownBlock) : Wide w' B u bs := by
  obtain ⟨g, c, h1, h2, h3, h4⟩ := h
  exact ⟨g, c, h1, h2, h3, h4.beside hr k⟩
theorem Wide.all {w : World} {B g c : Nat} {bs : List Nat} (h4 : Own w B (.slice (some ⟨g, 0, none⟩) (bs.length + 5) c) (bs.length + 5) (bs ++ marks)) (hb : Bys bs) (hl : bs.length ≤ 140737488355328) : Rd w (.slice (some ⟨g, 0, none⟩) (bs.length + 5) c) (bs ++ marks) :=
  h4.rd (hb.app marks_bys) (by omega)
theorem Wide.rd {w : World} {B : Nat} {u : Value} {bs : List Nat} (h : Wide w B u bs) (hb : Bys bs) (hl : bs.length ≤ 140737488355328) : Rd w u bs := by
  obtain ⟨g, c, rfl, h2, h3, h4⟩ := h
  have := (Wide.all h4 hb hl).upto bs.length (by omega)
  simpa using this

set_option maxRecDepth 100000 in
set_option maxHeartbeats 1000000 in
theorem roomy_any {v : Value} {bs : List Nat} {w : World} (hr : Rd w v bs) (hl : bs.length ≤ 140737488355000) :
    Calls Tryd.prog 60 #[v] w fun e w' => ∃ g c, e = .returned (.slice (some ⟨g, 0, none⟩) (bs.length + 5) c) ∧ bs.length + 5 ≤ c ∧ c ≤ maxLen ∧ Own w' w.heap.size (.slice (some ⟨g, 0, none⟩) (bs.length + 5) c) (bs.length + 5) (bs ++ marks) ∧ Below w.heap.size w w' := by
  obtain ⟨a, n, cap, rfl⟩ := rd_slice hr
  obtain ⟨hn, hle, hm, hl48⟩ := rd_lens hr
  rw [← hn] at hl ⊢
  have HN : Hid (n = bs.length) := hn
  clear hn
  have HS : ∀ (m : Nat), m = ([] ++ bs).length → m = n := by intro m h; rw [h, HN.out]; simp
  go_enter Tryd.func60, Tryd.ntmps60
  go_wp2_with (first
    | (at_builtin; refine wpList_append_at rfl (.tmp 4) _ rfl w.heap.size none 0 0 [] rfl ⟨rfl, World.ownsRow_nil _ _ _ _⟩ a n cap bs rfl hr (by omega) (Nat.le_refl _) ?_; intro a5 m5 c5 w5 own5 hb5)
    | (at_builtin; refine wpList_append_new rfl (.tmp 7) _ rfl w.heap.size a5 m5 c5 _ rfl own5 [_, _, _, _, _] 5 rfl marks rfl rfl (by have := HS m5 own5.1; omega) hb5.size ?_; intro a6 m6 c6 w6 own6 hb6))
  go_ret
  have hm6 : m6 = n + 5 := by rw [own6.1, HN.out]; simp [marks]
  subst hm6
  rcases own6.2.2 with ⟨h1, h2⟩ | ⟨g, cp, cur, h1, h2, h3, h4, h5, h6⟩
  · omega
  · simp only [Value.slice.injEq] at h1
    obtain ⟨rfl, _, rfl⟩ := h1
    exact ⟨g, c6, rfl, h4, h5, by simpa using own6, hb5.trans hb6⟩

/-- append(parts, u): a row of slices, one more. -/
theorem wpList_append_u {w : World} {ops : Array Oper} {rest : List Oper} {o : Oper} {a : Act} {Q : Exit → Act → World → Prop} (hgd : o.guard = none) (s x : Operand)
    (ho : o.op = .call { callee := .builtin .append, args := #[s, x], argTypes := #[32, 32] })
    (B : Nat) (a0 : Option Addr) (m0 c0 : Nat) (us : List Value) (hs : a.eval s = .slice a0 m0 c0) (hown : w.ownsRow B 27 1 (.slice a0 m0 c0) m0 us)
    (u : Value) (hu : u.oneCell' = true) (g : Nat) (hg : g = w.heap.size) (hx : a.eval x = .slice (some ⟨g, 0, none⟩) 1 1)
    (hbytes : m0 ≤ 1048600) (hB : B ≤ w.heap.size)
    (h : ∀ a' c' w', w'.ownsRow B 27 1 (.slice a' (m0 + 1) c') (m0 + 1) (us ++ [u]) → (w.alloc (.cells #[u] 27)).grownBy w' (Value.slice a0 m0 c0).ownBlock → Below B w w' → wpList Tryd.prog ops Q rest (a.put o.dst (.slice a' (m0 + 1) c')) w') : wpList Tryd.prog ops Q (o :: rest) a (w.alloc (.cells #[u] 27)) := by
  subst hg
  obtain ⟨i0, hi, hz0, hz1, hz2⟩ := info_parts info_row
  refine wpList_append_own _ hgd s x 32 ho B 27 i0 (.slice none 0 0) 1 24 und_parts hi hz0 hz1 hz2 rfl (by decide) _ m0 us hs (hown.alloc _) ⟨w.heap.size, 0, none⟩ 1 1 [u] hx rfl (news_new _ _ _) (by intro y hy; simp at hy; subst hy; exact hu) (by unfold maxLen; omega) (by omega) (by simp; omega) ?_
  intro v' w' h1 h2 _
  obtain ⟨a', c', rfl⟩ : ∃ a c, v' = .slice a (m0 + 1) c := by
    rcases h1.2 with ⟨rfl, h0⟩ | ⟨g, cap, cur, rfl, _⟩
    · omega
    · exact ⟨_, _, rfl⟩
  exact h a' c' w' h1 h2 (((Below.refl B w).alloc hB _).grown h2 (by simp; omega) (fun k hk => (hown.lt k hk).1))

theorem Row.cell {w : World} {B n : Nat} {a : Option Addr} {c : Nat} {us : List Value} (h : w.ownsRow B 27 1 (.slice a n c) n us) (i : Nat) (hi : i < n) : ∃ g u, a = some ⟨g, 0, none⟩ ∧ us[i]? = some u ∧ w.cell? ⟨g, i, none⟩ = some u ∧ n ≤ c ∧ c ≤ maxLen := by
  have hl : us.length = n := by have := h.1; omega
  rcases h.2 with ⟨h1, h2⟩ | ⟨g, cap, cur, h1, h2, h3, h4, h5, h6, h7⟩
  · omega
  · simp only [Value.slice.injEq] at h1
    obtain ⟨rfl, _, rfl⟩ := h1
    obtain ⟨u, hu⟩ : ∃ u, us[i]? = some u := ⟨us[i], List.getElem?_eq_getElem (by omega)⟩
    refine ⟨g, u, rfl, hu, ?_, h4, h5⟩
    rw [← h7, List.getElem?_take_of_lt (by omega)] at hu
    have e2 : cur[i]? = some u := by simpa using hu
    simp [World.cell?, h3, e2]

/-- A call's struct lies in a block of its own. -/
def Box (w : World) (g : Nat) (k : Int) (vb : Value) (z nn vv : Int) (vp : Value) : Prop := w.heap[g]? = some (.cells #[.int .i64 k, vb, .int .i64 z, .int .i64 nn, .int .u64 vv, vp] 34 (0, 0))
theorem Box.later {w w' : World} {g : Nat} {k : Int} {vb : Value} {z nn vv : Int} {vp : Value} (h : Box w g k vb z nn vv vp) (hb : Below w.heap.size w w') : Box w' g k vb z nn vv vp := by
  unfold Box at *
  rw [hb.block g (Array.getElem?_eq_some_iff.1 h).1]; exact h
theorem Box.beside {w w' : World} {g : Nat} {k : Int} {vb : Value} {z nn vv : Int} {vp : Value} {B2 n : Nat} {s : Value} {us : List Value} (h : Box w g k vb z nn vv vp) (hr : w.ownsRow B2 27 1 s n us) (kk : w.grownBy w' s.ownBlock) : Box w' g k vb z nn vv vp := by
  unfold Box at *
  rw [kk.block g (Array.getElem?_eq_some_iff.1 h).1 ?_]
  · exact h
  · rcases hr.2 with ⟨rfl, _⟩ | ⟨g2, cap2, cur2, rfl, _, h7, _⟩
    · simp [Value.ownBlock]
    · simp only [Value.ownBlock]
      intro e
      obtain rfl : g = g2 := by simpa using e
      rw [h] at h7
      have h8 : 34 = 27 := by
        have := Option.some.inj h7
        injection this
      exact absurd h8 (by decide)
theorem Box.kind {w : World} {g : Nat} {k : Int} {vb : Value} {z nn vv : Int} {vp : Value} (h : Box w g k vb z nn vv vp) : w.cell? ⟨g, 0, none⟩ = some (.int .i64 k) := by unfold Box at h; simp [World.cell?, h]
theorem Box.b {w : World} {g : Nat} {k : Int} {vb : Value} {z nn vv : Int} {vp : Value} (h : Box w g k vb z nn vv vp) : w.cell? ⟨g, 1, none⟩ = some vb := by unfold Box at h; simp [World.cell?, h]
theorem Box.z {w : World} {g : Nat} {k : Int} {vb : Value} {z nn vv : Int} {vp : Value} (h : Box w g k vb z nn vv vp) : w.cell? ⟨g, 2, none⟩ = some (.int .i64 z) := by unfold Box at h; simp [World.cell?, h]
theorem Box.n {w : World} {g : Nat} {k : Int} {vb : Value} {z nn vv : Int} {vp : Value} (h : Box w g k vb z nn vv vp) : w.cell? ⟨g, 3, none⟩ = some (.int .i64 nn) := by unfold Box at h; simp [World.cell?, h]
theorem Box.v {w : World} {g : Nat} {k : Int} {vb : Value} {z nn vv : Int} {vp : Value} (h : Box w g k vb z nn vv vp) : w.cell? ⟨g, 4, none⟩ = some (.int .u64 vv) := by unfold Box at h; simp [World.cell?, h]
theorem Box.p {w : World} {g : Nat} {k : Int} {vb : Value} {z nn vv : Int} {vp : Value} (h : Box w g k vb z nn vv vp) : w.cell? ⟨g, 5, none⟩ = some vp := by unfold Box at h; simp [World.cell?, h]
theorem Box.new (w : World) (k : Int) (vb : Value) (z nn vv : Int) (vp : Value) : Box (w.alloc (.cells #[.int .i64 k, vb, .int .i64 z, .int .i64 nn, .int .u64 vv, vp] 34)) w.heap.size k vb z nn vv vp := by
  exact heap_new w _
theorem own_one (w : World) (B x : Nat) (hB : B ≤ w.heap.size) : Own (w.alloc (.cells #[.int .u8 (x : Int)] 5)) B (.slice (some ⟨w.heap.size, 0, none⟩) 1 1) 1 [x] := by
  refine ⟨rfl, rfl, .inr ⟨w.heap.size, 1, #[.int .u8 (x : Int)], rfl, hB, heap_new w _, Nat.le_refl _, by decide, rfl, rfl⟩⟩

theorem wide_of_row {w : World} {B k gp c4 : Nat} {us : List Value} {x : Value} {ps : List (List Nat)} (row : w.ownsRow B 27 1 (.slice (some ⟨gp, 0, none⟩) (k + 1) c4) (k + 1) (us ++ [x]))
    (hw : ∀ j u, us[j]? = some u → Wide w B u (ps.getD j [])) (i : Nat) (hi : i < k) : ∃ u, w.cell? ⟨gp, i, none⟩ = some u ∧ Wide w B u (ps.getD i []) := by
  obtain ⟨g, u, hg, hu, hc, _, _⟩ := Row.cell row i (by omega)
  obtain rfl : gp = g := by simpa using hg
  have hl : us.length = k := by have := row.1; simp at this; omega
  rw [List.getElem?_append_left (by omega)] at hu
  exact ⟨u, hc, hw i u hu⟩
theorem last_of_row {w : World} {B k gp c4 : Nat} {us : List Value} {x : Value} (row : w.ownsRow B 27 1 (.slice (some ⟨gp, 0, none⟩) (k + 1) c4) (k + 1) (us ++ [x])) : w.cell? ⟨gp, k, none⟩ = some x := by
  obtain ⟨g, u, hg, hu, hc, _, _⟩ := Row.cell row k (by omega)
  obtain rfl : gp = g := by simpa using hg
  have hl : us.length = k := by have := row.1; simp at this; omega
  rw [List.getElem?_append_right (by omega), hl, Nat.sub_self] at hu
  simp at hu
  subst hu
  exact hc
theorem rdp_of_row {w : World} {B k gp c4 n : Nat} {us : List Value} {x : Value} {ps : List (List Nat)} (row : w.ownsRow B 27 1 (.slice (some ⟨gp, 0, none⟩) (k + 1) c4) (k + 1) (us ++ [x]))
    (hk : k = n) (hn : n = ps.length) (hn2 : n ≤ 1048576) (hw : ∀ j u, us[j]? = some u → Wide w B u (ps.getD j [])) (hby : ∀ j, j < ps.length → Bys (ps.getD j [])) (hl : ∀ i, (ps.getD i []).length ≤ 1048576) : RdP w (.slice (some ⟨gp, 0, none⟩) n c4) ps := by
  refine ⟨by omega, some ⟨gp, 0, none⟩, c4, by rw [hn], .inr ⟨gp, 0, rfl, fun i hi => ?_⟩⟩
  obtain ⟨u, hc, hwd⟩ := wide_of_row row hw i (by omega)
  exact ⟨u, by rw [Nat.zero_add]; exact hc, hwd.rd (hby i hi) (by have := hl i; omega)⟩
theorem rdp_bys {w : World} {ap : Option Addr} {ps : List (List Nat)} (h : ps = [] ∨ ∃ b off, ap = some ⟨b, off, none⟩ ∧ ∀ i, i < ps.length → ∃ u, w.cell? ⟨b, off + i, none⟩ = some u ∧ Rd w u (ps.getD i [])) (j : Nat) (hj : j < ps.length) : Bys (ps.getD j []) := by
  rcases h with h | ⟨b, off, _, hc⟩
  · rw [h] at hj; simp at hj
  · obtain ⟨u, _, hr⟩ := hc j hj; exact hr.1
theorem same_w {v : Value} {b off off' n n' c c' : Nat} {xs ys : List Nat} {w : World} (ha : Rd w (.slice (some ⟨b, off', none⟩) n' c') xs) (hb : Rd w v ys) (h1 : off = off') (h2 : n = n') (h3 : c = c') :
    Calls Tryd.prog 23 #[.slice (some ⟨b, off, none⟩) n c, v] w fun e w' => e = .returned (.bool (decide (xs = ys))) ∧ w' = w := by
  subst h1 h2 h3; exact same_any ha hb
theorem bys207 : Bys [207] := by intro x hx; simp at hx; omega

end Go.Proofs.YtncbiohmogmcpaaDoor
