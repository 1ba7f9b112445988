import Derived.Test.YtledfniedoapiaaDoorJ12
import Derived.Deep.RegionHeld3
import Derived.Lib.Hide
namespace Go.Proofs.YtledfniedoapiaaDoor
open Go.RowKit
set_option linter.unusedVariables false

/-- append of one byte string to a row that is owned: all that is wanted of it. -/
theorem append_rowL {w : World} {B n : Nat} {v u : Value} {vs : List Value} (ty : TypeId) (hown : RowS w B v n vs) (hu : u.oneCell' = true) (hbytes : n + 1 ≤ 100000000) (hB : B ≤ w.heap.size) :
    ∃ v' w', (Builtin.append_ #[25, 25] ty #[v, .slice (some ⟨w.heap.size, 0, none⟩) 1 1]).run Tryd.prog (w.alloc (.cells #[u] 23)) = .ok v' w' ∧ RowS w' B v' (n + 1) (vs ++ [u]) ∧ w.grownBy w' v.ownBlock ∧ (v'.ownBlock = v.ownBlock ∨ ∀ g, v'.ownBlock = some g → w.heap.size ≤ g) := by
  obtain ⟨i0, hi, hz0, hz1, hz2⟩ := info_parts info_parts1
  obtain ⟨W, hW⟩ : ∃ W, W = w.alloc (.cells #[u] 23) := ⟨_, rfl⟩
  have hsW : W.heap.size = w.heap.size + 1 := by rw [hW]; simp
  have hnews : ∀ j x, ([u] : List Value)[j]? = some x → W.cell? ((⟨w.heap.size, 0, none⟩ : Addr).add j) = some x := by
    intro j x hj
    have hh : W.heap[w.heap.size]? = some (.cells #[u] 23) := by rw [hW]; exact heap_new w _
    cases j with
    | zero =>
      simp at hj
      subst hj
      simp [World.cell?, Addr.add, hh]
    | succ j => simp at hj
  have hownW : W.ownsRow B 23 1 v n vs := by rw [hW]; exact hown.2.2.alloc _
  have h1 : ∀ x ∈ ([u] : List Value), x.oneCell' = true := by intro x hx; simp at hx; subst hx; exact hu
  obtain ⟨v', w', hr, h2, h3, _⟩ := run_append_own (P := Tryd.prog) W B 25 ty 23 i0 (.slice none 0 0) 1 24 und_parts hi hz0 hz1 hz2 rfl (by decide) v n vs hownW ⟨w.heap.size, 0, none⟩ 1 1 [u] (by simp) hnews h1 (by unfold maxLen; omega) (by omega) (by omega)
  have o2 : RowS w' B v' (n + 1) (vs ++ [u]) := ⟨by rw [hown.1]; simp, fun x hx => by rcases List.mem_append.1 hx with h | h; exact hown.2.1 x h; exact h1 x h, h2⟩
  have g2 : w.grownBy w' v.ownBlock := grown_trans (by rw [hW]; exact grown_alloc w _ _) h3 (.inl rfl)
  rw [hW] at hr
  refine ⟨v', w', hr, o2, g2, ?_⟩
  rw [← hW] at hr
  rcases hownW.2 with ⟨rfl, h0⟩ | ⟨g, cap, cur, rfl, hg1, hg2, hg3, hg4, hg5, hg6⟩
  · subst h0
    have hr2 := run_append_nil (P := Tryd.prog) W 25 ty 23 i0 (.slice none 0 0) und_parts hi hz0 ⟨w.heap.size, 0, none⟩ 1 1 [u] (by rw [hz1]; simp) hnews (by decide) (by decide) (by rw [hz2]; decide)
    rw [hr] at hr2
    injection hr2 with e1 e2
    subst e1
    refine .inr fun g hg => ?_
    simp [Value.ownBlock] at hg
    omega
  · by_cases hroom : n + 1 ≤ cap
    · obtain ⟨w2, hr2, k2, _⟩ := run_append_own_spare (P := Tryd.prog) W B 25 ty 23 i0 1 und_parts hi hz1 g n cap vs hownW ⟨w.heap.size, 0, none⟩ 1 1 [u] (by simp) hnews h1 hroom
      rw [hr] at hr2
      injection hr2 with e1 e2
      subst e1
      exact .inl rfl
    · have holds : ∀ j x, vs[j]? = some x → W.cell? ((⟨g, 0, none⟩ : Addr).add j) = some x := hownW.cells (g := g) rfl
      have hr2 := run_append_grow (P := Tryd.prog) W 25 ty 23 i0 (.slice none 0 0) und_parts hi hz0 ⟨g, 0, none⟩ n cap vs (by rw [hz1, ← hown.1]; omega) holds ⟨w.heap.size, 0, none⟩ 1 1 [u] (by rw [hz1]; simp) hnews (by omega) (by omega) (by rw [hz2]; exact growslice_fits (by omega) (by omega))
      rw [hr] at hr2
      injection hr2 with e1 e2
      subst e1
      refine .inr fun x hx => ?_
      simp [Value.ownBlock] at hx
      omega
theorem wpList_append_oneL {w : World} {ops : Array Oper} {rest : List Oper} {o : Oper} {a : Act} {Q : Exit → Act → World → Prop} (hgd : o.guard = none) (s x : Operand)
    (ho : o.op = .call { callee := .builtin .append, args := #[s, x], argTypes := #[25, 25] })
    (B : Nat) (a0 : Option Addr) (m0 c0 : Nat) (vs : List Value) (hs : a.eval s = .slice a0 m0 c0) (hown : RowS w B (.slice a0 m0 c0) m0 vs)
    (u : Value) (hu : u.oneCell' = true) (hx : a.eval x = .slice (some ⟨w.heap.size, 0, none⟩) 1 1)
    (hbytes : m0 + 1 ≤ 100000000) (hB : B ≤ w.heap.size)
    (h : ∀ a' c' w', RowS w' B (.slice a' (m0 + 1) c') (m0 + 1) (vs ++ [u]) → w.grownBy w' (Value.slice a0 m0 c0).ownBlock → ((Value.slice a' (m0 + 1) c').ownBlock = (Value.slice a0 m0 c0).ownBlock ∨ ∀ g, (Value.slice a' (m0 + 1) c').ownBlock = some g → w.heap.size ≤ g) → wpList Tryd.prog ops Q rest (a.put o.dst (.slice a' (m0 + 1) c')) w') : wpList Tryd.prog ops Q (o :: rest) a (w.alloc (.cells #[u] 23)) := by
  obtain ⟨v', w', hr, h1, h2, h3⟩ := append_rowL o.type hown hu hbytes hB
  obtain ⟨a', c', rfl⟩ := rows_form h1.2.2
  refine wpList_plain hgd fun K hK => ?_
  unfold Oper.wp execOp
  simp only [ho, resolve, invoke, builtin, Sem.run_bind, Sem.run_pure, Result.andThen_ok, List.map_toArray, List.map_cons, List.map_nil, hs, hx, hr]
  exact hK _ _ (h a' c' w' h1 h2 h3)
theorem cell_al {w : World} {p : Addr} {v : Value} {o : Obj} (h : w.cell? p = some v) : (w.alloc o).cell? p = some v := by
  rw [((Below.refl w.heap.size w).alloc (Nat.le_refl _) o).cell (World.block_lt_of_cell? w _ h)]
  exact h
set_option maxRecDepth 100000 in
theorem fieldo_v {a : Act} {w : World} {x g : Nat} {d : Option Nat} {ps : String} {af : Array Edge} (hx : a.tmps[x]?.getD undef = .pointer (some ⟨g, 0, none⟩)) :
    (execOp a.eval { dst := d, op := Op.fieldAddr 38 (Operand.tmp x) 5, type := 0, pos := ps, after := af, guard := none }).run Tryd.prog w = .ok (.value (.pointer (some ⟨g, 5, none⟩))) w := by
  go_simp
set_option maxRecDepth 100000 in
theorem indexd_v {a : Act} {w : World} {x y g u n c : Nat} {d : Option Nat} {ps : String} {af : Array Edge} (hx : a.tmps[x]?.getD undef = .slice (some ⟨g, 0, none⟩) n c) (hy : a.tmps[y]?.getD undef = .int .i64 (u : Int)) (hu : (u : Int) < (n : Int)) (hu0 : (0 : Int) ≤ (u : Int)) :
    (execOp a.eval { dst := d, op := Op.indexAddr 36 (Operand.tmp x) (Operand.tmp y), type := 0, pos := ps, after := af, guard := none }).run Tryd.prog w = .ok (.value (.pointer (some ⟨g, u, none⟩))) w := by
  go_simp
set_option maxRecDepth 100000 in
theorem indexr_v {a : Act} {w : World} {x y g o u n c : Nat} {d : Option Nat} {ps : String} {af : Array Edge} (hx : a.tmps[x]?.getD undef = .slice (some ⟨g, o, none⟩) n c) (hy : a.tmps[y]?.getD undef = .int .i64 (u : Int)) (hu : (u : Int) < (n : Int)) (hu0 : (0 : Int) ≤ (u : Int)) :
    (execOp a.eval { dst := d, op := Op.indexAddr 25 (Operand.tmp x) (Operand.tmp y), type := 0, pos := ps, after := af, guard := none }).run Tryd.prog w = .ok (.value (.pointer (some ⟨g, o + u, none⟩))) w := by
  go_simp
set_option maxRecDepth 100000 in
theorem loadd_v {a : Act} {w : World} {p g u : Nat} {v : Value} {d : Option Nat} {ps : String} {af : Array Edge} (h : w.cell? ⟨g, u, none⟩ = some v) (hp : a.tmps[p]?.getD undef = .pointer (some ⟨g, u, none⟩)) :
    (execOp a.eval { dst := d, op := Op.load 33 (Operand.tmp p), type := 33, pos := ps, after := af, guard := none }).run Tryd.prog w = .ok (.value v) w := by
  go_simp
set_option maxRecDepth 100000 in
theorem loadr_v {a : Act} {w : World} {p g u : Nat} {v : Value} {d : Option Nat} {ps : String} {af : Array Edge} (h : w.cell? ⟨g, u, none⟩ = some v) (hp : a.tmps[p]?.getD undef = .pointer (some ⟨g, u, none⟩)) :
    (execOp a.eval { dst := d, op := Op.load 25 (Operand.tmp p), type := 25, pos := ps, after := af, guard := none }).run Tryd.prog w = .ok (.value v) w := by
  go_simp
set_option maxRecDepth 100000 in
theorem wp_loadr {a : Act} {w : World} {K : Act → World → Prop} {Q : Exit → Act → World → Prop} {p g u : Nat} {v : Value} {d : Option Nat} {ps : String} {af : Array Edge} (h : w.cell? ⟨g, u, none⟩ = some v) (hp : a.tmps[p]?.getD undef = .pointer (some ⟨g, u, none⟩)) (hk : K (a.put d v) w) :
    Oper.wp Tryd.prog { dst := d, op := Op.load 25 (Operand.tmp p), type := 25, pos := ps, after := af, guard := none } a w K Q := by
  go_simp
  exact hk
set_option maxRecDepth 100000 in
theorem wp_call_lend {a : Act} {w : World} {K : Act → World → Prop} {Q : Exit → Act → World → Prop} {d : Option Nat} {ps : String} {af : Array Edge} {x y : Nat} {u v : Value} {R : Ending → World → Prop} (hc : Calls Tryd.prog 14 #[u, v] w R) (hx : a.tmps[x]?.getD undef = u) (hy : a.tmps[y]?.getD undef = v) (h : ∀ r w', R r w' → ∃ u, r = .returned u ∧ K (a.put d u) w') :
    Oper.wp Tryd.prog { dst := d, op := Op.call { callee := Callee.value (Operand.func 14), args := #[Operand.tmp x, Operand.tmp y], argTypes := #[33, 23] }, type := 23, pos := ps, after := af, guard := none } a w K Q := by
  go_simp
  refine hc.mono ?_
  intro r w' hr
  obtain ⟨u, rfl, hk⟩ := h r w' hr
  exact hk
set_option maxRecDepth 100000 in
theorem wp_build1 {a : Act} {w : World} {K : Act → World → Prop} {Q : Exit → Act → World → Prop} {p : Nat} {va : Option Addr} {vm vc : Nat} {d : Option Nat} {ps : String} {af : Array Edge} (hp : a.tmps[p]?.getD undef = .slice va vm vc) (hk : K (a.put d (.slice (some ⟨w.heap.size, 0, none⟩) 1 1)) (w.alloc (.cells #[.slice va vm vc] 23))) :
    Oper.wp Tryd.prog { dst := d, op := Op.buildSlice 25 1 #[(0, Operand.tmp p)], type := 25, pos := ps, after := af, guard := none } a w K Q := by
  go_simp
  exact hk
set_option maxRecDepth 100000 in
theorem wp_append1 {a : Act} {w : World} {K : Act → World → Prop} {Q : Exit → Act → World → Prop} {p q B n cW vm vc : Nat} {aW va : Option Addr} {ws : List Value} {d : Option Nat} {ps : String} {af : Array Edge} (hp : a.tmps[p]?.getD undef = .slice aW n cW) (hq : a.tmps[q]?.getD undef = .slice (some ⟨w.heap.size, 0, none⟩) 1 1) (hr : RowS w B (.slice aW n cW) n ws) (hn : n + 1 ≤ 100000000) (hB : B ≤ w.heap.size)
    (hk : ∀ a' c' w', RowS w' B (.slice a' (n + 1) c') (n + 1) (ws ++ [.slice va vm vc]) → w.grownBy w' (Value.slice aW n cW).ownBlock → ((Value.slice a' (n + 1) c').ownBlock = (Value.slice aW n cW).ownBlock ∨ ∀ g, (Value.slice a' (n + 1) c').ownBlock = some g → w.heap.size ≤ g) → K (a.put d (.slice a' (n + 1) c')) w') :
    Oper.wp Tryd.prog { dst := d, op := Op.call { callee := Callee.builtin Builtin.append, args := #[Operand.tmp p, Operand.tmp q], argTypes := #[25, 25] }, type := 25, pos := ps, after := af, guard := none } a (w.alloc (.cells #[.slice va vm vc] 23)) K Q := by
  obtain ⟨v', w', hrn, h1, h2, h3⟩ := append_rowL (u := .slice va vm vc) 25 hr rfl hn hB
  obtain ⟨a', c', rfl⟩ := rows_form h1.2.2
  have e1 : a.eval (Operand.tmp p) = .slice aW n cW := by simpa [Act.eval] using hp
  have e2 : a.eval (Operand.tmp q) = .slice (some ⟨w.heap.size, 0, none⟩) 1 1 := by simpa [Act.eval] using hq
  unfold Oper.wp execOp
  simp only [resolve, invoke, builtin, Sem.run_bind, Sem.run_pure, Result.andThen_ok, List.map_toArray, List.map_cons, List.map_nil, e1, e2, hrn]
  exact hk a' c' w' h1 h2 h3
set_option maxRecDepth 100000 in
theorem wp_fieldo {a : Act} {w : World} {K : Act → World → Prop} {Q : Exit → Act → World → Prop} {x g : Nat} {d : Option Nat} {ps : String} {af : Array Edge} (hx : a.tmps[x]?.getD undef = .pointer (some ⟨g, 0, none⟩)) (hk : K (a.put d (.pointer (some ⟨g, 5, none⟩))) w) :
    Oper.wp Tryd.prog { dst := d, op := Op.fieldAddr 38 (Operand.tmp x) 5, type := 0, pos := ps, after := af, guard := none } a w K Q := by
  go_simp
  exact hk
set_option maxRecDepth 100000 in
theorem wp_storer {a : Act} {w : World} {K : Act → World → Prop} {Q : Exit → Act → World → Prop} {p q g n c : Nat} {a' : Option Addr} {y : Value} {ps : String} {af : Array Edge} (hc : w.cell? ⟨g, 5, none⟩ = some y) (hf : w.frozen? ⟨g, 5, none⟩ = false) (hp : a.tmps[p]?.getD undef = .pointer (some ⟨g, 5, none⟩)) (hq : a.tmps[q]?.getD undef = .slice a' n c) (hk : K a (w.setCell ⟨g, 5, none⟩ (.slice a' n c))) :
    Oper.wp Tryd.prog { dst := none, op := Op.store 25 (Operand.tmp p) (Operand.tmp q), type := 0, pos := ps, after := af, guard := none } a w K Q := by
  go_simp
  exact hk
def againAct (s0 s1 s2 s3 s4 s5 s6 s7 s8 s9 s10 s11 s12 s13 s14 s15 s16 s17 s18 s19 s20 s21 s22 s23 s24 s25 s26 s27 s28 s29 s30 s31 s32 s33 s34 s35 s36 s37 s38 s39 s40 s41 s42 s43 s44 s45 s46 s47 s48 s49 s50 s51 s52 s53 s54 s55 s56 s57 s58 s59 s60 s61 s62 s63 s64 s65 s66 s67 s68 s69 s70 s71 s72 s73 s74 s75 s76 s77 s78 s79 s80 s81 s82 s83 s84 s85 s86 s87 s88 s89 s90 s91 s92 s93 s94 s95 s96 s97 s98 : Value) : Act := ⟨#[s0, s1, s2, s3, s4, s5, s6, s7, s8, s9, s10, s11, s12, s13, s14, s15, s16, s17, s18, s19, s20, s21, s22, s23, s24, s25, s26, s27, s28, s29, s30, s31, s32, s33, s34, s35, s36, s37, s38, s39, s40, s41, s42, s43, s44, s45, s46, s47, s48, s49, s50, s51, s52, s53, s54, s55, s56, s57, s58, s59, s60, s61, s62, s63, s64, s65, s66, s67, s68, s69, s70, s71, s72, s73, s74, s75, s76, s77, s78, s79, s80, s81, s82, s83, s84, s85, s86, s87, s88, s89, s90, s91, s92, s93, s94, s95, s96, s97, s98], []⟩
def againOps : Array Oper := #[{ dst := some 48, op := Op.fieldAddr 38 (Operand.tmp 7) 5, type := 0, pos := "again.go:140", after := #[], guard := none }, { dst := some 49, op := Op.load 25 (Operand.tmp 48), type := 25, pos := "again.go:140", after := #[{ on := 0, ground := Ground.data }], guard := none }, { dst := some 50, op := Op.move (Operand.tmp 4), type := 36, pos := "again.go:140", after := #[], guard := none }, { dst := some 51, op := Op.move (Operand.tmp 8), type := 3, pos := "again.go:140", after := #[], guard := none }, { dst := some 52, op := Op.indexAddr 36 (Operand.tmp 50) (Operand.tmp 51), type := 0, pos := "again.go:140", after := #[{ on := 2, ground := Ground.data }, { on := 3, ground := Ground.data }], guard := none }, { dst := some 53, op := Op.load 33 (Operand.tmp 52), type := 33, pos := "again.go:140", after := #[{ on := 4, ground := Ground.data }], guard := none }, { dst := some 54, op := Op.fieldAddr 38 (Operand.tmp 6) 5, type := 0, pos := "again.go:140", after := #[], guard := none }, { dst := some 55, op := Op.load 25 (Operand.tmp 54), type := 25, pos := "again.go:140", after := #[{ on := 6, ground := Ground.data }], guard := none }, { dst := some 56, op := Op.move (Operand.tmp 8), type := 3, pos := "again.go:140", after := #[], guard := none }, { dst := some 57, op := Op.indexAddr 25 (Operand.tmp 55) (Operand.tmp 56), type := 0, pos := "again.go:140", after := #[{ on := 7, ground := Ground.data }, { on := 8, ground := Ground.data }], guard := none }, { dst := some 58, op := Op.load 23 (Operand.tmp 57), type := 23, pos := "again.go:140", after := #[{ on := 9, ground := Ground.data }], guard := none }, { dst := some 59, op := Op.call { callee := Callee.value (Operand.func 14), args := #[Operand.tmp 53, Operand.tmp 58], argTypes := #[33, 23] }, type := 23, pos := "again.go:140", after := #[{ on := 5, ground := Ground.data }, { on := 10, ground := Ground.data }], guard := none }, { dst := some 60, op := Op.buildSlice 25 1 #[(0, Operand.tmp 59)], type := 25, pos := "again.go:140", after := #[{ on := 11, ground := Ground.data }], guard := none }, { dst := some 61, op := Op.call { callee := Callee.builtin Builtin.append, args := #[Operand.tmp 49, Operand.tmp 60], argTypes := #[25, 25] }, type := 25, pos := "again.go:140", after := #[{ on := 1, ground := Ground.data }, { on := 12, ground := Ground.data }, { on := 11, ground := Ground.chain }], guard := none }, { dst := some 62, op := Op.fieldAddr 38 (Operand.tmp 7) 5, type := 0, pos := "again.go:140", after := #[{ on := 0, ground := Ground.phase }, { on := 1, ground := Ground.phase }, { on := 2, ground := Ground.phase }, { on := 3, ground := Ground.phase }, { on := 4, ground := Ground.phase }, { on := 5, ground := Ground.phase }, { on := 6, ground := Ground.phase }, { on := 7, ground := Ground.phase }, { on := 8, ground := Ground.phase }, { on := 9, ground := Ground.phase }, { on := 10, ground := Ground.phase }, { on := 11, ground := Ground.phase }, { on := 12, ground := Ground.phase }, { on := 13, ground := Ground.phase }], guard := none }, { dst := none, op := Op.store 25 (Operand.tmp 62) (Operand.tmp 61), type := 0, pos := "again.go:140", after := #[{ on := 14, ground := Ground.data }, { on := 13, ground := Ground.data }, { on := 13, ground := Ground.chain }, { on := 0, ground := Ground.phase }, { on := 1, ground := Ground.phase }, { on := 2, ground := Ground.phase }, { on := 3, ground := Ground.phase }, { on := 4, ground := Ground.phase }, { on := 5, ground := Ground.phase }, { on := 6, ground := Ground.phase }, { on := 7, ground := Ground.phase }, { on := 8, ground := Ground.phase }, { on := 9, ground := Ground.phase }, { on := 10, ground := Ground.phase }, { on := 11, ground := Ground.phase }, { on := 12, ground := Ground.phase }, { on := 13, ground := Ground.phase }], guard := none }]
set_option maxRecDepth 100000 in
set_option maxHeartbeats 16000000 in
theorem again17_region {gD nD cD go gp k gd bO oO nO cO nb cb nP cP : Nat} {ab aP : Option Addr} {X : World} {R : Ending → World → Prop} {s0 s1 s2 s3 s5 s9 s10 s11 s12 s13 s14 s15 s16 s17 s18 s19 s20 s21 s22 s23 s24 s25 s26 s27 s28 s29 s30 s31 s32 s33 s34 s35 s36 s37 s38 s39 s40 s41 s42 s43 s44 s45 s46 s47 s48 s49 s50 s51 s52 s53 s54 s55 s56 s57 s58 s59 s60 s61 s62 s63 s64 s65 s66 s67 s68 s69 s70 s71 s72 s73 s74 s75 s76 s77 s78 s79 s80 s81 s82 s83 s84 s85 s86 s87 s88 s89 s90 s91 s92 s93 s94 s95 s96 s97 s98 : Value}
    (hS : X.cell? ⟨gD, k, none⟩ = some (.pointer (some ⟨gd, 0, none⟩)) ∧ X.cell? ⟨go, 5, none⟩ = some (.slice (some ⟨bO, oO, none⟩) nO cO) ∧ X.cell? ⟨bO, oO + k, none⟩ = some (.slice ab nb cb)) (hP : X.cell? ⟨gp, 5, none⟩ = some (.slice aP nP cP)) (hk1 : k < nD) (hk2 : k < nO)
    (hcall : Calls Tryd.prog 14 #[.pointer (some ⟨gd, 0, none⟩), .slice ab nb cb] X.drew R) (hret : ∀ r w2, R r w2 → ∃ va vm vc, r = .returned (.slice va vm vc)) (Q : Exit → Act → World → Prop)
    (hR : Hid (∀ (va : Option Addr) (vm vc : Nat) (w2 : World), R (.returned (.slice va vm vc)) w2 → (w2.cell? ⟨gD, k, none⟩ = some (.pointer (some ⟨gd, 0, none⟩)) ∧ w2.cell? ⟨go, 5, none⟩ = some (.slice (some ⟨bO, oO, none⟩) nO cO) ∧ w2.cell? ⟨bO, oO + k, none⟩ = some (.slice ab nb cb)) ∧ w2.cell? ⟨gp, 5, none⟩ = some (.slice aP nP cP) ∧ (∀ o : Array Value, (w2.alloc (.cells o 23)).cell? ⟨gD, k, none⟩ = some (.pointer (some ⟨gd, 0, none⟩)) ∧ (w2.alloc (.cells o 23)).cell? ⟨go, 5, none⟩ = some (.slice (some ⟨bO, oO, none⟩) nO cO) ∧ (w2.alloc (.cells o 23)).cell? ⟨bO, oO + k, none⟩ = some (.slice ab nb cb)) ∧ ∃ B ws, RowS w2 B (.slice aP nP cP) nP ws ∧ B ≤ w2.heap.size ∧ nP + 1 ≤ 100000000 ∧ ∀ (aP' : Option Addr) (cP' : Nat) (w3 : World), RowS w3 B (.slice aP' (nP + 1) cP') (nP + 1) (ws ++ [.slice va vm vc]) → w2.grownBy w3 (Value.slice aP nP cP).ownBlock → ((Value.slice aP' (nP + 1) cP').ownBlock = (Value.slice aP nP cP).ownBlock ∨ ∀ x, (Value.slice aP' (nP + 1) cP').ownBlock = some x → w2.heap.size ≤ x) → (w3.cell? ⟨gD, k, none⟩ = some (.pointer (some ⟨gd, 0, none⟩)) ∧ w3.cell? ⟨go, 5, none⟩ = some (.slice (some ⟨bO, oO, none⟩) nO cO) ∧ w3.cell? ⟨bO, oO + k, none⟩ = some (.slice ab nb cb)) ∧ ((w3.setCell ⟨gp, 5, none⟩ (.slice aP' (nP + 1) cP')).cell? ⟨gD, k, none⟩ = some (.pointer (some ⟨gd, 0, none⟩)) ∧ (w3.setCell ⟨gp, 5, none⟩ (.slice aP' (nP + 1) cP')).cell? ⟨go, 5, none⟩ = some (.slice (some ⟨bO, oO, none⟩) nO cO) ∧ (w3.setCell ⟨gp, 5, none⟩ (.slice aP' (nP + 1) cP')).cell? ⟨bO, oO + k, none⟩ = some (.slice ab nb cb)) ∧ (∃ y, w3.cell? ⟨gp, 5, none⟩ = some y) ∧ w3.frozen? ⟨gp, 5, none⟩ = false ∧ Q .normal (againAct s0 s1 s2 s3 (.slice (some ⟨gD, 0, none⟩) nD cD) s5 (.pointer (some ⟨go, 0, none⟩)) (.pointer (some ⟨gp, 0, none⟩)) (.int .i64 (k : Int)) s9 s10 s11 s12 s13 s14 s15 s16 s17 s18 s19 s20 s21 s22 s23 s24 s25 s26 s27 s28 s29 s30 s31 s32 s33 s34 s35 s36 s37 s38 s39 s40 s41 s42 s43 s44 s45 s46 s47 (.pointer (some ⟨gp, 5, none⟩)) (.slice aP nP cP) (.slice (some ⟨gD, 0, none⟩) nD cD) (.int .i64 (k : Int)) (.pointer (some ⟨gD, k, none⟩)) (.pointer (some ⟨gd, 0, none⟩)) (.pointer (some ⟨go, 5, none⟩)) (.slice (some ⟨bO, oO, none⟩) nO cO) (.int .i64 (k : Int)) (.pointer (some ⟨bO, (oO + k), none⟩)) (.slice ab nb cb) (.slice va vm vc) (.slice (some ⟨w2.heap.size, 0, none⟩) 1 1) (.slice aP' (nP + 1) cP') (.pointer (some ⟨gp, 5, none⟩)) s63 s64 s65 s66 s67 s68 s69 s70 s71 s72 s73 s74 s75 s76 s77 s78 s79 s80 s81 s82 s83 s84 s85 s86 s87 s88 s89 s90 s91 s92 s93 s94 s95 s96 s97 s98) (w3.setCell ⟨gp, 5, none⟩ (.slice aP' (nP + 1) cP')))) :
    Code.wp Tryd.prog (Code.region 17 againOps true) Q (againAct s0 s1 s2 s3 (.slice (some ⟨gD, 0, none⟩) nD cD) s5 (.pointer (some ⟨go, 0, none⟩)) (.pointer (some ⟨gp, 0, none⟩)) (.int .i64 (k : Int)) s9 s10 s11 s12 s13 s14 s15 s16 s17 s18 s19 s20 s21 s22 s23 s24 s25 s26 s27 s28 s29 s30 s31 s32 s33 s34 s35 s36 s37 s38 s39 s40 s41 s42 s43 s44 s45 s46 s47 s48 s49 s50 s51 s52 s53 s54 s55 s56 s57 s58 s59 s60 s61 s62 s63 s64 s65 s66 s67 s68 s69 s70 s71 s72 s73 s74 s75 s76 s77 s78 s79 s80 s81 s82 s83 s84 s85 s86 s87 s88 s89 s90 s91 s92 s93 s94 s95 s96 s97 s98) X := by
  have hk1i : (k : Int) < (nD : Int) := by omega
  have hk2i : (k : Int) < (nO : Int) := by omega
  have hk0 : (0 : Int) ≤ (k : Int) := by omega
  have HS : Hid (X.drew.cell? ⟨gD, k, none⟩ = some (.pointer (some ⟨gd, 0, none⟩)) ∧ X.drew.cell? ⟨go, 5, none⟩ = some (.slice (some ⟨bO, oO, none⟩) nO cO) ∧ X.drew.cell? ⟨bO, oO + k, none⟩ = some (.slice ab nb cb)) := hS
  have HP : Hid (X.drew.cell? ⟨gp, 5, none⟩ = some (.slice aP nP cP)) := hP
  have HCL := Lib.hid hcall
  have HRT := Lib.hid hret
  clear hS hP hcall hret
  refine wp_region_noPanic ?_
  have st12 : ∀ (va : Option Addr) (vm vc : Nat) (w2 : World), R (.returned (.slice va vm vc)) w2 → wpAnyH Tryd.prog .any againOps (NoPanic Q) (fun wx => wx.cell? ⟨gD, k, none⟩ = some (.pointer (some ⟨gd, 0, none⟩)) ∧ wx.cell? ⟨go, 5, none⟩ = some (.slice (some ⟨bO, oO, none⟩) nO cO) ∧ wx.cell? ⟨bO, oO + k, none⟩ = some (.slice ab nb cb)) 3 #[true, true, true, true, true, true, true, true, true, true, true, true, true, false, false, false] (againAct s0 s1 s2 s3 (.slice (some ⟨gD, 0, none⟩) nD cD) s5 (.pointer (some ⟨go, 0, none⟩)) (.pointer (some ⟨gp, 0, none⟩)) (.int .i64 (k : Int)) s9 s10 s11 s12 s13 s14 s15 s16 s17 s18 s19 s20 s21 s22 s23 s24 s25 s26 s27 s28 s29 s30 s31 s32 s33 s34 s35 s36 s37 s38 s39 s40 s41 s42 s43 s44 s45 s46 s47 (.pointer (some ⟨gp, 5, none⟩)) (.slice aP nP cP) (.slice (some ⟨gD, 0, none⟩) nD cD) (.int .i64 (k : Int)) (.pointer (some ⟨gD, k, none⟩)) (.pointer (some ⟨gd, 0, none⟩)) (.pointer (some ⟨go, 5, none⟩)) (.slice (some ⟨bO, oO, none⟩) nO cO) (.int .i64 (k : Int)) (.pointer (some ⟨bO, (oO + k), none⟩)) (.slice ab nb cb) (.slice va vm vc) (.slice (some ⟨w2.heap.size, 0, none⟩) 1 1) s61 s62 s63 s64 s65 s66 s67 s68 s69 s70 s71 s72 s73 s74 s75 s76 s77 s78 s79 s80 s81 s82 s83 s84 s85 s86 s87 s88 s89 s90 s91 s92 s93 s94 s95 s96 s97 s98) (w2.alloc (.cells #[.slice va vm vc] 23)) := by
    intro va vm vc w2 hr
    obtain ⟨_, _, _, B, ws, rw2, hB, hn, hfin⟩ := hR.out va vm vc w2 hr
    refine wpAnyH_ready (rs := [13]) (by kernel_rfl) (by simp) ?_
    refine AllReadyH.cons (o := { dst := some 61, op := Op.call { callee := Callee.builtin Builtin.append, args := #[Operand.tmp 49, Operand.tmp 60], argTypes := #[25, 25] }, type := 25, pos := "again.go:140", after := #[{ on := 1, ground := Ground.data }, { on := 12, ground := Ground.data }, { on := 11, ground := Ground.chain }], guard := none }) rfl (fun K hK => ?_) AllReadyH.nil
    rw [if_pos (by rfl)]
    refine wp_append1 rfl rfl rw2 hn hB ?_
    intro aP' cP' w3 r3 g3 b3
    obtain ⟨sw3, sw4, ⟨y, hy⟩, hf, hq⟩ := hfin aP' cP' w3 r3 g3 b3
    refine hK.out _ _ sw3 (fun _ => ?_)
    have q9 : wpAnyH Tryd.prog .any againOps (NoPanic Q) (fun wx => wx.cell? ⟨gD, k, none⟩ = some (.pointer (some ⟨gd, 0, none⟩)) ∧ wx.cell? ⟨go, 5, none⟩ = some (.slice (some ⟨bO, oO, none⟩) nO cO) ∧ wx.cell? ⟨bO, oO + k, none⟩ = some (.slice ab nb cb)) 2 #[true, true, true, true, true, true, true, true, true, true, true, true, true, true, false, false] (againAct s0 s1 s2 s3 (.slice (some ⟨gD, 0, none⟩) nD cD) s5 (.pointer (some ⟨go, 0, none⟩)) (.pointer (some ⟨gp, 0, none⟩)) (.int .i64 (k : Int)) s9 s10 s11 s12 s13 s14 s15 s16 s17 s18 s19 s20 s21 s22 s23 s24 s25 s26 s27 s28 s29 s30 s31 s32 s33 s34 s35 s36 s37 s38 s39 s40 s41 s42 s43 s44 s45 s46 s47 (.pointer (some ⟨gp, 5, none⟩)) (.slice aP nP cP) (.slice (some ⟨gD, 0, none⟩) nD cD) (.int .i64 (k : Int)) (.pointer (some ⟨gD, k, none⟩)) (.pointer (some ⟨gd, 0, none⟩)) (.pointer (some ⟨go, 5, none⟩)) (.slice (some ⟨bO, oO, none⟩) nO cO) (.int .i64 (k : Int)) (.pointer (some ⟨bO, (oO + k), none⟩)) (.slice ab nb cb) (.slice va vm vc) (.slice (some ⟨w2.heap.size, 0, none⟩) 1 1) (.slice aP' (nP + 1) cP') s62 s63 s64 s65 s66 s67 s68 s69 s70 s71 s72 s73 s74 s75 s76 s77 s78 s79 s80 s81 s82 s83 s84 s85 s86 s87 s88 s89 s90 s91 s92 s93 s94 s95 s96 s97 s98) w3 := by
      refine wpAnyH_ready (rs := [14]) (by kernel_rfl) (by simp) ?_
      refine AllReadyH.cons (o := { dst := some 62, op := Op.fieldAddr 38 (Operand.tmp 7) 5, type := 0, pos := "again.go:140", after := #[{ on := 0, ground := Ground.phase }, { on := 1, ground := Ground.phase }, { on := 2, ground := Ground.phase }, { on := 3, ground := Ground.phase }, { on := 4, ground := Ground.phase }, { on := 5, ground := Ground.phase }, { on := 6, ground := Ground.phase }, { on := 7, ground := Ground.phase }, { on := 8, ground := Ground.phase }, { on := 9, ground := Ground.phase }, { on := 10, ground := Ground.phase }, { on := 11, ground := Ground.phase }, { on := 12, ground := Ground.phase }, { on := 13, ground := Ground.phase }], guard := none }) rfl (fun K9 hK9 => ?_) AllReadyH.nil
      rw [if_pos (by rfl)]
      refine wp_fieldo rfl ?_
      refine hK9.out _ _ sw3 (fun _ => ?_)
      have q10 : wpAnyH Tryd.prog .any againOps (NoPanic Q) (fun wx => wx.cell? ⟨gD, k, none⟩ = some (.pointer (some ⟨gd, 0, none⟩)) ∧ wx.cell? ⟨go, 5, none⟩ = some (.slice (some ⟨bO, oO, none⟩) nO cO) ∧ wx.cell? ⟨bO, oO + k, none⟩ = some (.slice ab nb cb)) 1 #[true, true, true, true, true, true, true, true, true, true, true, true, true, true, true, false] (againAct s0 s1 s2 s3 (.slice (some ⟨gD, 0, none⟩) nD cD) s5 (.pointer (some ⟨go, 0, none⟩)) (.pointer (some ⟨gp, 0, none⟩)) (.int .i64 (k : Int)) s9 s10 s11 s12 s13 s14 s15 s16 s17 s18 s19 s20 s21 s22 s23 s24 s25 s26 s27 s28 s29 s30 s31 s32 s33 s34 s35 s36 s37 s38 s39 s40 s41 s42 s43 s44 s45 s46 s47 (.pointer (some ⟨gp, 5, none⟩)) (.slice aP nP cP) (.slice (some ⟨gD, 0, none⟩) nD cD) (.int .i64 (k : Int)) (.pointer (some ⟨gD, k, none⟩)) (.pointer (some ⟨gd, 0, none⟩)) (.pointer (some ⟨go, 5, none⟩)) (.slice (some ⟨bO, oO, none⟩) nO cO) (.int .i64 (k : Int)) (.pointer (some ⟨bO, (oO + k), none⟩)) (.slice ab nb cb) (.slice va vm vc) (.slice (some ⟨w2.heap.size, 0, none⟩) 1 1) (.slice aP' (nP + 1) cP') (.pointer (some ⟨gp, 5, none⟩)) s63 s64 s65 s66 s67 s68 s69 s70 s71 s72 s73 s74 s75 s76 s77 s78 s79 s80 s81 s82 s83 s84 s85 s86 s87 s88 s89 s90 s91 s92 s93 s94 s95 s96 s97 s98) w3 := by
        refine wpAnyH_ready (rs := [15]) (by kernel_rfl) (by simp) ?_
        refine AllReadyH.cons (o := { dst := none, op := Op.store 25 (Operand.tmp 62) (Operand.tmp 61), type := 0, pos := "again.go:140", after := #[{ on := 14, ground := Ground.data }, { on := 13, ground := Ground.data }, { on := 13, ground := Ground.chain }, { on := 0, ground := Ground.phase }, { on := 1, ground := Ground.phase }, { on := 2, ground := Ground.phase }, { on := 3, ground := Ground.phase }, { on := 4, ground := Ground.phase }, { on := 5, ground := Ground.phase }, { on := 6, ground := Ground.phase }, { on := 7, ground := Ground.phase }, { on := 8, ground := Ground.phase }, { on := 9, ground := Ground.phase }, { on := 10, ground := Ground.phase }, { on := 11, ground := Ground.phase }, { on := 12, ground := Ground.phase }, { on := 13, ground := Ground.phase }], guard := none }) rfl (fun K10 hK10 => ?_) AllReadyH.nil
        rw [if_pos (by rfl)]
        refine wp_storer hy hf rfl rfl ?_
        refine hK10.out _ _ sw4 (fun _ => ?_)
        refine wpAnyH_done (by kernel_rfl) ?_ _
        exact NoPanic.normal hq
      exact q10
    exact q9
  have st02 : ∀ (va : Option Addr) (vm vc : Nat) (w2 : World), R (.returned (.slice va vm vc)) w2 → wpAnyH Tryd.prog .any againOps (NoPanic Q) (fun wx => wx.cell? ⟨gD, k, none⟩ = some (.pointer (some ⟨gd, 0, none⟩)) ∧ wx.cell? ⟨go, 5, none⟩ = some (.slice (some ⟨bO, oO, none⟩) nO cO) ∧ wx.cell? ⟨bO, oO + k, none⟩ = some (.slice ab nb cb)) 4 #[true, false, true, true, true, true, true, true, true, true, true, true, true, false, false, false] (againAct s0 s1 s2 s3 (.slice (some ⟨gD, 0, none⟩) nD cD) s5 (.pointer (some ⟨go, 0, none⟩)) (.pointer (some ⟨gp, 0, none⟩)) (.int .i64 (k : Int)) s9 s10 s11 s12 s13 s14 s15 s16 s17 s18 s19 s20 s21 s22 s23 s24 s25 s26 s27 s28 s29 s30 s31 s32 s33 s34 s35 s36 s37 s38 s39 s40 s41 s42 s43 s44 s45 s46 s47 (.pointer (some ⟨gp, 5, none⟩)) s49 (.slice (some ⟨gD, 0, none⟩) nD cD) (.int .i64 (k : Int)) (.pointer (some ⟨gD, k, none⟩)) (.pointer (some ⟨gd, 0, none⟩)) (.pointer (some ⟨go, 5, none⟩)) (.slice (some ⟨bO, oO, none⟩) nO cO) (.int .i64 (k : Int)) (.pointer (some ⟨bO, (oO + k), none⟩)) (.slice ab nb cb) (.slice va vm vc) (.slice (some ⟨w2.heap.size, 0, none⟩) 1 1) s61 s62 s63 s64 s65 s66 s67 s68 s69 s70 s71 s72 s73 s74 s75 s76 s77 s78 s79 s80 s81 s82 s83 s84 s85 s86 s87 s88 s89 s90 s91 s92 s93 s94 s95 s96 s97 s98) (w2.alloc (.cells #[.slice va vm vc] 23)) := by
    intro va vm vc w2 hr
    obtain ⟨sw2, hp2, hal, _⟩ := hR.out va vm vc w2 hr
    refine wpAnyH_ready (rs := [1]) (by kernel_rfl) (by simp) ?_
    refine AllReadyH.cons (o := { dst := some 49, op := Op.load 25 (Operand.tmp 48), type := 25, pos := "again.go:140", after := #[{ on := 0, ground := Ground.data }], guard := none }) rfl (fun K hK => ?_) AllReadyH.nil
    rw [if_pos (by rfl)]
    refine wp_loadr (cell_al hp2) rfl ?_
    exact hK.out _ _ (hal _) (fun _ => st12 va vm vc w2 hr)
  have st11 : ∀ (va : Option Addr) (vm vc : Nat) (w2 : World), R (.returned (.slice va vm vc)) w2 → wpAnyH Tryd.prog .any againOps (NoPanic Q) (fun wx => wx.cell? ⟨gD, k, none⟩ = some (.pointer (some ⟨gd, 0, none⟩)) ∧ wx.cell? ⟨go, 5, none⟩ = some (.slice (some ⟨bO, oO, none⟩) nO cO) ∧ wx.cell? ⟨bO, oO + k, none⟩ = some (.slice ab nb cb)) 4 #[true, true, true, true, true, true, true, true, true, true, true, true, false, false, false, false] (againAct s0 s1 s2 s3 (.slice (some ⟨gD, 0, none⟩) nD cD) s5 (.pointer (some ⟨go, 0, none⟩)) (.pointer (some ⟨gp, 0, none⟩)) (.int .i64 (k : Int)) s9 s10 s11 s12 s13 s14 s15 s16 s17 s18 s19 s20 s21 s22 s23 s24 s25 s26 s27 s28 s29 s30 s31 s32 s33 s34 s35 s36 s37 s38 s39 s40 s41 s42 s43 s44 s45 s46 s47 (.pointer (some ⟨gp, 5, none⟩)) (.slice aP nP cP) (.slice (some ⟨gD, 0, none⟩) nD cD) (.int .i64 (k : Int)) (.pointer (some ⟨gD, k, none⟩)) (.pointer (some ⟨gd, 0, none⟩)) (.pointer (some ⟨go, 5, none⟩)) (.slice (some ⟨bO, oO, none⟩) nO cO) (.int .i64 (k : Int)) (.pointer (some ⟨bO, (oO + k), none⟩)) (.slice ab nb cb) (.slice va vm vc) s60 s61 s62 s63 s64 s65 s66 s67 s68 s69 s70 s71 s72 s73 s74 s75 s76 s77 s78 s79 s80 s81 s82 s83 s84 s85 s86 s87 s88 s89 s90 s91 s92 s93 s94 s95 s96 s97 s98) w2 := by
    intro va vm vc w2 hr
    obtain ⟨sw2, hp2, hal, _⟩ := hR.out va vm vc w2 hr
    refine wpAnyH_ready (rs := [12]) (by kernel_rfl) (by simp) ?_
    refine AllReadyH.cons (o := { dst := some 60, op := Op.buildSlice 25 1 #[(0, Operand.tmp 59)], type := 25, pos := "again.go:140", after := #[{ on := 11, ground := Ground.data }], guard := none }) rfl (fun K hK => ?_) AllReadyH.nil
    rw [if_pos (by rfl)]
    refine wp_build1 rfl ?_
    exact hK.out _ _ (hal _) (fun _ => st12 va vm vc w2 hr)
  have st01 : ∀ (va : Option Addr) (vm vc : Nat) (w2 : World), R (.returned (.slice va vm vc)) w2 → wpAnyH Tryd.prog .any againOps (NoPanic Q) (fun wx => wx.cell? ⟨gD, k, none⟩ = some (.pointer (some ⟨gd, 0, none⟩)) ∧ wx.cell? ⟨go, 5, none⟩ = some (.slice (some ⟨bO, oO, none⟩) nO cO) ∧ wx.cell? ⟨bO, oO + k, none⟩ = some (.slice ab nb cb)) 5 #[true, false, true, true, true, true, true, true, true, true, true, true, false, false, false, false] (againAct s0 s1 s2 s3 (.slice (some ⟨gD, 0, none⟩) nD cD) s5 (.pointer (some ⟨go, 0, none⟩)) (.pointer (some ⟨gp, 0, none⟩)) (.int .i64 (k : Int)) s9 s10 s11 s12 s13 s14 s15 s16 s17 s18 s19 s20 s21 s22 s23 s24 s25 s26 s27 s28 s29 s30 s31 s32 s33 s34 s35 s36 s37 s38 s39 s40 s41 s42 s43 s44 s45 s46 s47 (.pointer (some ⟨gp, 5, none⟩)) s49 (.slice (some ⟨gD, 0, none⟩) nD cD) (.int .i64 (k : Int)) (.pointer (some ⟨gD, k, none⟩)) (.pointer (some ⟨gd, 0, none⟩)) (.pointer (some ⟨go, 5, none⟩)) (.slice (some ⟨bO, oO, none⟩) nO cO) (.int .i64 (k : Int)) (.pointer (some ⟨bO, (oO + k), none⟩)) (.slice ab nb cb) (.slice va vm vc) s60 s61 s62 s63 s64 s65 s66 s67 s68 s69 s70 s71 s72 s73 s74 s75 s76 s77 s78 s79 s80 s81 s82 s83 s84 s85 s86 s87 s88 s89 s90 s91 s92 s93 s94 s95 s96 s97 s98) w2 := by
    intro va vm vc w2 hr
    obtain ⟨sw2, hp2, hal, _⟩ := hR.out va vm vc w2 hr
    refine wpAnyH_ready (rs := [1, 12]) (by kernel_rfl) (by simp) ?_
    refine AllReadyH.cons (o := { dst := some 49, op := Op.load 25 (Operand.tmp 48), type := 25, pos := "again.go:140", after := #[{ on := 0, ground := Ground.data }], guard := none }) rfl (fun K hK => ?_) ?_
    · rw [if_pos (by rfl)]
      refine wp_loadr hp2 rfl ?_
      exact hK.out _ _ sw2 (fun _ => st11 va vm vc w2 hr)
    refine AllReadyH.cons (o := { dst := some 60, op := Op.buildSlice 25 1 #[(0, Operand.tmp 59)], type := 25, pos := "again.go:140", after := #[{ on := 11, ground := Ground.data }], guard := none }) rfl (fun K hK => ?_) AllReadyH.nil
    rw [if_pos (by rfl)]
    refine wp_build1 rfl ?_
    exact hK.out _ _ (hal _) (fun _ => st02 va vm vc w2 hr)
  have st10 : wpAnyH Tryd.prog .any againOps (NoPanic Q) (fun wx => wx.cell? ⟨gD, k, none⟩ = some (.pointer (some ⟨gd, 0, none⟩)) ∧ wx.cell? ⟨go, 5, none⟩ = some (.slice (some ⟨bO, oO, none⟩) nO cO) ∧ wx.cell? ⟨bO, oO + k, none⟩ = some (.slice ab nb cb)) 5 #[true, true, true, true, true, true, true, true, true, true, true, false, false, false, false, false] (againAct s0 s1 s2 s3 (.slice (some ⟨gD, 0, none⟩) nD cD) s5 (.pointer (some ⟨go, 0, none⟩)) (.pointer (some ⟨gp, 0, none⟩)) (.int .i64 (k : Int)) s9 s10 s11 s12 s13 s14 s15 s16 s17 s18 s19 s20 s21 s22 s23 s24 s25 s26 s27 s28 s29 s30 s31 s32 s33 s34 s35 s36 s37 s38 s39 s40 s41 s42 s43 s44 s45 s46 s47 (.pointer (some ⟨gp, 5, none⟩)) (.slice aP nP cP) (.slice (some ⟨gD, 0, none⟩) nD cD) (.int .i64 (k : Int)) (.pointer (some ⟨gD, k, none⟩)) (.pointer (some ⟨gd, 0, none⟩)) (.pointer (some ⟨go, 5, none⟩)) (.slice (some ⟨bO, oO, none⟩) nO cO) (.int .i64 (k : Int)) (.pointer (some ⟨bO, (oO + k), none⟩)) (.slice ab nb cb) s59 s60 s61 s62 s63 s64 s65 s66 s67 s68 s69 s70 s71 s72 s73 s74 s75 s76 s77 s78 s79 s80 s81 s82 s83 s84 s85 s86 s87 s88 s89 s90 s91 s92 s93 s94 s95 s96 s97 s98) X.drew := by
    refine wpAnyH_ready (rs := [11]) (by kernel_rfl) (by simp) ?_
    refine AllReadyH.cons (o := { dst := some 59, op := Op.call { callee := Callee.value (Operand.func 14), args := #[Operand.tmp 53, Operand.tmp 58], argTypes := #[33, 23] }, type := 23, pos := "again.go:140", after := #[{ on := 5, ground := Ground.data }, { on := 10, ground := Ground.data }], guard := none }) rfl (fun K hK => ?_) AllReadyH.nil
    rw [if_pos (by rfl)]
    refine wp_call_lend HCL.out rfl rfl ?_
    intro r w2 hr
    obtain ⟨va, vm, vc, rfl⟩ := HRT.out r w2 hr
    exact ⟨_, rfl, hK.out _ _ (hR.out va vm vc w2 hr).1 (fun _ => st11 va vm vc w2 hr)⟩
  have st00 : wpAnyH Tryd.prog .any againOps (NoPanic Q) (fun wx => wx.cell? ⟨gD, k, none⟩ = some (.pointer (some ⟨gd, 0, none⟩)) ∧ wx.cell? ⟨go, 5, none⟩ = some (.slice (some ⟨bO, oO, none⟩) nO cO) ∧ wx.cell? ⟨bO, oO + k, none⟩ = some (.slice ab nb cb)) 6 #[true, false, true, true, true, true, true, true, true, true, true, false, false, false, false, false] (againAct s0 s1 s2 s3 (.slice (some ⟨gD, 0, none⟩) nD cD) s5 (.pointer (some ⟨go, 0, none⟩)) (.pointer (some ⟨gp, 0, none⟩)) (.int .i64 (k : Int)) s9 s10 s11 s12 s13 s14 s15 s16 s17 s18 s19 s20 s21 s22 s23 s24 s25 s26 s27 s28 s29 s30 s31 s32 s33 s34 s35 s36 s37 s38 s39 s40 s41 s42 s43 s44 s45 s46 s47 (.pointer (some ⟨gp, 5, none⟩)) s49 (.slice (some ⟨gD, 0, none⟩) nD cD) (.int .i64 (k : Int)) (.pointer (some ⟨gD, k, none⟩)) (.pointer (some ⟨gd, 0, none⟩)) (.pointer (some ⟨go, 5, none⟩)) (.slice (some ⟨bO, oO, none⟩) nO cO) (.int .i64 (k : Int)) (.pointer (some ⟨bO, (oO + k), none⟩)) (.slice ab nb cb) s59 s60 s61 s62 s63 s64 s65 s66 s67 s68 s69 s70 s71 s72 s73 s74 s75 s76 s77 s78 s79 s80 s81 s82 s83 s84 s85 s86 s87 s88 s89 s90 s91 s92 s93 s94 s95 s96 s97 s98) X.drew := by
    refine wpAnyH_ready (rs := [1, 11]) (by kernel_rfl) (by simp) ?_
    refine AllReadyH.cons (o := { dst := some 49, op := Op.load 25 (Operand.tmp 48), type := 25, pos := "again.go:140", after := #[{ on := 0, ground := Ground.data }], guard := none }) rfl (fun K hK => ?_) ?_
    · rw [if_pos (by rfl)]
      refine wp_loadr HP.out rfl ?_
      exact hK.out _ _ HS.out (fun _ => st10)
    refine AllReadyH.cons (o := { dst := some 59, op := Op.call { callee := Callee.value (Operand.func 14), args := #[Operand.tmp 53, Operand.tmp 58], argTypes := #[33, 23] }, type := 23, pos := "again.go:140", after := #[{ on := 5, ground := Ground.data }, { on := 10, ground := Ground.data }], guard := none }) rfl (fun K hK => ?_) AllReadyH.nil
    rw [if_pos (by rfl)]
    refine wp_call_lend HCL.out rfl rfl ?_
    intro r w2 hr
    obtain ⟨va, vm, vc, rfl⟩ := HRT.out r w2 hr
    exact ⟨_, rfl, hK.out _ _ (hR.out va vm vc w2 hr).1 (fun _ => st01 va vm vc w2 hr)⟩
  have T8 : wpAnyH Tryd.prog .any againOps (NoPanic Q) (fun wx => wx.cell? ⟨gD, k, none⟩ = some (.pointer (some ⟨gd, 0, none⟩)) ∧ wx.cell? ⟨go, 5, none⟩ = some (.slice (some ⟨bO, oO, none⟩) nO cO) ∧ wx.cell? ⟨bO, oO + k, none⟩ = some (.slice ab nb cb)) 8 #[true, false, true, true, true, true, true, true, true, false, false, false, false, false, false, false] (againAct s0 s1 s2 s3 (.slice (some ⟨gD, 0, none⟩) nD cD) s5 (.pointer (some ⟨go, 0, none⟩)) (.pointer (some ⟨gp, 0, none⟩)) (.int .i64 (k : Int)) s9 s10 s11 s12 s13 s14 s15 s16 s17 s18 s19 s20 s21 s22 s23 s24 s25 s26 s27 s28 s29 s30 s31 s32 s33 s34 s35 s36 s37 s38 s39 s40 s41 s42 s43 s44 s45 s46 s47 (.pointer (some ⟨gp, 5, none⟩)) s49 (.slice (some ⟨gD, 0, none⟩) nD cD) (.int .i64 (k : Int)) (.pointer (some ⟨gD, k, none⟩)) (.pointer (some ⟨gd, 0, none⟩)) (.pointer (some ⟨go, 5, none⟩)) (.slice (some ⟨bO, oO, none⟩) nO cO) (.int .i64 (k : Int)) s57 s58 s59 s60 s61 s62 s63 s64 s65 s66 s67 s68 s69 s70 s71 s72 s73 s74 s75 s76 s77 s78 s79 s80 s81 s82 s83 s84 s85 s86 s87 s88 s89 s90 s91 s92 s93 s94 s95 s96 s97 s98) X.drew := by
    refine wpAnyH_take (i := 9) (oi := { dst := some 57, op := Op.indexAddr 25 (Operand.tmp 55) (Operand.tmp 56), type := 0, pos := "again.go:140", after := #[{ on := 7, ground := Ground.data }, { on := 8, ground := Ground.data }], guard := none }) (v := (.pointer (some ⟨bO, (oO + k), none⟩))) rfl (by kernel_rfl) (by kernel_rfl) (by kernel_rfl) (fun _ _ _ h => h) (Or.inl ⟨by rfl, fun w hw => indexr_v rfl rfl hk2i hk0⟩) HS.out ?_
    refine wpAnyH_take (i := 10) (oi := { dst := some 58, op := Op.load 23 (Operand.tmp 57), type := 23, pos := "again.go:140", after := #[{ on := 9, ground := Ground.data }], guard := none }) (v := (.slice ab nb cb)) rfl (by kernel_rfl) (by kernel_rfl) (by kernel_rfl) (fun _ _ _ h => h) (Or.inl ⟨by rfl, fun w hw => load_b hw.2.2 rfl⟩) HS.out ?_
    exact st00
  have T6 : wpAnyH Tryd.prog .any againOps (NoPanic Q) (fun wx => wx.cell? ⟨gD, k, none⟩ = some (.pointer (some ⟨gd, 0, none⟩)) ∧ wx.cell? ⟨go, 5, none⟩ = some (.slice (some ⟨bO, oO, none⟩) nO cO) ∧ wx.cell? ⟨bO, oO + k, none⟩ = some (.slice ab nb cb)) 10 #[true, false, true, true, true, true, true, false, false, false, false, false, false, false, false, false] (againAct s0 s1 s2 s3 (.slice (some ⟨gD, 0, none⟩) nD cD) s5 (.pointer (some ⟨go, 0, none⟩)) (.pointer (some ⟨gp, 0, none⟩)) (.int .i64 (k : Int)) s9 s10 s11 s12 s13 s14 s15 s16 s17 s18 s19 s20 s21 s22 s23 s24 s25 s26 s27 s28 s29 s30 s31 s32 s33 s34 s35 s36 s37 s38 s39 s40 s41 s42 s43 s44 s45 s46 s47 (.pointer (some ⟨gp, 5, none⟩)) s49 (.slice (some ⟨gD, 0, none⟩) nD cD) (.int .i64 (k : Int)) (.pointer (some ⟨gD, k, none⟩)) (.pointer (some ⟨gd, 0, none⟩)) (.pointer (some ⟨go, 5, none⟩)) s55 s56 s57 s58 s59 s60 s61 s62 s63 s64 s65 s66 s67 s68 s69 s70 s71 s72 s73 s74 s75 s76 s77 s78 s79 s80 s81 s82 s83 s84 s85 s86 s87 s88 s89 s90 s91 s92 s93 s94 s95 s96 s97 s98) X.drew := by
    refine wpAnyH_take (i := 7) (oi := { dst := some 55, op := Op.load 25 (Operand.tmp 54), type := 25, pos := "again.go:140", after := #[{ on := 6, ground := Ground.data }], guard := none }) (v := (.slice (some ⟨bO, oO, none⟩) nO cO)) rfl (by kernel_rfl) (by kernel_rfl) (by kernel_rfl) (fun _ _ _ h => h) (Or.inl ⟨by rfl, fun w hw => loadr_v hw.2.1 rfl⟩) HS.out ?_
    refine wpAnyH_take (i := 8) (oi := { dst := some 56, op := Op.move (Operand.tmp 8), type := 3, pos := "again.go:140", after := #[], guard := none }) (v := (.int .i64 (k : Int))) rfl (by kernel_rfl) (by kernel_rfl) (by kernel_rfl) (fun _ _ _ h => h) (Or.inl ⟨by rfl, fun w hw => move_v rfl⟩) HS.out ?_
    exact T8
  have T4 : wpAnyH Tryd.prog .any againOps (NoPanic Q) (fun wx => wx.cell? ⟨gD, k, none⟩ = some (.pointer (some ⟨gd, 0, none⟩)) ∧ wx.cell? ⟨go, 5, none⟩ = some (.slice (some ⟨bO, oO, none⟩) nO cO) ∧ wx.cell? ⟨bO, oO + k, none⟩ = some (.slice ab nb cb)) 12 #[true, false, true, true, true, false, false, false, false, false, false, false, false, false, false, false] (againAct s0 s1 s2 s3 (.slice (some ⟨gD, 0, none⟩) nD cD) s5 (.pointer (some ⟨go, 0, none⟩)) (.pointer (some ⟨gp, 0, none⟩)) (.int .i64 (k : Int)) s9 s10 s11 s12 s13 s14 s15 s16 s17 s18 s19 s20 s21 s22 s23 s24 s25 s26 s27 s28 s29 s30 s31 s32 s33 s34 s35 s36 s37 s38 s39 s40 s41 s42 s43 s44 s45 s46 s47 (.pointer (some ⟨gp, 5, none⟩)) s49 (.slice (some ⟨gD, 0, none⟩) nD cD) (.int .i64 (k : Int)) (.pointer (some ⟨gD, k, none⟩)) s53 s54 s55 s56 s57 s58 s59 s60 s61 s62 s63 s64 s65 s66 s67 s68 s69 s70 s71 s72 s73 s74 s75 s76 s77 s78 s79 s80 s81 s82 s83 s84 s85 s86 s87 s88 s89 s90 s91 s92 s93 s94 s95 s96 s97 s98) X.drew := by
    refine wpAnyH_take (i := 5) (oi := { dst := some 53, op := Op.load 33 (Operand.tmp 52), type := 33, pos := "again.go:140", after := #[{ on := 4, ground := Ground.data }], guard := none }) (v := (.pointer (some ⟨gd, 0, none⟩))) rfl (by kernel_rfl) (by kernel_rfl) (by kernel_rfl) (fun _ _ _ h => h) (Or.inl ⟨by rfl, fun w hw => loadd_v hw.1 rfl⟩) HS.out ?_
    refine wpAnyH_take (i := 6) (oi := { dst := some 54, op := Op.fieldAddr 38 (Operand.tmp 6) 5, type := 0, pos := "again.go:140", after := #[], guard := none }) (v := (.pointer (some ⟨go, 5, none⟩))) rfl (by kernel_rfl) (by kernel_rfl) (by kernel_rfl) (fun _ _ _ h => h) (Or.inl ⟨by rfl, fun w hw => fieldo_v rfl⟩) HS.out ?_
    exact T6
  have T2 : wpAnyH Tryd.prog .any againOps (NoPanic Q) (fun wx => wx.cell? ⟨gD, k, none⟩ = some (.pointer (some ⟨gd, 0, none⟩)) ∧ wx.cell? ⟨go, 5, none⟩ = some (.slice (some ⟨bO, oO, none⟩) nO cO) ∧ wx.cell? ⟨bO, oO + k, none⟩ = some (.slice ab nb cb)) 14 #[true, false, true, false, false, false, false, false, false, false, false, false, false, false, false, false] (againAct s0 s1 s2 s3 (.slice (some ⟨gD, 0, none⟩) nD cD) s5 (.pointer (some ⟨go, 0, none⟩)) (.pointer (some ⟨gp, 0, none⟩)) (.int .i64 (k : Int)) s9 s10 s11 s12 s13 s14 s15 s16 s17 s18 s19 s20 s21 s22 s23 s24 s25 s26 s27 s28 s29 s30 s31 s32 s33 s34 s35 s36 s37 s38 s39 s40 s41 s42 s43 s44 s45 s46 s47 (.pointer (some ⟨gp, 5, none⟩)) s49 (.slice (some ⟨gD, 0, none⟩) nD cD) s51 s52 s53 s54 s55 s56 s57 s58 s59 s60 s61 s62 s63 s64 s65 s66 s67 s68 s69 s70 s71 s72 s73 s74 s75 s76 s77 s78 s79 s80 s81 s82 s83 s84 s85 s86 s87 s88 s89 s90 s91 s92 s93 s94 s95 s96 s97 s98) X.drew := by
    refine wpAnyH_take (i := 3) (oi := { dst := some 51, op := Op.move (Operand.tmp 8), type := 3, pos := "again.go:140", after := #[], guard := none }) (v := (.int .i64 (k : Int))) rfl (by kernel_rfl) (by kernel_rfl) (by kernel_rfl) (fun _ _ _ h => h) (Or.inl ⟨by rfl, fun w hw => move_v rfl⟩) HS.out ?_
    refine wpAnyH_take (i := 4) (oi := { dst := some 52, op := Op.indexAddr 36 (Operand.tmp 50) (Operand.tmp 51), type := 0, pos := "again.go:140", after := #[{ on := 2, ground := Ground.data }, { on := 3, ground := Ground.data }], guard := none }) (v := (.pointer (some ⟨gD, k, none⟩))) rfl (by kernel_rfl) (by kernel_rfl) (by kernel_rfl) (fun _ _ _ h => h) (Or.inl ⟨by rfl, fun w hw => indexd_v rfl rfl hk1i hk0⟩) HS.out ?_
    exact T4
  refine wp_region_held_drew (S := (fun wx => wx.cell? ⟨gD, k, none⟩ = some (.pointer (some ⟨gd, 0, none⟩)) ∧ wx.cell? ⟨go, 5, none⟩ = some (.slice (some ⟨bO, oO, none⟩) nO cO) ∧ wx.cell? ⟨bO, oO + k, none⟩ = some (.slice ab nb cb))) (by kernel_rfl) HS.out (fun hS => ?_)
  refine wpAnyH_take (i := 0) (oi := { dst := some 48, op := Op.fieldAddr 38 (Operand.tmp 7) 5, type := 0, pos := "again.go:140", after := #[], guard := none }) (v := (.pointer (some ⟨gp, 5, none⟩))) rfl (by kernel_rfl) (by kernel_rfl) (by kernel_rfl) (fun _ _ _ h => h) (Or.inl ⟨by rfl, fun w hw => fieldo_v rfl⟩) HS.out ?_
  refine wpAnyH_take (i := 2) (oi := { dst := some 50, op := Op.move (Operand.tmp 4), type := 36, pos := "again.go:140", after := #[], guard := none }) (v := (.slice (some ⟨gD, 0, none⟩) nD cD)) rfl (by kernel_rfl) (by kernel_rfl) (by kernel_rfl) (fun _ _ _ h => h) (Or.inl ⟨by rfl, fun w hw => move_v rfl⟩) HS.out ?_
  exact T2

end Go.Proofs.YtledfniedoapiaaDoor
