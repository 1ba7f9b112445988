import Derived.Test.YtledfniedoapiaaDoorJ12
import Derived.Deep.RegionHeld3
import Derived.Lib.Hide
namespace Go.Proofs.YtledfniedoapiaaDoor
open Go.RowKit
set_option linter.unusedVariables false

set_option maxRecDepth 100000 in
theorem move_any {a : Act} {w : World} {x : Nat} {v : Value} {d : Option Nat} {ty : TypeId} {ps : String} {af : Array Edge} (hx : a.tmps[x]?.getD undef = v) :
    (execOp a.eval { dst := d, op := Op.move (Operand.tmp x), type := ty, pos := ps, after := af, guard := none }).run Tryd.prog w = .ok (.value v) w := by
  go_simp
set_option maxRecDepth 100000 in
theorem index_row {a : Act} {w : World} {x y g u n c : Nat} {d : Option Nat} {ps : String} {af : Array Edge} (hx : a.tmps[x]?.getD undef = .slice (some ⟨g, 0, none⟩) n c) (hy : a.tmps[y]?.getD undef = .int .i64 (u : Int)) (hu : (u : Int) < (n : Int)) (hu0 : (0 : Int) ≤ (u : Int)) :
    (execOp a.eval { dst := d, op := Op.indexAddr 25 (Operand.tmp x) (Operand.tmp y), type := 0, pos := ps, after := af, guard := none }).run Tryd.prog w = .ok (.value (.pointer (some ⟨g, u, none⟩))) w := by
  go_simp
set_option maxRecDepth 100000 in
theorem load_row {a : Act} {w : World} {p g u : Nat} {v : Value} {d : Option Nat} {ps : String} {af : Array Edge} (h : w.cell? ⟨g, u, none⟩ = some v) (hp : a.tmps[p]?.getD undef = .pointer (some ⟨g, u, none⟩)) :
    (execOp a.eval { dst := d, op := Op.load 23 (Operand.tmp p), type := 23, pos := ps, after := af, guard := none }).run Tryd.prog w = .ok (.value v) w := by
  go_simp
set_option maxRecDepth 100000 in
theorem wp_call_tail {a : Act} {w : World} {K : Act → World → Prop} {Q : Exit → Act → World → Prop} {d : Option Nat} {ps : String} {af : Array Edge} {x : Nat} {v : Value} {k : Int} {R : Ending → World → Prop} (hc : Calls Tryd.prog 25 #[v, .int .i64 k] w R) (hx : a.tmps[x]?.getD undef = v) (h : ∀ r w', R r w' → ∃ u, r = .returned u ∧ K (a.put d u) w') :
    Oper.wp Tryd.prog { dst := d, op := Op.call { callee := Callee.value (Operand.func 25), args := #[Operand.tmp x, Operand.const (Value.int IntKind.i64 k)], argTypes := #[3, 3] }, type := 23, pos := ps, after := af, guard := none } a w K Q := by
  go_simp
  refine hc.mono ?_
  intro r w' hr
  obtain ⟨u, rfl, hk⟩ := h r w' hr
  exact hk
set_option maxRecDepth 100000 in
theorem wp_assign_b {a : Act} {w : World} {K : Act → World → Prop} {Q : Exit → Act → World → Prop} {d : Option Nat} {ps : String} {af : Array Edge} {x n c : Nat} {ad : Option Addr} (hx : a.tmps[x]?.getD undef = .slice ad n c) (h : K (a.put d (.slice ad n c)) w) :
    Oper.wp Tryd.prog { dst := d, op := Op.assign (Operand.tmp x), type := 23, pos := ps, after := af, guard := none } a w K Q := by
  go_simp
  exact h
def fillAct (s0 s1 s2 s3 s4 s5 s6 s7 s8 s9 s10 s11 s12 s13 s14 s15 s16 s17 s18 s19 s20 s21 s22 s23 s24 s25 s26 s27 s28 s29 s30 s31 s32 s33 s34 s35 s36 s37 s38 s39 s40 s41 s42 s43 s44 s45 s46 s47 s48 s49 s50 s51 s52 s53 s54 s55 s56 s57 s58 s59 s60 s61 s62 s63 s64 s65 s66 s67 s68 s69 s70 s71 s72 s73 s74 : Value) : Act := ⟨#[s0, s1, s2, s3, s4, s5, s6, s7, s8, s9, s10, s11, s12, s13, s14, s15, s16, s17, s18, s19, s20, s21, s22, s23, s24, s25, s26, s27, s28, s29, s30, s31, s32, s33, s34, s35, s36, s37, s38, s39, s40, s41, s42, s43, s44, s45, s46, s47, s48, s49, s50, s51, s52, s53, s54, s55, s56, s57, s58, s59, s60, s61, s62, s63, s64, s65, s66, s67, s68, s69, s70, s71, s72, s73, s74], []⟩

def fill12Ops : Array Oper := #[{ dst := some 42, op := Op.move (Operand.tmp 0), type := 25, pos := "outright.go:290", after := #[], guard := none }, { dst := some 43, op := Op.move (Operand.tmp 6), type := 3, pos := "outright.go:290", after := #[], guard := none }, { dst := some 44, op := Op.indexAddr 25 (Operand.tmp 42) (Operand.tmp 43), type := 0, pos := "outright.go:290", after := #[{ on := 0, ground := Ground.data }, { on := 1, ground := Ground.data }], guard := none }, { dst := some 45, op := Op.load 23 (Operand.tmp 44), type := 23, pos := "outright.go:290", after := #[{ on := 2, ground := Ground.data }], guard := none }, { dst := some 46, op := Op.move (Operand.tmp 6), type := 3, pos := "outright.go:290", after := #[], guard := none }, { dst := some 47, op := Op.call { callee := Callee.value (Operand.func 25), args := #[Operand.tmp 46, Operand.const (Value.int IntKind.i64 1)], argTypes := #[3, 3] }, type := 23, pos := "outright.go:290", after := #[{ on := 4, ground := Ground.data }], guard := none }, { dst := some 48, op := Op.call { callee := Callee.builtin Builtin.append, args := #[Operand.tmp 45, Operand.tmp 47], argTypes := #[23, 23] }, type := 23, pos := "outright.go:290", after := #[{ on := 3, ground := Ground.data }, { on := 5, ground := Ground.data }, { on := 5, ground := Ground.chain }], guard := none }, { dst := some 7, op := Op.assign (Operand.tmp 48), type := 23, pos := "outright.go:290", after := #[{ on := 6, ground := Ground.data }, { on := 6, ground := Ground.chain }, { on := 0, ground := Ground.phase }, { on := 1, ground := Ground.phase }, { on := 2, ground := Ground.phase }, { on := 3, ground := Ground.phase }, { on := 4, ground := Ground.phase }, { on := 5, ground := Ground.phase }, { on := 6, ground := Ground.phase }], guard := none }]
set_option maxRecDepth 100000 in
set_option maxHeartbeats 8000000 in
theorem fill12_region {gL n c u nx cl B : Nat} {al : Option Addr} {xs : List Nat} {X : World} {s1 s2 s3 s4 s5 s7 s8 s9 s10 s11 s12 s13 s14 s15 s16 s17 s18 s19 s20 s21 s22 s23 s24 s25 s26 s27 s28 s29 s30 s31 s32 s33 s34 s35 s36 s37 s38 s39 s40 s41 s42 s43 s44 s45 s46 s47 s48 s49 s50 s51 s52 s53 s54 s55 s56 s57 s58 s59 s60 s61 s62 s63 s64 s65 s66 s67 s68 s69 s70 s71 s72 s73 s74 : Value} (hc : X.cell? ⟨gL, u, none⟩ = some (.slice al nx cl)) (hu : u < n) (hun : u ≤ 1000) (hnx : nx ≤ 4194304) (ho : Own X B (.slice al nx cl) nx xs) (hrow : ∃ Br v nr us, RowS X Br v nr us ∧ v.ownBlock = some gL) (hB : B ≤ X.heap.size) (Q : Exit → Act → World → Prop)
    (hQ : Hid (∀ (a1 : Option Addr) (c1 : Nat) (a' : Option Addr) (c' : Nat) (w2 w3 : World), Below X.heap.size X w2 → Own w3 B (.slice a' (nx + 1) c') (nx + 1) (xs ++ List.replicate 1 (tkOf u)) → w2.grownBy w3 (Value.slice al nx cl).ownBlock → Own w3 B (.slice al nx cl) nx xs → ((Value.slice a' (nx + 1) c').ownBlock = (Value.slice al nx cl).ownBlock ∨ ∀ g, (Value.slice a' (nx + 1) c').ownBlock = some g → w2.heap.size ≤ g) → Keeps (tkOf u) w2 w3 → Q .normal (fillAct (.slice (some ⟨gL, 0, none⟩) n c) s1 s2 s3 s4 s5 (.int .i64 (u : Int)) (.slice a' (nx + 1) c') s8 s9 s10 s11 s12 s13 s14 s15 s16 s17 s18 s19 s20 s21 s22 s23 s24 s25 s26 s27 s28 s29 s30 s31 s32 s33 s34 s35 s36 s37 s38 s39 s40 s41 (.slice (some ⟨gL, 0, none⟩) n c) (.int .i64 (u : Int)) (.pointer (some ⟨gL, u, none⟩)) (.slice al nx cl) (.int .i64 (u : Int)) (.slice a1 1 c1) (.slice a' (nx + 1) c') s49 s50 s51 s52 s53 s54 s55 s56 s57 s58 s59 s60 s61 s62 s63 s64 s65 s66 s67 s68 s69 s70 s71 s72 s73 s74) w3)) :
    Code.wp Tryd.prog (Code.region 12 fill12Ops true) Q (fillAct (.slice (some ⟨gL, 0, none⟩) n c) s1 s2 s3 s4 s5 (.int .i64 (u : Int)) s7 s8 s9 s10 s11 s12 s13 s14 s15 s16 s17 s18 s19 s20 s21 s22 s23 s24 s25 s26 s27 s28 s29 s30 s31 s32 s33 s34 s35 s36 s37 s38 s39 s40 s41 s42 s43 s44 s45 s46 s47 s48 s49 s50 s51 s52 s53 s54 s55 s56 s57 s58 s59 s60 s61 s62 s63 s64 s65 s66 s67 s68 s69 s70 s71 s72 s73 s74) X := by
  have XD : Below X.heap.size X X.drew := (Below.refl _ _).drew
  have hui : (u : Int) < (n : Int) := by omega
  have hu0 : (0 : Int) ≤ (u : Int) := by omega
  have HC : Hid (X.drew.cell? ⟨gL, u, none⟩ = some (.slice al nx cl)) := hc
  have HO := Lib.hid (ho.later XD)
  have HRW : Hid (∃ Br v nr us, RowS X.drew Br v nr us ∧ v.ownBlock = some gL) := by obtain ⟨p, q, r, s, h1, h2⟩ := hrow; exact ⟨p, q, r, s, h1.later XD, h2⟩
  have CT := Lib.hid (tail_any u 1 hun (by omega) X.drew)
  clear hc ho hrow
  refine wp_region_noPanic ?_
  have st : wpAnyH Tryd.prog .any fill12Ops (NoPanic Q) (fun wx => wx.cell? ⟨gL, u, none⟩ = some (.slice al nx cl)) 3 #[true, true, true, true, true, false, false, false] (fillAct (.slice (some ⟨gL, 0, none⟩) n c) s1 s2 s3 s4 s5 (.int .i64 (u : Int)) s7 s8 s9 s10 s11 s12 s13 s14 s15 s16 s17 s18 s19 s20 s21 s22 s23 s24 s25 s26 s27 s28 s29 s30 s31 s32 s33 s34 s35 s36 s37 s38 s39 s40 s41 (.slice (some ⟨gL, 0, none⟩) n c) (.int .i64 (u : Int)) (.pointer (some ⟨gL, u, none⟩)) (.slice al nx cl) (.int .i64 (u : Int)) s47 s48 s49 s50 s51 s52 s53 s54 s55 s56 s57 s58 s59 s60 s61 s62 s63 s64 s65 s66 s67 s68 s69 s70 s71 s72 s73 s74) X.drew := by
    refine wpAnyH_ready (rs := [5]) (by kernel_rfl) (by simp) ?_
    refine AllReadyH.cons (o := { dst := some 47, op := Op.call { callee := Callee.value (Operand.func 25), args := #[Operand.tmp 46, Operand.const (Value.int IntKind.i64 1)], argTypes := #[3, 3] }, type := 23, pos := "outright.go:290", after := #[{ on := 4, ground := Ground.data }], guard := none }) rfl (fun K hK => ?_) AllReadyH.nil
    rw [if_pos (by rfl)]
    refine wp_call_tail CT.out rfl ?_
    rintro r w2 ⟨a1, c1, rfl, o1, hb2⟩
    have hc2 : w2.cell? ⟨gL, u, none⟩ = some (.slice al nx cl) := by rw [hb2.cell (World.block_lt_of_cell? _ _ HC.out)]; exact HC.out
    refine ⟨_, rfl, hK.out _ _ hc2 (fun _ => ?_)⟩
    have o2 := HO.out.later hb2
    have st2 : wpAnyH Tryd.prog .any fill12Ops (NoPanic Q) (fun wx => wx.cell? ⟨gL, u, none⟩ = some (.slice al nx cl)) 2 #[true, true, true, true, true, true, false, false] (fillAct (.slice (some ⟨gL, 0, none⟩) n c) s1 s2 s3 s4 s5 (.int .i64 (u : Int)) s7 s8 s9 s10 s11 s12 s13 s14 s15 s16 s17 s18 s19 s20 s21 s22 s23 s24 s25 s26 s27 s28 s29 s30 s31 s32 s33 s34 s35 s36 s37 s38 s39 s40 s41 (.slice (some ⟨gL, 0, none⟩) n c) (.int .i64 (u : Int)) (.pointer (some ⟨gL, u, none⟩)) (.slice al nx cl) (.int .i64 (u : Int)) (.slice a1 1 c1) s48 s49 s50 s51 s52 s53 s54 s55 s56 s57 s58 s59 s60 s61 s62 s63 s64 s65 s66 s67 s68 s69 s70 s71 s72 s73 s74) w2 := by
      refine wpAnyH_ready (rs := [6]) (by kernel_rfl) (by simp) ?_
      refine AllReadyH.cons (o := { dst := some 48, op := Op.call { callee := Callee.builtin Builtin.append, args := #[Operand.tmp 45, Operand.tmp 47], argTypes := #[23, 23] }, type := 23, pos := "outright.go:290", after := #[{ on := 3, ground := Ground.data }, { on := 5, ground := Ground.data }, { on := 5, ground := Ground.chain }], guard := none }) rfl (fun K2 hK2 => ?_) AllReadyH.nil
      rw [if_pos (by rfl)]
      refine wp_append_tail rfl rfl o2 o1 (by omega) (by omega) (Nat.le_trans hB hb2.size) ?_
      intro a' c' w3 h1 h2 h3 h4 h5
      have hc3 : w3.cell? ⟨gL, u, none⟩ = some (.slice al nx cl) := h2.cell hc2 (fun e => by
        obtain ⟨Br, v, nr, us, r1, r2⟩ := HRW.out
        exact row_own (r1.later hb2) o2 r2 e.symm)
      refine hK2.out _ _ hc3 (fun _ => ?_)
      have st3 : wpAnyH Tryd.prog .any fill12Ops (NoPanic Q) (fun wx => wx.cell? ⟨gL, u, none⟩ = some (.slice al nx cl)) 1 #[true, true, true, true, true, true, true, false] (fillAct (.slice (some ⟨gL, 0, none⟩) n c) s1 s2 s3 s4 s5 (.int .i64 (u : Int)) s7 s8 s9 s10 s11 s12 s13 s14 s15 s16 s17 s18 s19 s20 s21 s22 s23 s24 s25 s26 s27 s28 s29 s30 s31 s32 s33 s34 s35 s36 s37 s38 s39 s40 s41 (.slice (some ⟨gL, 0, none⟩) n c) (.int .i64 (u : Int)) (.pointer (some ⟨gL, u, none⟩)) (.slice al nx cl) (.int .i64 (u : Int)) (.slice a1 1 c1) (.slice a' (nx + 1) c') s49 s50 s51 s52 s53 s54 s55 s56 s57 s58 s59 s60 s61 s62 s63 s64 s65 s66 s67 s68 s69 s70 s71 s72 s73 s74) w3 := by
        refine wpAnyH_ready (rs := [7]) (by kernel_rfl) (by simp) ?_
        refine AllReadyH.cons (o := { dst := some 7, op := Op.assign (Operand.tmp 48), type := 23, pos := "outright.go:290", after := #[{ on := 6, ground := Ground.data }, { on := 6, ground := Ground.chain }, { on := 0, ground := Ground.phase }, { on := 1, ground := Ground.phase }, { on := 2, ground := Ground.phase }, { on := 3, ground := Ground.phase }, { on := 4, ground := Ground.phase }, { on := 5, ground := Ground.phase }, { on := 6, ground := Ground.phase }], guard := none }) rfl (fun K3 hK3 => ?_) AllReadyH.nil
        rw [if_pos (by rfl)]
        refine wp_assign_b rfl ?_
        refine hK3.out _ _ hc3 (fun _ => ?_)
        refine wpAnyH_done (by kernel_rfl) ?_ _
        exact NoPanic.normal (hQ.out a1 c1 a' c' w2 w3 (XD.trans hb2) h1 h2 h3 h4 h5)
      exact st3
    exact st2
  refine wp_region_held_drew (S := (fun wx => wx.cell? ⟨gL, u, none⟩ = some (.slice al nx cl))) (by kernel_rfl) HC.out (fun hS => ?_)
  refine wpAnyH_take (i := 0) (oi := { dst := some 42, op := Op.move (Operand.tmp 0), type := 25, pos := "outright.go:290", after := #[], guard := none }) (v := (.slice (some ⟨gL, 0, none⟩) n c)) rfl (by kernel_rfl) (by kernel_rfl) (by kernel_rfl) (fun _ _ _ h => h) (Or.inl ⟨by rfl, fun w hw => move_any rfl⟩) hS ?_
  refine wpAnyH_take (i := 1) (oi := { dst := some 43, op := Op.move (Operand.tmp 6), type := 3, pos := "outright.go:290", after := #[], guard := none }) (v := (.int .i64 (u : Int))) rfl (by kernel_rfl) (by kernel_rfl) (by kernel_rfl) (fun _ _ _ h => h) (Or.inl ⟨by rfl, fun w hw => move_any rfl⟩) hS ?_
  refine wpAnyH_take (i := 2) (oi := { dst := some 44, op := Op.indexAddr 25 (Operand.tmp 42) (Operand.tmp 43), type := 0, pos := "outright.go:290", after := #[{ on := 0, ground := Ground.data }, { on := 1, ground := Ground.data }], guard := none }) (v := (.pointer (some ⟨gL, u, none⟩))) rfl (by kernel_rfl) (by kernel_rfl) (by kernel_rfl) (fun _ _ _ h => h) (Or.inl ⟨by rfl, fun w hw => index_row rfl rfl hui hu0⟩) hS ?_
  refine wpAnyH_take (i := 3) (oi := { dst := some 45, op := Op.load 23 (Operand.tmp 44), type := 23, pos := "outright.go:290", after := #[{ on := 2, ground := Ground.data }], guard := none }) (v := (.slice al nx cl)) rfl (by kernel_rfl) (by kernel_rfl) (by kernel_rfl) (fun _ _ _ h => h) (Or.inl ⟨by rfl, fun w hw => load_row hw rfl⟩) hS ?_
  refine wpAnyH_take (i := 4) (oi := { dst := some 46, op := Op.move (Operand.tmp 6), type := 3, pos := "outright.go:290", after := #[], guard := none }) (v := (.int .i64 (u : Int))) rfl (by kernel_rfl) (by kernel_rfl) (by kernel_rfl) (fun _ _ _ h => h) (Or.inl ⟨by rfl, fun w hw => move_any rfl⟩) hS ?_
  exact st

def fill13Ops : Array Oper := #[{ dst := some 49, op := Op.move (Operand.tmp 0), type := 25, pos := "outright.go:291", after := #[], guard := none }, { dst := some 50, op := Op.move (Operand.tmp 6), type := 3, pos := "outright.go:291", after := #[], guard := none }, { dst := some 51, op := Op.indexAddr 25 (Operand.tmp 49) (Operand.tmp 50), type := 0, pos := "outright.go:291", after := #[{ on := 0, ground := Ground.data }, { on := 1, ground := Ground.data }], guard := none }, { dst := some 52, op := Op.load 23 (Operand.tmp 51), type := 23, pos := "outright.go:291", after := #[{ on := 2, ground := Ground.data }], guard := none }, { dst := some 53, op := Op.move (Operand.tmp 6), type := 3, pos := "outright.go:291", after := #[], guard := none }, { dst := some 54, op := Op.call { callee := Callee.value (Operand.func 25), args := #[Operand.tmp 53, Operand.const (Value.int IntKind.i64 2)], argTypes := #[3, 3] }, type := 23, pos := "outright.go:291", after := #[{ on := 4, ground := Ground.data }], guard := none }, { dst := some 55, op := Op.call { callee := Callee.builtin Builtin.append, args := #[Operand.tmp 52, Operand.tmp 54], argTypes := #[23, 23] }, type := 23, pos := "outright.go:291", after := #[{ on := 3, ground := Ground.data }, { on := 5, ground := Ground.data }, { on := 5, ground := Ground.chain }], guard := none }, { dst := some 8, op := Op.assign (Operand.tmp 55), type := 23, pos := "outright.go:291", after := #[{ on := 6, ground := Ground.data }, { on := 6, ground := Ground.chain }, { on := 0, ground := Ground.phase }, { on := 1, ground := Ground.phase }, { on := 2, ground := Ground.phase }, { on := 3, ground := Ground.phase }, { on := 4, ground := Ground.phase }, { on := 5, ground := Ground.phase }, { on := 6, ground := Ground.phase }], guard := none }]
set_option maxRecDepth 100000 in
set_option maxHeartbeats 8000000 in
theorem fill13_region {gL n c u nx cl B : Nat} {al : Option Addr} {xs : List Nat} {X : World} {s1 s2 s3 s4 s5 s7 s8 s9 s10 s11 s12 s13 s14 s15 s16 s17 s18 s19 s20 s21 s22 s23 s24 s25 s26 s27 s28 s29 s30 s31 s32 s33 s34 s35 s36 s37 s38 s39 s40 s41 s42 s43 s44 s45 s46 s47 s48 s49 s50 s51 s52 s53 s54 s55 s56 s57 s58 s59 s60 s61 s62 s63 s64 s65 s66 s67 s68 s69 s70 s71 s72 s73 s74 : Value} (hc : X.cell? ⟨gL, u, none⟩ = some (.slice al nx cl)) (hu : u < n) (hun : u ≤ 1000) (hnx : nx ≤ 4194304) (ho : Own X B (.slice al nx cl) nx xs) (hrow : ∃ Br v nr us, RowS X Br v nr us ∧ v.ownBlock = some gL) (hB : B ≤ X.heap.size) (Q : Exit → Act → World → Prop)
    (hQ : Hid (∀ (a1 : Option Addr) (c1 : Nat) (a' : Option Addr) (c' : Nat) (w2 w3 : World), Below X.heap.size X w2 → Own w3 B (.slice a' (nx + 2) c') (nx + 2) (xs ++ List.replicate 2 (tkOf u)) → w2.grownBy w3 (Value.slice al nx cl).ownBlock → Own w3 B (.slice al nx cl) nx xs → ((Value.slice a' (nx + 2) c').ownBlock = (Value.slice al nx cl).ownBlock ∨ ∀ g, (Value.slice a' (nx + 2) c').ownBlock = some g → w2.heap.size ≤ g) → Keeps (tkOf u) w2 w3 → Q .normal (fillAct (.slice (some ⟨gL, 0, none⟩) n c) s1 s2 s3 s4 s5 (.int .i64 (u : Int)) s7 (.slice a' (nx + 2) c') s9 s10 s11 s12 s13 s14 s15 s16 s17 s18 s19 s20 s21 s22 s23 s24 s25 s26 s27 s28 s29 s30 s31 s32 s33 s34 s35 s36 s37 s38 s39 s40 s41 s42 s43 s44 s45 s46 s47 s48 (.slice (some ⟨gL, 0, none⟩) n c) (.int .i64 (u : Int)) (.pointer (some ⟨gL, u, none⟩)) (.slice al nx cl) (.int .i64 (u : Int)) (.slice a1 2 c1) (.slice a' (nx + 2) c') s56 s57 s58 s59 s60 s61 s62 s63 s64 s65 s66 s67 s68 s69 s70 s71 s72 s73 s74) w3)) :
    Code.wp Tryd.prog (Code.region 13 fill13Ops true) Q (fillAct (.slice (some ⟨gL, 0, none⟩) n c) s1 s2 s3 s4 s5 (.int .i64 (u : Int)) s7 s8 s9 s10 s11 s12 s13 s14 s15 s16 s17 s18 s19 s20 s21 s22 s23 s24 s25 s26 s27 s28 s29 s30 s31 s32 s33 s34 s35 s36 s37 s38 s39 s40 s41 s42 s43 s44 s45 s46 s47 s48 s49 s50 s51 s52 s53 s54 s55 s56 s57 s58 s59 s60 s61 s62 s63 s64 s65 s66 s67 s68 s69 s70 s71 s72 s73 s74) X := by
  have XD : Below X.heap.size X X.drew := (Below.refl _ _).drew
  have hui : (u : Int) < (n : Int) := by omega
  have hu0 : (0 : Int) ≤ (u : Int) := by omega
  have HC : Hid (X.drew.cell? ⟨gL, u, none⟩ = some (.slice al nx cl)) := hc
  have HO := Lib.hid (ho.later XD)
  have HRW : Hid (∃ Br v nr us, RowS X.drew Br v nr us ∧ v.ownBlock = some gL) := by obtain ⟨p, q, r, s, h1, h2⟩ := hrow; exact ⟨p, q, r, s, h1.later XD, h2⟩
  have CT := Lib.hid (tail_any u 2 hun (by omega) X.drew)
  clear hc ho hrow
  refine wp_region_noPanic ?_
  have st : wpAnyH Tryd.prog .any fill13Ops (NoPanic Q) (fun wx => wx.cell? ⟨gL, u, none⟩ = some (.slice al nx cl)) 3 #[true, true, true, true, true, false, false, false] (fillAct (.slice (some ⟨gL, 0, none⟩) n c) s1 s2 s3 s4 s5 (.int .i64 (u : Int)) s7 s8 s9 s10 s11 s12 s13 s14 s15 s16 s17 s18 s19 s20 s21 s22 s23 s24 s25 s26 s27 s28 s29 s30 s31 s32 s33 s34 s35 s36 s37 s38 s39 s40 s41 s42 s43 s44 s45 s46 s47 s48 (.slice (some ⟨gL, 0, none⟩) n c) (.int .i64 (u : Int)) (.pointer (some ⟨gL, u, none⟩)) (.slice al nx cl) (.int .i64 (u : Int)) s54 s55 s56 s57 s58 s59 s60 s61 s62 s63 s64 s65 s66 s67 s68 s69 s70 s71 s72 s73 s74) X.drew := by
    refine wpAnyH_ready (rs := [5]) (by kernel_rfl) (by simp) ?_
    refine AllReadyH.cons (o := { dst := some 54, op := Op.call { callee := Callee.value (Operand.func 25), args := #[Operand.tmp 53, Operand.const (Value.int IntKind.i64 2)], argTypes := #[3, 3] }, type := 23, pos := "outright.go:291", after := #[{ on := 4, ground := Ground.data }], guard := none }) rfl (fun K hK => ?_) AllReadyH.nil
    rw [if_pos (by rfl)]
    refine wp_call_tail CT.out rfl ?_
    rintro r w2 ⟨a1, c1, rfl, o1, hb2⟩
    have hc2 : w2.cell? ⟨gL, u, none⟩ = some (.slice al nx cl) := by rw [hb2.cell (World.block_lt_of_cell? _ _ HC.out)]; exact HC.out
    refine ⟨_, rfl, hK.out _ _ hc2 (fun _ => ?_)⟩
    have o2 := HO.out.later hb2
    have st2 : wpAnyH Tryd.prog .any fill13Ops (NoPanic Q) (fun wx => wx.cell? ⟨gL, u, none⟩ = some (.slice al nx cl)) 2 #[true, true, true, true, true, true, false, false] (fillAct (.slice (some ⟨gL, 0, none⟩) n c) s1 s2 s3 s4 s5 (.int .i64 (u : Int)) s7 s8 s9 s10 s11 s12 s13 s14 s15 s16 s17 s18 s19 s20 s21 s22 s23 s24 s25 s26 s27 s28 s29 s30 s31 s32 s33 s34 s35 s36 s37 s38 s39 s40 s41 s42 s43 s44 s45 s46 s47 s48 (.slice (some ⟨gL, 0, none⟩) n c) (.int .i64 (u : Int)) (.pointer (some ⟨gL, u, none⟩)) (.slice al nx cl) (.int .i64 (u : Int)) (.slice a1 2 c1) s55 s56 s57 s58 s59 s60 s61 s62 s63 s64 s65 s66 s67 s68 s69 s70 s71 s72 s73 s74) w2 := by
      refine wpAnyH_ready (rs := [6]) (by kernel_rfl) (by simp) ?_
      refine AllReadyH.cons (o := { dst := some 55, op := Op.call { callee := Callee.builtin Builtin.append, args := #[Operand.tmp 52, Operand.tmp 54], argTypes := #[23, 23] }, type := 23, pos := "outright.go:291", after := #[{ on := 3, ground := Ground.data }, { on := 5, ground := Ground.data }, { on := 5, ground := Ground.chain }], guard := none }) rfl (fun K2 hK2 => ?_) AllReadyH.nil
      rw [if_pos (by rfl)]
      refine wp_append_tail rfl rfl o2 o1 (by omega) (by omega) (Nat.le_trans hB hb2.size) ?_
      intro a' c' w3 h1 h2 h3 h4 h5
      have hc3 : w3.cell? ⟨gL, u, none⟩ = some (.slice al nx cl) := h2.cell hc2 (fun e => by
        obtain ⟨Br, v, nr, us, r1, r2⟩ := HRW.out
        exact row_own (r1.later hb2) o2 r2 e.symm)
      refine hK2.out _ _ hc3 (fun _ => ?_)
      have st3 : wpAnyH Tryd.prog .any fill13Ops (NoPanic Q) (fun wx => wx.cell? ⟨gL, u, none⟩ = some (.slice al nx cl)) 1 #[true, true, true, true, true, true, true, false] (fillAct (.slice (some ⟨gL, 0, none⟩) n c) s1 s2 s3 s4 s5 (.int .i64 (u : Int)) s7 s8 s9 s10 s11 s12 s13 s14 s15 s16 s17 s18 s19 s20 s21 s22 s23 s24 s25 s26 s27 s28 s29 s30 s31 s32 s33 s34 s35 s36 s37 s38 s39 s40 s41 s42 s43 s44 s45 s46 s47 s48 (.slice (some ⟨gL, 0, none⟩) n c) (.int .i64 (u : Int)) (.pointer (some ⟨gL, u, none⟩)) (.slice al nx cl) (.int .i64 (u : Int)) (.slice a1 2 c1) (.slice a' (nx + 2) c') s56 s57 s58 s59 s60 s61 s62 s63 s64 s65 s66 s67 s68 s69 s70 s71 s72 s73 s74) w3 := by
        refine wpAnyH_ready (rs := [7]) (by kernel_rfl) (by simp) ?_
        refine AllReadyH.cons (o := { dst := some 8, op := Op.assign (Operand.tmp 55), type := 23, pos := "outright.go:291", after := #[{ on := 6, ground := Ground.data }, { on := 6, ground := Ground.chain }, { on := 0, ground := Ground.phase }, { on := 1, ground := Ground.phase }, { on := 2, ground := Ground.phase }, { on := 3, ground := Ground.phase }, { on := 4, ground := Ground.phase }, { on := 5, ground := Ground.phase }, { on := 6, ground := Ground.phase }], guard := none }) rfl (fun K3 hK3 => ?_) AllReadyH.nil
        rw [if_pos (by rfl)]
        refine wp_assign_b rfl ?_
        refine hK3.out _ _ hc3 (fun _ => ?_)
        refine wpAnyH_done (by kernel_rfl) ?_ _
        exact NoPanic.normal (hQ.out a1 c1 a' c' w2 w3 (XD.trans hb2) h1 h2 h3 h4 h5)
      exact st3
    exact st2
  refine wp_region_held_drew (S := (fun wx => wx.cell? ⟨gL, u, none⟩ = some (.slice al nx cl))) (by kernel_rfl) HC.out (fun hS => ?_)
  refine wpAnyH_take (i := 0) (oi := { dst := some 49, op := Op.move (Operand.tmp 0), type := 25, pos := "outright.go:291", after := #[], guard := none }) (v := (.slice (some ⟨gL, 0, none⟩) n c)) rfl (by kernel_rfl) (by kernel_rfl) (by kernel_rfl) (fun _ _ _ h => h) (Or.inl ⟨by rfl, fun w hw => move_any rfl⟩) hS ?_
  refine wpAnyH_take (i := 1) (oi := { dst := some 50, op := Op.move (Operand.tmp 6), type := 3, pos := "outright.go:291", after := #[], guard := none }) (v := (.int .i64 (u : Int))) rfl (by kernel_rfl) (by kernel_rfl) (by kernel_rfl) (fun _ _ _ h => h) (Or.inl ⟨by rfl, fun w hw => move_any rfl⟩) hS ?_
  refine wpAnyH_take (i := 2) (oi := { dst := some 51, op := Op.indexAddr 25 (Operand.tmp 49) (Operand.tmp 50), type := 0, pos := "outright.go:291", after := #[{ on := 0, ground := Ground.data }, { on := 1, ground := Ground.data }], guard := none }) (v := (.pointer (some ⟨gL, u, none⟩))) rfl (by kernel_rfl) (by kernel_rfl) (by kernel_rfl) (fun _ _ _ h => h) (Or.inl ⟨by rfl, fun w hw => index_row rfl rfl hui hu0⟩) hS ?_
  refine wpAnyH_take (i := 3) (oi := { dst := some 52, op := Op.load 23 (Operand.tmp 51), type := 23, pos := "outright.go:291", after := #[{ on := 2, ground := Ground.data }], guard := none }) (v := (.slice al nx cl)) rfl (by kernel_rfl) (by kernel_rfl) (by kernel_rfl) (fun _ _ _ h => h) (Or.inl ⟨by rfl, fun w hw => load_row hw rfl⟩) hS ?_
  refine wpAnyH_take (i := 4) (oi := { dst := some 53, op := Op.move (Operand.tmp 6), type := 3, pos := "outright.go:291", after := #[], guard := none }) (v := (.int .i64 (u : Int))) rfl (by kernel_rfl) (by kernel_rfl) (by kernel_rfl) (fun _ _ _ h => h) (Or.inl ⟨by rfl, fun w hw => move_any rfl⟩) hS ?_
  exact st

end Go.Proofs.YtledfniedoapiaaDoor
