import Derived.Test.YtnjopfdeapclhaaJ31
import Derived.Deep.RegionHeld3
namespace Go.Proofs.Ytnjopfdeapclhaa
open Go.RowKit
set_option linter.unusedVariables false

def again1Ops : Array Oper := #[{ dst := some 27, op := Op.move (Operand.tmp 0), type := 28, pos := "again.go:128", after := #[], guard := none }, { dst := some 28, op := Op.call { callee := Callee.value (Operand.func 47), args := #[Operand.tmp 27, Operand.const (Value.int IntKind.i64 5000)], argTypes := #[28, 3] }, type := 28, pos := "again.go:128", after := #[{ on := 0, ground := Ground.data }], guard := none }, { dst := some 29, op := Op.load 30 (Operand.tmp 6), type := 30, pos := "again.go:128", after := #[], guard := none }, { dst := some 30, op := Op.call { callee := Callee.value (Operand.func 20), args := #[Operand.tmp 29], argTypes := #[30] }, type := 30, pos := "again.go:128", after := #[{ on := 2, ground := Ground.data }, { on := 1, ground := Ground.chain }], guard := none }, { dst := some 31, op := Op.load 30 (Operand.tmp 7), type := 30, pos := "again.go:128", after := #[], guard := none }, { dst := some 32, op := Op.call { callee := Callee.value (Operand.func 20), args := #[Operand.tmp 31], argTypes := #[30] }, type := 30, pos := "again.go:128", after := #[{ on := 4, ground := Ground.data }, { on := 3, ground := Ground.chain }], guard := none }, { dst := some 12, op := Op.alloc 30, type := 0, pos := "again.go:128", after := #[], guard := none }, { dst := some 13, op := Op.alloc 30, type := 0, pos := "again.go:128", after := #[], guard := none }, { dst := some 11, op := Op.assign (Operand.tmp 28), type := 28, pos := "again.go:128", after := #[{ on := 1, ground := Ground.data }, { on := 5, ground := Ground.chain }, { on := 0, ground := Ground.phase }, { on := 1, ground := Ground.phase }, { on := 2, ground := Ground.textOnly Departure.lateStores }, { on := 3, ground := Ground.textOnly Departure.lateStoresUnsure }, { on := 4, ground := Ground.textOnly Departure.lateStores }, { on := 5, ground := Ground.textOnly Departure.lateStoresUnsure }, { on := 6, ground := Ground.phase }, { on := 7, ground := Ground.phase }], guard := none }, { dst := none, op := Op.store 30 (Operand.tmp 12) (Operand.tmp 30), type := 0, pos := "again.go:128", after := #[{ on := 6, ground := Ground.data }, { on := 3, ground := Ground.data }, { on := 8, ground := Ground.chain }, { on := 0, ground := Ground.phase }, { on := 1, ground := Ground.phase }, { on := 2, ground := Ground.phase }, { on := 3, ground := Ground.phase }, { on := 4, ground := Ground.textOnly Departure.lateStores }, { on := 5, ground := Ground.textOnly Departure.lateStoresUnsure }, { on := 6, ground := Ground.phase }, { on := 7, ground := Ground.phase }, { on := 8, ground := Ground.phase }], guard := none }, { dst := none, op := Op.store 30 (Operand.tmp 13) (Operand.tmp 32), type := 0, pos := "again.go:128", after := #[{ on := 7, ground := Ground.data }, { on := 5, ground := Ground.data }, { on := 9, ground := Ground.chain }, { on := 0, ground := Ground.phase }, { on := 1, ground := Ground.phase }, { on := 2, ground := Ground.phase }, { on := 3, ground := Ground.phase }, { on := 4, ground := Ground.phase }, { on := 5, ground := Ground.phase }, { on := 6, ground := Ground.phase }, { on := 7, ground := Ground.phase }, { on := 8, ground := Ground.phase }, { on := 9, ground := Ground.phase }], guard := none }]
def again1Act (s0 s1 s2 s3 s4 s6 s7 s10 v11 v12 v13 v27 v28 v29 v30 v31 v32 : Value) : Act := ⟨#[s0, s1, s2, s3, s4, undef, s6, s7, undef, undef, s10, v11, v12, v13, undef, undef, undef, undef, undef, undef, undef, undef, undef, undef, undef, undef, undef, v27, v28, v29, v30, v31, v32, undef, undef, undef, undef, undef, undef, undef, undef, undef, undef, undef, undef, undef, undef, undef, undef, undef, undef, undef, undef, undef, undef, undef, undef, undef, undef, undef, undef, undef, undef, undef, undef, undef, undef, undef, undef, undef, undef, undef, undef, undef, undef, undef, undef, undef, undef, undef, undef, undef, undef, undef, undef, undef, undef, undef, undef, undef, undef, undef, undef, undef, undef, undef, undef, undef, undef, undef, undef, undef, undef, undef, undef, undef, undef, undef, undef, undef, undef, undef, undef, undef, undef, undef, undef, undef, undef, undef, undef, undef, undef, undef, undef, undef, undef, undef, undef, undef, undef, undef], []⟩

end Go.Proofs.Ytnjopfdeapclhaa

namespace Go.Proofs.Ytnjopfdeapclhaa
open Go.RowKit
set_option linter.unusedVariables false

def again2Ops : Array Oper := #[{ dst := some 43, op := Op.move (Operand.tmp 11), type := 28, pos := "again.go:130", after := #[], guard := none }, { dst := some 44, op := Op.call { callee := Callee.value (Operand.func 75), args := #[Operand.tmp 43], argTypes := #[28] }, type := 28, pos := "again.go:130", after := #[{ on := 0, ground := Ground.data }], guard := none }, { dst := some 45, op := Op.load 30 (Operand.tmp 12), type := 30, pos := "again.go:130", after := #[], guard := none }, { dst := some 46, op := Op.call { callee := Callee.value (Operand.func 20), args := #[Operand.tmp 45], argTypes := #[30] }, type := 30, pos := "again.go:130", after := #[{ on := 2, ground := Ground.data }, { on := 1, ground := Ground.chain }], guard := none }, { dst := some 16, op := Op.alloc 30, type := 0, pos := "again.go:130", after := #[], guard := none }, { dst := some 15, op := Op.assign (Operand.tmp 44), type := 28, pos := "again.go:130", after := #[{ on := 1, ground := Ground.data }, { on := 3, ground := Ground.chain }, { on := 0, ground := Ground.phase }, { on := 1, ground := Ground.phase }, { on := 2, ground := Ground.textOnly Departure.lateStores }, { on := 3, ground := Ground.textOnly Departure.lateStoresUnsure }, { on := 4, ground := Ground.phase }], guard := none }, { dst := none, op := Op.store 30 (Operand.tmp 16) (Operand.tmp 46), type := 0, pos := "again.go:130", after := #[{ on := 4, ground := Ground.data }, { on := 3, ground := Ground.data }, { on := 5, ground := Ground.chain }, { on := 0, ground := Ground.phase }, { on := 1, ground := Ground.phase }, { on := 2, ground := Ground.phase }, { on := 3, ground := Ground.phase }, { on := 4, ground := Ground.phase }, { on := 5, ground := Ground.phase }], guard := none }]
def again2Act (s0 s1 s2 s3 s4 s6 s7 s10 s11 s12 s13 s14 s17 s18 s19 s20 s21 s22 s23 s24 s25 s26 s27 s28 s29 s30 s31 s32 s33 s34 s35 s36 s37 s38 s39 s40 s41 s42 s47 s48 s49 s50 s51 s52 s53 s54 s55 s56 s57 s58 s59 s60 s61 s62 s63 s64 s65 s66 s67 s68 s69 s70 s71 s72 s73 s74 s75 s76 s77 s78 s79 s80 s81 s82 s83 s84 s85 s86 s87 s88 s89 s90 s91 s92 s93 s94 s95 s96 s97 s98 s99 s100 s101 s102 s103 s104 s105 s106 s107 s108 s109 s110 s111 s112 s113 s114 s115 s116 s117 s118 s119 s120 s121 s122 s123 s124 s125 s126 s127 s128 s129 s130 v15 v16 v43 v44 v45 v46 : Value) : Act := ⟨#[s0, s1, s2, s3, s4, undef, s6, s7, undef, undef, s10, s11, s12, s13, s14, v15, v16, s17, s18, s19, s20, s21, s22, s23, s24, s25, s26, s27, s28, s29, s30, s31, s32, s33, s34, s35, s36, s37, s38, s39, s40, s41, s42, v43, v44, v45, v46, s47, s48, s49, s50, s51, s52, s53, s54, s55, s56, s57, s58, s59, s60, s61, s62, s63, s64, s65, s66, s67, s68, s69, s70, s71, s72, s73, s74, s75, s76, s77, s78, s79, s80, s81, s82, s83, s84, s85, s86, s87, s88, s89, s90, s91, s92, s93, s94, s95, s96, s97, s98, s99, s100, s101, s102, s103, s104, s105, s106, s107, s108, s109, s110, s111, s112, s113, s114, s115, s116, s117, s118, s119, s120, s121, s122, s123, s124, s125, s126, s127, s128, s129, s130, undef], []⟩

end Go.Proofs.Ytnjopfdeapclhaa

namespace Go.Proofs.Ytnjopfdeapclhaa
open Go.RowKit
set_option linter.unusedVariables false

structure TurnD where
  k : Int
  a : Int
  b : Int
/-- A list of turns reads as these. -/
def RdT (w : World) (v : Value) (ts : List TurnD) : Prop := ∃ a cap, v = .slice a ts.length cap ∧ ts.length ≤ cap ∧ cap ≤ maxLen ∧ ts.length ≤ 281474976710656 ∧ (ts = [] ∨ ∃ b off, a = some ⟨b, off, none⟩ ∧ ∀ i f, ts[i]? = some f → w.cell? ⟨b, off + i * 3, none⟩ = some (.int .i64 f.k) ∧ w.cell? ⟨b, off + i * 3 + 1, none⟩ = some (.int .i64 f.a) ∧ w.cell? ⟨b, off + i * 3 + 2, none⟩ = some (.int .i64 f.b))
theorem RdT.later {w w' : World} {v : Value} {fs : List TurnD} (h : RdT w v fs) (hb : Below w.heap.size w w') : RdT w' v fs := by
  obtain ⟨a, cap, h1, h2, h3, h4, h5⟩ := h
  refine ⟨a, cap, h1, h2, h3, h4, ?_⟩
  rcases h5 with h5 | ⟨b, off, rfl, hc⟩
  · exact .inl h5
  · refine .inr ⟨b, off, rfl, fun i f hf => ?_⟩
    obtain ⟨c0, c1, c2⟩ := hc i f hf
    exact ⟨by rw [hb.cell (p := ⟨b, off + i * 3, none⟩) (World.block_lt_of_cell? w _ c0)]; exact c0, by rw [hb.cell (p := ⟨b, off + i * 3 + 1, none⟩) (World.block_lt_of_cell? w _ c1)]; exact c1, by rw [hb.cell (p := ⟨b, off + i * 3 + 2, none⟩) (World.block_lt_of_cell? w _ c2)]; exact c2⟩
/-- What stands between two rounds. -/
structure Ag (w wr : World) (o : EntD) (qi qf : Nat) (vb : Value) (I Fd : EntD) (bs : List Nat) : Prop where
  ei : EBox wr qi I
  ef : EBox wr qf Fd
  eo : EBox wr (w.heap.size + 1) o
  li : LaidE wr w.heap.size I
  lf : LaidE wr w.heap.size Fd
  lb : Laid wr w.heap.size vb bs
  fi : EntD.Fine I
  hb : Bys bs ∧ bs.length ≤ 5000
  bel : Below w.heap.size w wr
theorem Ag.later {w wr wx : World} {o : EntD} {qi qf : Nat} {vb : Value} {I Fd : EntD} {bs : List Nat} (h : Ag w wr o qi qf vb I Fd bs) (k : Below wr.heap.size wr wx) : Ag w wx o qi qf vb I Fd bs :=
  ⟨h.ei.later k, h.ef.later k, h.eo.later k, h.li.later k, h.lf.later k, h.lb.later k, h.fi, h.hb, h.bel.trans (k.mono h.bel.size)⟩
theorem cut_same {D : EntD} (h : EntD.Fine D) : EntD.Same D.cut D := by
  refine ⟨rfl, rfl, rfl, rfl, ?_, ?_, ?_⟩
  · exact List.take_of_length_le h.1.2
  · exact List.take_of_length_le h.2.1.2
  · exact List.take_of_length_le h.2.2.2
theorem Laid.form2 {w : World} {B : Nat} {u : Value} {bs : List Nat} (h : Laid w B u bs) : ∃ g n c, u = .slice (some ⟨g, 0, none⟩) n c := by
  obtain ⟨g, c, h1, _⟩ := h
  exact ⟨_, _, _, h1⟩
theorem two_in (w : World) (a b : EntD) : EBox ((w.alloc (.cells a.cells 30)).alloc (.cells b.cells 30)) w.heap.size a ∧ EBox ((w.alloc (.cells a.cells 30)).alloc (.cells b.cells 30)) (w.heap.size + 1) b ∧ Below w.heap.size w ((w.alloc (.cells a.cells 30)).alloc (.cells b.cells 30)) := by
  refine ⟨(EBox.new w a).later ((Below.refl _ _).alloc (Nat.le_refl _) _), ?_, (((Below.refl w.heap.size w).alloc (Nat.le_refl _) _).alloc (by simp) _)⟩
  have h := EBox.new (w.alloc (.cells a.cells 30)) b
  rw [World.size_alloc] at h
  exact h

end Go.Proofs.Ytnjopfdeapclhaa

namespace Go.Proofs.Ytnjopfdeapclhaa
open Go.RowKit
set_option linter.unusedVariables false

set_option maxRecDepth 100000 in
theorem index_turn {a : Act} {w : World} {x y t nt ct tb toff : Nat} {d : Option Nat} {ps : String} {af : Array Edge} (hx : a.tmps[x]?.getD undef = .slice (some ⟨tb, toff, none⟩) nt ct) (hy : a.tmps[y]?.getD undef = .int .i64 (t : Int)) (ht : t < nt) :
    (execOp a.eval { dst := d, op := Op.indexAddr 57 (Operand.tmp x) (Operand.tmp y), type := 0, pos := ps, after := af, guard := none }).run Try.prog w = .ok (.value (.pointer (some ⟨tb, toff + t * 3, none⟩))) w := by
  have h1 : (0 : Int) ≤ (t : Int) := by omega
  have h2 : (t : Int) < (nt : Int) := by omega
  go_simp
set_option maxRecDepth 100000 in
theorem load_turn {a : Act} {w : World} {p tb off : Nat} {f : TurnD} {d : Option Nat} {ps : String} {af : Array Edge} (h : w.cell? ⟨tb, off, none⟩ = some (.int .i64 f.k) ∧ w.cell? ⟨tb, off + 1, none⟩ = some (.int .i64 f.a) ∧ w.cell? ⟨tb, off + 2, none⟩ = some (.int .i64 f.b)) (hp : a.tmps[p]?.getD undef = .pointer (some ⟨tb, off, none⟩)) :
    (execOp a.eval { dst := d, op := Op.load 62 (Operand.tmp p), type := 62, pos := ps, after := af, guard := none }).run Try.prog w = .ok (.value (.agg #[.int .i64 f.k, .int .i64 f.a, .int .i64 f.b])) w := by
  obtain ⟨h0, h1, h2⟩ := h
  go_simp
set_option maxRecDepth 100000 in
theorem move_any {a : Act} {w : World} {x ty : Nat} {v : Value} {d : Option Nat} {ps : String} {af : Array Edge} (hx : a.tmps[x]?.getD undef = v) :
    (execOp a.eval { dst := d, op := Op.move (Operand.tmp x), type := ty, pos := ps, after := af, guard := none }).run Try.prog w = .ok (.value v) w := by
  go_simp
set_option maxRecDepth 100000 in
theorem wp_load_entry {a : Act} {w : World} {K : Act → World → Prop} {Q : Exit → Act → World → Prop} {p g : Nat} {e : EntD} {d : Option Nat} {ps : String} {af : Array Edge} (h : EBox w g e) (hp : a.tmps[p]?.getD undef = .pointer (some ⟨g, 0, none⟩)) (hk : K (a.put d (.agg e.cells)) w) :
    Oper.wp Try.prog { dst := d, op := Op.load 30 (Operand.tmp p), type := 30, pos := ps, after := af, guard := none } a w K Q := by
  obtain ⟨c0, c1, c2, c3, c4, c5, c6⟩ := h.cells7
  simp only [EntD.cells] at hk
  go_simp
  exact hk
set_option maxRecDepth 100000 in
theorem wp_call_turned {a : Act} {w : World} {K : Act → World → Prop} {Q : Exit → Act → World → Prop} {d : Option Nat} {ps : String} {af : Array Edge} {x y z : Nat} {v1 v2 v3 : Value} {R : Ending → World → Prop} (hc : Calls Try.prog 30 #[v1, v2, v3] w R) (hx : a.tmps[x]?.getD undef = v1) (hy : a.tmps[y]?.getD undef = v2) (hz : a.tmps[z]?.getD undef = v3) (h : ∀ r w', R r w' → ∃ u, r = .returned u ∧ K (a.put d u) w') :
    Oper.wp Try.prog { dst := d, op := Op.call { callee := Callee.value (Operand.func 30), args := #[Operand.tmp x, Operand.tmp y, Operand.tmp z], argTypes := #[30, 28, 62] }, type := 30, pos := ps, after := af, guard := none } a w K Q := by
  go_simp
  refine hc.mono ?_
  intro r w' hr
  obtain ⟨u, rfl, hk⟩ := h r w' hr
  exact hk

def again3Ops : Array Oper := #[{ dst := some 124, op := Op.load 30 (Operand.tmp 12), type := 30, pos := "again.go:142", after := #[], guard := none }, { dst := some 125, op := Op.move (Operand.tmp 11), type := 28, pos := "again.go:142", after := #[], guard := none }, { dst := some 126, op := Op.move (Operand.tmp 4), type := 57, pos := "again.go:142", after := #[], guard := none }, { dst := some 127, op := Op.move (Operand.tmp 14), type := 3, pos := "again.go:142", after := #[], guard := none }, { dst := some 128, op := Op.indexAddr 57 (Operand.tmp 126) (Operand.tmp 127), type := 0, pos := "again.go:142", after := #[{ on := 2, ground := Ground.data }, { on := 3, ground := Ground.data }], guard := none }, { dst := some 129, op := Op.load 62 (Operand.tmp 128), type := 62, pos := "again.go:142", after := #[{ on := 4, ground := Ground.data }], guard := none }, { dst := some 130, op := Op.call { callee := Callee.value (Operand.func 30), args := #[Operand.tmp 124, Operand.tmp 125, Operand.tmp 129], argTypes := #[30, 28, 62] }, type := 30, pos := "again.go:142", after := #[{ on := 0, ground := Ground.data }, { on := 1, ground := Ground.data }, { on := 5, ground := Ground.data }], guard := none }, { dst := none, op := Op.store 30 (Operand.tmp 12) (Operand.tmp 130), type := 0, pos := "again.go:142", after := #[{ on := 6, ground := Ground.data }, { on := 6, ground := Ground.chain }, { on := 0, ground := Ground.phase }, { on := 1, ground := Ground.phase }, { on := 2, ground := Ground.phase }, { on := 3, ground := Ground.phase }, { on := 4, ground := Ground.phase }, { on := 5, ground := Ground.phase }, { on := 6, ground := Ground.phase }], guard := none }]
def again3Act (s0 s1 s2 s3 s4 s6 s7 s10 s11 s12 s13 s14 s15 s16 s17 s18 s19 s20 s21 s22 s23 s24 s25 s26 s27 s28 s29 s30 s31 s32 s33 s34 s35 s36 s37 s38 s39 s40 s41 s42 s43 s44 s45 s46 s47 s48 s49 s50 s51 s52 s53 s54 s55 s56 s57 s58 s59 s60 s61 s62 s63 s64 s65 s66 s67 s68 s69 s70 s71 s72 s73 s74 s75 s76 s77 s78 s79 s80 s81 s82 s83 s84 s85 s86 s87 s88 s89 s90 s91 s92 s93 s94 s95 s96 s97 s98 s99 s100 s101 s102 s103 s104 s105 s106 s107 s108 s109 s110 s111 s112 s113 s114 s115 s116 s117 s118 s119 s120 s121 s122 s123 v124 v125 v126 v127 v128 v129 v130 : Value) : Act := ⟨#[s0, s1, s2, s3, s4, undef, s6, s7, undef, undef, s10, s11, s12, s13, s14, s15, s16, s17, s18, s19, s20, s21, s22, s23, s24, s25, s26, s27, s28, s29, s30, s31, s32, s33, s34, s35, s36, s37, s38, s39, s40, s41, s42, s43, s44, s45, s46, s47, s48, s49, s50, s51, s52, s53, s54, s55, s56, s57, s58, s59, s60, s61, s62, s63, s64, s65, s66, s67, s68, s69, s70, s71, s72, s73, s74, s75, s76, s77, s78, s79, s80, s81, s82, s83, s84, s85, s86, s87, s88, s89, s90, s91, s92, s93, s94, s95, s96, s97, s98, s99, s100, s101, s102, s103, s104, s105, s106, s107, s108, s109, s110, s111, s112, s113, s114, s115, s116, s117, s118, s119, s120, s121, s122, s123, v124, v125, v126, v127, v128, v129, v130, undef], []⟩

set_option maxRecDepth 100000 in
set_option maxHeartbeats 8000000 in
theorem again3_region {e0 : EntD} {bv0 : Value} {g0 tb toff t nt ct : Nat} {f : TurnD} {X : World} (h0 : EBox X g0 e0) (hc : (X.cell? ⟨tb, toff + t * 3, none⟩ = some (.int .i64 f.k) ∧ X.cell? ⟨tb, toff + t * 3 + 1, none⟩ = some (.int .i64 f.a) ∧ X.cell? ⟨tb, toff + t * 3 + 2, none⟩ = some (.int .i64 f.b))) (ht : t < nt) {s0 s1 s2 s3 s6 s7 s10 s13 s15 s16 s17 s18 s19 s20 s21 s22 s23 s24 s25 s26 s27 s28 s29 s30 s31 s32 s33 s34 s35 s36 s37 s38 s39 s40 s41 s42 s43 s44 s45 s46 s47 s48 s49 s50 s51 s52 s53 s54 s55 s56 s57 s58 s59 s60 s61 s62 s63 s64 s65 s66 s67 s68 s69 s70 s71 s72 s73 s74 s75 s76 s77 s78 s79 s80 s81 s82 s83 s84 s85 s86 s87 s88 s89 s90 s91 s92 s93 s94 s95 s96 s97 s98 s99 s100 s101 s102 s103 s104 s105 s106 s107 s108 s109 s110 s111 s112 s113 s114 s115 s116 s117 s118 s119 s120 s121 s122 s123 z124 z125 z126 z127 z128 z129 z130 : Value} {R : Ending → World → Prop} (hcall : Calls Try.prog 30 #[.agg e0.cells, bv0, .agg #[.int .i64 f.k, .int .i64 f.a, .int .i64 f.b]] X.drew R) (Q : Exit → Act → World → Prop)
    (hR : Hid (∀ r w', R r w' → ∃ (D D0 : EntD) (B : Nat), r = .returned (.agg D.cells) ∧ EBox w' g0 D0 ∧ LaidE w' B D ∧ (w'.cell? ⟨tb, toff + t * 3, none⟩ = some (.int .i64 f.k) ∧ w'.cell? ⟨tb, toff + t * 3 + 1, none⟩ = some (.int .i64 f.a) ∧ w'.cell? ⟨tb, toff + t * 3 + 2, none⟩ = some (.int .i64 f.b)) ∧ ((filled w' g0 D).cell? ⟨tb, toff + t * 3, none⟩ = some (.int .i64 f.k) ∧ (filled w' g0 D).cell? ⟨tb, toff + t * 3 + 1, none⟩ = some (.int .i64 f.a) ∧ (filled w' g0 D).cell? ⟨tb, toff + t * 3 + 2, none⟩ = some (.int .i64 f.b)) ∧ Q .normal (again3Act s0 s1 s2 s3 (.slice (some ⟨tb, toff, none⟩) nt ct) s6 s7 s10 bv0 (.pointer (some ⟨g0, 0, none⟩)) s13 (.int .i64 (t : Int)) s15 s16 s17 s18 s19 s20 s21 s22 s23 s24 s25 s26 s27 s28 s29 s30 s31 s32 s33 s34 s35 s36 s37 s38 s39 s40 s41 s42 s43 s44 s45 s46 s47 s48 s49 s50 s51 s52 s53 s54 s55 s56 s57 s58 s59 s60 s61 s62 s63 s64 s65 s66 s67 s68 s69 s70 s71 s72 s73 s74 s75 s76 s77 s78 s79 s80 s81 s82 s83 s84 s85 s86 s87 s88 s89 s90 s91 s92 s93 s94 s95 s96 s97 s98 s99 s100 s101 s102 s103 s104 s105 s106 s107 s108 s109 s110 s111 s112 s113 s114 s115 s116 s117 s118 s119 s120 s121 s122 s123 (.agg e0.cells) bv0 (.slice (some ⟨tb, toff, none⟩) nt ct) (.int .i64 (t : Int)) (.pointer (some ⟨tb, toff + t * 3, none⟩)) (.agg #[.int .i64 f.k, .int .i64 f.a, .int .i64 f.b]) (.agg D.cells)) (filled w' g0 D))) :
    Code.wp Try.prog (Code.region 15 again3Ops true) Q (again3Act s0 s1 s2 s3 (.slice (some ⟨tb, toff, none⟩) nt ct) s6 s7 s10 bv0 (.pointer (some ⟨g0, 0, none⟩)) s13 (.int .i64 (t : Int)) s15 s16 s17 s18 s19 s20 s21 s22 s23 s24 s25 s26 s27 s28 s29 s30 s31 s32 s33 s34 s35 s36 s37 s38 s39 s40 s41 s42 s43 s44 s45 s46 s47 s48 s49 s50 s51 s52 s53 s54 s55 s56 s57 s58 s59 s60 s61 s62 s63 s64 s65 s66 s67 s68 s69 s70 s71 s72 s73 s74 s75 s76 s77 s78 s79 s80 s81 s82 s83 s84 s85 s86 s87 s88 s89 s90 s91 s92 s93 s94 s95 s96 s97 s98 s99 s100 s101 s102 s103 s104 s105 s106 s107 s108 s109 s110 s111 s112 s113 s114 s115 s116 s117 s118 s119 s120 s121 s122 s123 z124 z125 z126 z127 z128 z129 z130) X := by
  have XD : Below X.heap.size X X.drew := (Below.refl _ _).drew
  have HB := Lib.hid (h0.later XD)
  have HC : Hid ((X.drew.cell? ⟨tb, toff + t * 3, none⟩ = some (.int .i64 f.k) ∧ X.drew.cell? ⟨tb, toff + t * 3 + 1, none⟩ = some (.int .i64 f.a) ∧ X.drew.cell? ⟨tb, toff + t * 3 + 2, none⟩ = some (.int .i64 f.b))) := hc
  have HCL := Lib.hid hcall
  clear h0 hc hcall
  refine wp_region_noPanic ?_
  have st2 : ∀ (w' : World) (D D0 : EntD) (B : Nat), EBox w' g0 D0 → LaidE w' B D → ((filled w' g0 D).cell? ⟨tb, toff + t * 3, none⟩ = some (.int .i64 f.k) ∧ (filled w' g0 D).cell? ⟨tb, toff + t * 3 + 1, none⟩ = some (.int .i64 f.a) ∧ (filled w' g0 D).cell? ⟨tb, toff + t * 3 + 2, none⟩ = some (.int .i64 f.b)) → Q .normal (again3Act s0 s1 s2 s3 (.slice (some ⟨tb, toff, none⟩) nt ct) s6 s7 s10 bv0 (.pointer (some ⟨g0, 0, none⟩)) s13 (.int .i64 (t : Int)) s15 s16 s17 s18 s19 s20 s21 s22 s23 s24 s25 s26 s27 s28 s29 s30 s31 s32 s33 s34 s35 s36 s37 s38 s39 s40 s41 s42 s43 s44 s45 s46 s47 s48 s49 s50 s51 s52 s53 s54 s55 s56 s57 s58 s59 s60 s61 s62 s63 s64 s65 s66 s67 s68 s69 s70 s71 s72 s73 s74 s75 s76 s77 s78 s79 s80 s81 s82 s83 s84 s85 s86 s87 s88 s89 s90 s91 s92 s93 s94 s95 s96 s97 s98 s99 s100 s101 s102 s103 s104 s105 s106 s107 s108 s109 s110 s111 s112 s113 s114 s115 s116 s117 s118 s119 s120 s121 s122 s123 (.agg e0.cells) bv0 (.slice (some ⟨tb, toff, none⟩) nt ct) (.int .i64 (t : Int)) (.pointer (some ⟨tb, toff + t * 3, none⟩)) (.agg #[.int .i64 f.k, .int .i64 f.a, .int .i64 f.b]) (.agg D.cells)) (filled w' g0 D) → wpAnyH Try.prog .any again3Ops (NoPanic Q) (fun wx => (wx.cell? ⟨tb, toff + t * 3, none⟩ = some (.int .i64 f.k) ∧ wx.cell? ⟨tb, toff + t * 3 + 1, none⟩ = some (.int .i64 f.a) ∧ wx.cell? ⟨tb, toff + t * 3 + 2, none⟩ = some (.int .i64 f.b))) 1 #[true, true, true, true, true, true, true, false] (again3Act s0 s1 s2 s3 (.slice (some ⟨tb, toff, none⟩) nt ct) s6 s7 s10 bv0 (.pointer (some ⟨g0, 0, none⟩)) s13 (.int .i64 (t : Int)) s15 s16 s17 s18 s19 s20 s21 s22 s23 s24 s25 s26 s27 s28 s29 s30 s31 s32 s33 s34 s35 s36 s37 s38 s39 s40 s41 s42 s43 s44 s45 s46 s47 s48 s49 s50 s51 s52 s53 s54 s55 s56 s57 s58 s59 s60 s61 s62 s63 s64 s65 s66 s67 s68 s69 s70 s71 s72 s73 s74 s75 s76 s77 s78 s79 s80 s81 s82 s83 s84 s85 s86 s87 s88 s89 s90 s91 s92 s93 s94 s95 s96 s97 s98 s99 s100 s101 s102 s103 s104 s105 s106 s107 s108 s109 s110 s111 s112 s113 s114 s115 s116 s117 s118 s119 s120 s121 s122 s123 (.agg e0.cells) bv0 (.slice (some ⟨tb, toff, none⟩) nt ct) (.int .i64 (t : Int)) (.pointer (some ⟨tb, toff + t * 3, none⟩)) (.agg #[.int .i64 f.k, .int .i64 f.a, .int .i64 f.b]) (.agg D.cells)) w' := by
    intro w' D D0 B hb hl hcf hq
    refine wpAnyH_ready (rs := [7]) (by kernel_rfl) (by simp) ?_
    refine AllReadyH.cons (o := { dst := none, op := Op.store 30 (Operand.tmp 12) (Operand.tmp 130), type := 0, pos := "again.go:142", after := #[{ on := 6, ground := Ground.data }, { on := 6, ground := Ground.chain }, { on := 0, ground := Ground.phase }, { on := 1, ground := Ground.phase }, { on := 2, ground := Ground.phase }, { on := 3, ground := Ground.phase }, { on := 4, ground := Ground.phase }, { on := 5, ground := Ground.phase }, { on := 6, ground := Ground.phase }], guard := none }) rfl (fun K3 hK3 => ?_) AllReadyH.nil
    rw [if_pos (by rfl)]
    refine wp_store_entry hb hl rfl rfl ?_
    refine hK3.out _ _ hcf (fun hS3 => ?_)
    refine wpAnyH_done (by kernel_rfl) ?_ _
    exact NoPanic.normal hq
  have st1 : wpAnyH Try.prog .any again3Ops (NoPanic Q) (fun wx => (wx.cell? ⟨tb, toff + t * 3, none⟩ = some (.int .i64 f.k) ∧ wx.cell? ⟨tb, toff + t * 3 + 1, none⟩ = some (.int .i64 f.a) ∧ wx.cell? ⟨tb, toff + t * 3 + 2, none⟩ = some (.int .i64 f.b))) 2 #[true, true, true, true, true, true, false, false] (again3Act s0 s1 s2 s3 (.slice (some ⟨tb, toff, none⟩) nt ct) s6 s7 s10 bv0 (.pointer (some ⟨g0, 0, none⟩)) s13 (.int .i64 (t : Int)) s15 s16 s17 s18 s19 s20 s21 s22 s23 s24 s25 s26 s27 s28 s29 s30 s31 s32 s33 s34 s35 s36 s37 s38 s39 s40 s41 s42 s43 s44 s45 s46 s47 s48 s49 s50 s51 s52 s53 s54 s55 s56 s57 s58 s59 s60 s61 s62 s63 s64 s65 s66 s67 s68 s69 s70 s71 s72 s73 s74 s75 s76 s77 s78 s79 s80 s81 s82 s83 s84 s85 s86 s87 s88 s89 s90 s91 s92 s93 s94 s95 s96 s97 s98 s99 s100 s101 s102 s103 s104 s105 s106 s107 s108 s109 s110 s111 s112 s113 s114 s115 s116 s117 s118 s119 s120 s121 s122 s123 (.agg e0.cells) bv0 (.slice (some ⟨tb, toff, none⟩) nt ct) (.int .i64 (t : Int)) (.pointer (some ⟨tb, toff + t * 3, none⟩)) (.agg #[.int .i64 f.k, .int .i64 f.a, .int .i64 f.b]) z130) X.drew := by
    refine wpAnyH_ready (rs := [6]) (by kernel_rfl) (by simp) ?_
    refine AllReadyH.cons (o := { dst := some 130, op := Op.call { callee := Callee.value (Operand.func 30), args := #[Operand.tmp 124, Operand.tmp 125, Operand.tmp 129], argTypes := #[30, 28, 62] }, type := 30, pos := "again.go:142", after := #[{ on := 0, ground := Ground.data }, { on := 1, ground := Ground.data }, { on := 5, ground := Ground.data }], guard := none }) rfl (fun K2 hK2 => ?_) AllReadyH.nil
    rw [if_pos (by rfl)]
    refine wp_call_turned HCL.out rfl rfl rfl ?_
    intro r w' hr
    obtain ⟨D, D0, B, rfl, hb, hl, hcc, hcf, hq⟩ := hR.out r w' hr
    exact ⟨_, rfl, hK2.out _ _ hcc (fun hS2 => st2 w' D D0 B hb hl hcf hq)⟩
  have st0 : wpAnyH Try.prog .any again3Ops (NoPanic Q) (fun wx => (wx.cell? ⟨tb, toff + t * 3, none⟩ = some (.int .i64 f.k) ∧ wx.cell? ⟨tb, toff + t * 3 + 1, none⟩ = some (.int .i64 f.a) ∧ wx.cell? ⟨tb, toff + t * 3 + 2, none⟩ = some (.int .i64 f.b))) 3 #[false, true, true, true, true, true, false, false] (again3Act s0 s1 s2 s3 (.slice (some ⟨tb, toff, none⟩) nt ct) s6 s7 s10 bv0 (.pointer (some ⟨g0, 0, none⟩)) s13 (.int .i64 (t : Int)) s15 s16 s17 s18 s19 s20 s21 s22 s23 s24 s25 s26 s27 s28 s29 s30 s31 s32 s33 s34 s35 s36 s37 s38 s39 s40 s41 s42 s43 s44 s45 s46 s47 s48 s49 s50 s51 s52 s53 s54 s55 s56 s57 s58 s59 s60 s61 s62 s63 s64 s65 s66 s67 s68 s69 s70 s71 s72 s73 s74 s75 s76 s77 s78 s79 s80 s81 s82 s83 s84 s85 s86 s87 s88 s89 s90 s91 s92 s93 s94 s95 s96 s97 s98 s99 s100 s101 s102 s103 s104 s105 s106 s107 s108 s109 s110 s111 s112 s113 s114 s115 s116 s117 s118 s119 s120 s121 s122 s123 z124 bv0 (.slice (some ⟨tb, toff, none⟩) nt ct) (.int .i64 (t : Int)) (.pointer (some ⟨tb, toff + t * 3, none⟩)) (.agg #[.int .i64 f.k, .int .i64 f.a, .int .i64 f.b]) z130) X.drew := by
    refine wpAnyH_ready (rs := [0]) (by kernel_rfl) (by simp) ?_
    refine AllReadyH.cons (o := { dst := some 124, op := Op.load 30 (Operand.tmp 12), type := 30, pos := "again.go:142", after := #[], guard := none }) rfl (fun K hK => ?_) AllReadyH.nil
    rw [if_pos (by rfl)]
    refine wp_load_entry HB.out rfl ?_
    exact hK.out _ _ HC.out (fun hS1 => st1)
  refine wp_region_held_drew (S := (fun wx => (wx.cell? ⟨tb, toff + t * 3, none⟩ = some (.int .i64 f.k) ∧ wx.cell? ⟨tb, toff + t * 3 + 1, none⟩ = some (.int .i64 f.a) ∧ wx.cell? ⟨tb, toff + t * 3 + 2, none⟩ = some (.int .i64 f.b)))) (by kernel_rfl) HC.out (fun hS => ?_)
  refine wpAnyH_take (i := 1) (oi := { dst := some 125, op := Op.move (Operand.tmp 11), type := 28, pos := "again.go:142", after := #[], guard := none }) (v := bv0) rfl (by kernel_rfl) (by kernel_rfl) (by kernel_rfl) (fun _ _ _ h => h) (Or.inl ⟨by rfl, fun w hw => move_any rfl⟩) hS ?_
  refine wpAnyH_take (i := 2) (oi := { dst := some 126, op := Op.move (Operand.tmp 4), type := 57, pos := "again.go:142", after := #[], guard := none }) (v := (.slice (some ⟨tb, toff, none⟩) nt ct)) rfl (by kernel_rfl) (by kernel_rfl) (by kernel_rfl) (fun _ _ _ h => h) (Or.inl ⟨by rfl, fun w hw => move_any rfl⟩) hS ?_
  refine wpAnyH_take (i := 3) (oi := { dst := some 127, op := Op.move (Operand.tmp 14), type := 3, pos := "again.go:142", after := #[], guard := none }) (v := (.int .i64 (t : Int))) rfl (by kernel_rfl) (by kernel_rfl) (by kernel_rfl) (fun _ _ _ h => h) (Or.inl ⟨by rfl, fun w hw => move_any rfl⟩) hS ?_
  refine wpAnyH_take (i := 4) (oi := { dst := some 128, op := Op.indexAddr 57 (Operand.tmp 126) (Operand.tmp 127), type := 0, pos := "again.go:142", after := #[{ on := 2, ground := Ground.data }, { on := 3, ground := Ground.data }], guard := none }) (v := (.pointer (some ⟨tb, toff + t * 3, none⟩))) rfl (by kernel_rfl) (by kernel_rfl) (by kernel_rfl) (fun _ _ _ h => h) (Or.inl ⟨by rfl, fun w hw => index_turn rfl rfl ht⟩) hS ?_
  refine wpAnyH_take (i := 5) (oi := { dst := some 129, op := Op.load 62 (Operand.tmp 128), type := 62, pos := "again.go:142", after := #[{ on := 4, ground := Ground.data }], guard := none }) (v := (.agg #[.int .i64 f.k, .int .i64 f.a, .int .i64 f.b])) rfl (by kernel_rfl) (by kernel_rfl) (by kernel_rfl) (fun _ _ _ h => h) (Or.inl ⟨by rfl, fun w hw => load_turn hw rfl⟩) hS ?_
  exact st0

end Go.Proofs.Ytnjopfdeapclhaa
