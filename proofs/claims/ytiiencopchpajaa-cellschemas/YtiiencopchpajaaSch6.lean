import Derived.Test.YtiiencopchpajaaSch5
import Derived.Deep.RegionHeld3
namespace Go.Proofs.Ytiiencopchpajaa
open Go.RowKit
set_option linter.unusedVariables false

/-- The box holds, and all that was is as it was. -/
def Hd (X : World) (b : Nat) (v : Value) (wx : World) : Prop := wx.cell? ⟨b, 0, none⟩ = some v ∧ Below X.heap.size X wx
theorem Hd.alloc {X wx : World} {b : Nat} {v : Value} {o : Obj} (h : wx.cell? ⟨b, 0, none⟩ = some v ∧ Below X.heap.size X wx) (hx : X.cell? ⟨b, 0, none⟩ = some v) : (wx.alloc o).cell? ⟨b, 0, none⟩ = some v ∧ Below X.heap.size X (wx.alloc o) := by
  have := h.2.alloc h.2.size o
  exact ⟨(this.cell (p := ⟨b, 0, none⟩) (World.block_lt_of_cell? _ _ hx)).trans hx, this⟩
theorem Hd.drew {X wx : World} {b : Nat} {v : Value} (h : wx.cell? ⟨b, 0, none⟩ = some v ∧ Below X.heap.size X wx) : wx.drew.cell? ⟨b, 0, none⟩ = some v ∧ Below X.heap.size X wx.drew := ⟨h.1, h.2.drew⟩
theorem Hd.call {X wx w' : World} {b : Nat} {v : Value} (h : wx.cell? ⟨b, 0, none⟩ = some v ∧ Below X.heap.size X wx) (hx : X.cell? ⟨b, 0, none⟩ = some v) (k : Below wx.heap.size wx w') : w'.cell? ⟨b, 0, none⟩ = some v ∧ Below X.heap.size X w' := by
  have := h.2.trans (k.mono h.2.size)
  exact ⟨(this.cell (p := ⟨b, 0, none⟩) (World.block_lt_of_cell? _ _ hx)).trans hx, this⟩
theorem Hd.set {X wx : World} {b g i : Nat} {v y : Value} (h : wx.cell? ⟨b, 0, none⟩ = some v ∧ Below X.heap.size X wx) (hx : X.cell? ⟨b, 0, none⟩ = some v) (hg : X.heap.size ≤ g) : (wx.setCell ⟨g, i, none⟩ y).cell? ⟨b, 0, none⟩ = some v ∧ Below X.heap.size X (wx.setCell ⟨g, i, none⟩ y) := by
  have := h.2.trans ((apart_set wx g i y).below hg h.2.size)
  exact ⟨(this.cell (p := ⟨b, 0, none⟩) (World.block_lt_of_cell? _ _ hx)).trans hx, this⟩

theorem Hd.rd {X wx : World} {b : Nat} {v u : Value} {fs : List FamD} (h : wx.cell? ⟨b, 0, none⟩ = some v ∧ Below X.heap.size X wx) (hr : RdF X u fs) : RdF wx u fs := hr.later h.2
theorem Below.alloc' {w v : World} {o : Obj} (h : Below w.heap.size w v) : Below w.heap.size w (v.alloc o) := h.alloc h.size o
theorem Below.step {w v v' : World} (k : Below v.heap.size v v') (h : Below w.heap.size w v) : Below w.heap.size w v' := h.trans (k.mono h.size)
theorem LaidF.apart {w w' : World} {u : Value} {fs : List FamD} {g : Nat} (h : LaidF w u fs) (k : Apart g w w') (hg : u.ownBlock ≠ some g) : LaidF w' u fs := by
  obtain ⟨q, c, rfl, h2, h3, hc⟩ := h
  have hq : q ≠ g := fun e => hg (by rw [e]; rfl)
  refine ⟨q, c, rfl, h2, h3, fun i f hf => ?_⟩
  obtain ⟨c0, c1, c2⟩ := hc i f hf
  exact ⟨k.cell c0 hq, k.cell c1 hq, k.cell c2 hq⟩
theorem LaidF.form {w : World} {u : Value} {fs : List FamD} (h : LaidF w u fs) : ∃ g m c, u = .slice (some ⟨g, 0, none⟩) m c := by
  obtain ⟨q, c, rfl, _⟩ := h
  exact ⟨_, _, _, rfl⟩
theorem LaidF.al {w : World} {u : Value} {fs : List FamD} {o : Obj} (h : LaidF w u fs) : LaidF (w.alloc o) u fs := h.later ((Below.refl _ _).alloc (Nat.le_refl _) o)
theorem undrew {W w' : World} (h : Below W.drew.heap.size W.drew w') : Below W.heap.size W w' := Below.step h ((Below.refl _ _).drew)
theorem under1 {W w' : World} {o : Obj} (h : Below (W.alloc o).heap.size (W.alloc o) w') : Below W.heap.size W w' := Below.step h ((Below.refl _ _).alloc (Nat.le_refl _) o)
/-- A variable's cell. -/
def Var (w : World) (q : Nat) (v : Value) (t : Nat) : Prop := w.heap[q]? = some (.cells #[v] t)
theorem Var.cf {w : World} {q : Nat} {v : Value} {t : Nat} (h : Var w q v t) : (w.cell? ⟨q, 0, none⟩ = some v ∧ w.frozen? ⟨q, 0, none⟩ = false) ∧ (q < w.heap.size ∧ q < w.heap.size + 1) ∧ q ≠ w.heap.size ∧ w.heap.size ≠ q := by
  unfold Var at h
  have := (Array.getElem?_eq_some_iff.1 h).1
  exact ⟨⟨by simp [World.cell?, h], by simp [World.frozen?, h]⟩, ⟨by omega, by omega⟩, by omega, by omega⟩
theorem Var.later {w w' : World} {q : Nat} {v : Value} {t : Nat} (h : Var w q v t) (hb : Below w.heap.size w w') : Var w' q v t := by
  unfold Var at h ⊢
  rw [hb.block q (Array.getElem?_eq_some_iff.1 h).1]
  exact h
theorem Var.new (w : World) (v : Value) (t : Nat) : Var (w.alloc (.cells #[v] t)) w.heap.size v t := heap_new w _
theorem Var.al {w : World} {q : Nat} {v : Value} {t : Nat} {o : Obj} (h : Var w q v t) : Var (w.alloc o) q v t := h.later ((Below.refl _ _).alloc (Nat.le_refl _) o)
theorem Var.new2 (w : World) (o : Obj) (v : Value) (t : Nat) : Var ((w.alloc o).alloc (.cells #[v] t)) (w.heap.size + 1) v t := by
  have := Var.new (w.alloc o) v t
  have e : (w.alloc o).heap.size = w.heap.size + 1 := by simp
  rwa [e] at this
theorem Var.set {w : World} {q : Nat} {v y : Value} {t : Nat} (h : Var w q v t) : Var (w.setCell ⟨q, 0, none⟩ y) q y t := by
  unfold Var at h ⊢
  simp [World.setCell, Array.getElem?_modify, h]
theorem Var.apart {w : World} {q g : Nat} {v y : Value} {t : Nat} (h : Var w q v t) (hq : q ≠ g) : Var (w.setCell ⟨g, 0, none⟩ y) q v t := by
  unfold Var at h ⊢
  rw [(apart_set w g 0 y).block q (Array.getElem?_eq_some_iff.1 h).1 hq]
  exact h
theorem Var.set2 {w : World} {q g : Nat} {v y z : Value} {t : Nat} (h : Var w q v t) (hq : q ≠ g) : Var ((w.setCell ⟨g, 0, none⟩ y).setCell ⟨q, 0, none⟩ z) q z t := (h.apart hq).set
theorem kept1 {W w' : World} {v : Value} {t : Nat} (h : Below (W.alloc (.cells #[v] t)).heap.size (W.alloc (.cells #[v] t)) w') : Var w' W.heap.size v t := (Var.new W v t).later h
theorem kept2 {W w' : World} {v v2 : Value} {t t2 : Nat} (h : Below ((W.alloc (.cells #[v] t)).alloc (.cells #[v2] t2)).heap.size ((W.alloc (.cells #[v] t)).alloc (.cells #[v2] t2)) w') : Var w' W.heap.size v t ∧ Var w' (W.heap.size + 1) v2 t2 := by
  refine ⟨kept1 (under1 h), ?_⟩
  have := kept1 h
  have e : (W.alloc (.cells #[v] t)).heap.size = W.heap.size + 1 := by simp
  rwa [e] at this

theorem LaidF.drew {w : World} {u : Value} {fs : List FamD} (h : LaidF w u fs) : LaidF w.drew u fs := h.later ((Below.refl _ _).drew)
theorem Var.new_set {w : World} {g : Nat} {y v : Value} {t : Nat} : Var ((w.setCell ⟨g, 0, none⟩ y).alloc (.cells #[v] t)) w.heap.size v t := by
  have := Var.new (w.setCell ⟨g, 0, none⟩ y) v t
  have e : (w.setCell ⟨g, 0, none⟩ y).heap.size = w.heap.size := by simp [World.setCell]
  rwa [e] at this
set_option maxRecDepth 100000 in
set_option maxHeartbeats 8000000 in
theorem schemas_1 {a : Option Addr} {n cap b : Nat} {fs : List FamD} {X : World} (hr : RdF X (.slice a n cap) fs) (ha : a = none → cap = 0) (hx : X.cell? ⟨b, 0, none⟩ = some (.slice a n cap)) (s : Value) (Q : Exit → Act → World → Prop)
    (hQ : Hid (∀ b5 b6 u5 u6 wF, X.heap.size ≤ b5 → X.heap.size ≤ b6 → b5 ≠ b6 → wF.cell? ⟨b5, 0, none⟩ = some u5 → wF.cell? ⟨b6, 0, none⟩ = some u6 → LaidF wF u5 (fs.take 20) → LaidF wF u6 (fs.take 20) → Below X.heap.size X wF →
      Q .normal ⟨#[.agg #[.slice a n cap], s, .pointer (some ⟨b, 0, none⟩), undef, .bool false, .pointer (some ⟨b5, 0, none⟩), .pointer (some ⟨b6, 0, none⟩), undef, undef, undef, .agg #[.slice a n cap], .agg #[u5], .agg #[.slice a n cap], .agg #[u6], undef, undef, undef, undef, undef, undef, undef, undef, undef, undef, undef, undef, undef, undef, undef, undef, undef, undef, undef, undef, undef, undef, undef, undef, undef, undef, undef, undef, undef, undef, undef, undef, undef, undef, undef, undef, undef, undef, undef, undef, undef, undef, undef, undef, undef, undef, undef, undef, undef, undef, undef, undef, undef, undef, undef, undef, undef, undef, undef, undef, undef, undef, undef, undef, undef, undef, undef, undef, undef, undef, undef, undef, undef, undef, undef, undef, undef, undef, undef, undef, undef, undef, undef, undef, undef], []⟩ wF)) :
    Code.wp Try.prog (Code.region 1 
#[{ dst := some 10, op := Op.load 24 (Operand.tmp 2), type := 24, pos := "law.go:301", after := #[],
                  guard := none },
                { dst := some 11,
                  op :=
                    Op.call { callee := Callee.value (Operand.func 11), args := #[Operand.tmp 10], argTypes := #[24] },
                  type := 24, pos := "law.go:301", after := #[{ on := 0, ground := Ground.data }], guard := none },
                { dst := some 12, op := Op.load 24 (Operand.tmp 2), type := 24, pos := "law.go:301", after := #[],
                  guard := none },
                { dst := some 13,
                  op :=
                    Op.call { callee := Callee.value (Operand.func 11), args := #[Operand.tmp 12], argTypes := #[24] },
                  type := 24, pos := "law.go:301",
                  after := #[{ on := 2, ground := Ground.data }, { on := 1, ground := Ground.chain }], guard := none },
                { dst := some 5, op := Op.alloc 24, type := 0, pos := "law.go:301", after := #[], guard := none },
                { dst := some 6, op := Op.alloc 24, type := 0, pos := "law.go:301", after := #[], guard := none },
                { dst := none, op := Op.store 24 (Operand.tmp 5) (Operand.tmp 11), type := 0, pos := "law.go:301",
                  after :=
                    #[{ on := 4, ground := Ground.data }, { on := 1, ground := Ground.data },
                      { on := 3, ground := Ground.chain }, { on := 0, ground := Ground.phase },
                      { on := 1, ground := Ground.phase }, { on := 2, ground := Ground.textOnly Departure.lateStores },
                      { on := 3, ground := Ground.textOnly Departure.lateStoresUnsure },
                      { on := 4, ground := Ground.phase }, { on := 5, ground := Ground.phase }],
                  guard := none },
                { dst := none, op := Op.store 24 (Operand.tmp 6) (Operand.tmp 13), type := 0, pos := "law.go:301",
                  after :=
                    #[{ on := 5, ground := Ground.data }, { on := 3, ground := Ground.data },
                      { on := 6, ground := Ground.chain }, { on := 0, ground := Ground.phase },
                      { on := 1, ground := Ground.phase }, { on := 2, ground := Ground.phase },
                      { on := 3, ground := Ground.phase }, { on := 4, ground := Ground.phase },
                      { on := 5, ground := Ground.phase }, { on := 6, ground := Ground.phase }],
                  guard := none }]
    true) Q ⟨#[.agg #[.slice a n cap], s, .pointer (some ⟨b, 0, none⟩), undef, .bool false, undef, undef, undef, undef, undef, undef, undef, undef, undef, undef, undef, undef, undef, undef, undef, undef, undef, undef, undef, undef, undef, undef, undef, undef, undef, undef, undef, undef, undef, undef, undef, undef, undef, undef, undef, undef, undef, undef, undef, undef, undef, undef, undef, undef, undef, undef, undef, undef, undef, undef, undef, undef, undef, undef, undef, undef, undef, undef, undef, undef, undef, undef, undef, undef, undef, undef, undef, undef, undef, undef, undef, undef, undef, undef, undef, undef, undef, undef, undef, undef, undef, undef, undef, undef, undef, undef, undef, undef, undef, undef, undef, undef, undef, undef], []⟩ X := by
  have HD := (Below.refl X.heap.size X).drew
  have xD : X.drew.cell? ⟨b, 0, none⟩ = some (.slice a n cap) := hx
  have HX := Lib.hid hx
  have HR := Lib.hid hr
  clear hx hr
  go_region_held3 (fun wx => wx.cell? ⟨b, 0, none⟩ = some (.slice a n cap) ∧ Below X.heap.size X wx) (first | exact ⟨xD, HD⟩ | assumption | ((repeat' first | assumption | exact ⟨HX.out, Below.refl _ _⟩ | refine Hd.drew ?_ | refine Hd.alloc ?_ HX.out | refine Hd.set ?_ HX.out ?_ | omega); done)) (first
   | (go_at_call 11; have _h0 := hl1; refine (schema_go (Hd.rd (by assumption) HR.out) ha).mono ?_; rintro e w2 ⟨u2, rfl, hl2, hu2, hb2⟩; obtain ⟨g2, m2, c2, rfl⟩ := hl2.form; have hh2 := Hd.call (by assumption) HX.out hb2; have h12 : Below w1.heap.size w1 w2 := (by first | exact hb2 | exact under1 hb2 | exact under1 (under1 hb2)); have hz2 := Lib.hid hb2.size; have hzz2 : w1.heap.size ≤ w2.heap.size := h12.size; (first | (have hv2 := kept2 hb2; have hy3 := hv2.1; have hy4 := hv2.2; obtain ⟨⟨hc21a, hc21b⟩, ⟨hc21c, hc21d⟩, hc21e, hc21f⟩ := hv2.1.cf; obtain ⟨⟨hc22a, hc22b⟩, ⟨hc22c, hc22d⟩, hc22e, hc22f⟩ := hv2.2.cf) | (have hv2 := kept1 hb2; obtain ⟨⟨hc21a, hc21b⟩, ⟨hc21c, hc21d⟩, hc21e, hc21f⟩ := hv2.cf) | skip); (try (first | (have hy1 := hv1.1.later h12; have hy2 := hv1.2.later h12; obtain ⟨⟨hd11a, hd11b⟩, ⟨hd11c, hd11d⟩, hd11e, hd11f⟩ := (hv1.1.later h12).cf; obtain ⟨⟨hd12a, hd12b⟩, ⟨hd12c, hd12d⟩, hd12e, hd12f⟩ := (hv1.2.later h12).cf) | (have hy1 := hv1.later h12; obtain ⟨⟨hd11a, hd11b⟩, ⟨hd11c, hd11d⟩, hd11e, hd11f⟩ := (hv1.later h12).cf))))
   | (go_at_call 11; refine (schema_go (Hd.rd (by assumption) HR.out) ha).mono ?_; rintro e w1 ⟨u1, rfl, hl1, hu1, hb1⟩; obtain ⟨g1, m1, c1, rfl⟩ := hl1.form; have hh1 := Hd.call (by assumption) HX.out hb1; have hq1 := undrew hb1; have hX1 : Below X.heap.size X w1 := hh1.2; have hz1 := Lib.hid hb1.size; have hzz1 : X.heap.size ≤ w1.heap.size := hX1.size; (first | (have hv1 : Var w1 X.heap.size _ _ ∧ Var w1 (X.heap.size + 1) _ _ := kept2 hq1; obtain ⟨⟨hc11a, hc11b⟩, ⟨hc11c, hc11d⟩, hc11e, hc11f⟩ := hv1.1.cf; obtain ⟨⟨hc12a, hc12b⟩, ⟨hc12c, hc12d⟩, hc12e, hc12f⟩ := hv1.2.cf; skip) | (have hv1 : Var w1 X.heap.size _ _ := kept1 hq1; obtain ⟨⟨hc11a, hc11b⟩, ⟨hc11c, hc11d⟩, hc11e, hc11f⟩ := hv1.cf; skip) | skip)))
  all_goals (rename_i hS; have hSS := hS.2; clear hS; refine NoPanic.normal (hQ.out _ _ _ _ _ ?_ ?_ ?_ ?_ ?_ ?_ ?_ hSS))
  all_goals first
   | omega
   | ((repeat' first
        | assumption
        | refine LaidF.al ?_
        | refine LaidF.apart ?_ (apart_set _ _ _ _) ?_
        | refine LaidF.later ?_ (by assumption)
        | (intro hE; first | (have hF := hu1 _ hE; first | omega | (simp at hF; done) | (simp at hF; omega)) | (have hF := hu2 _ hE; first | omega | (simp at hF; done) | (simp at hF; omega)))); done)
   | (refine (Var.cf (t := 24) ?_).1.1; (repeat' first
        | assumption
        | exact Var.new _ _ _
        | exact Var.new2 _ _ _ _
        | exact Var.new_set
        | refine Var.al ?_
        | exact Var.set (by assumption)
        | exact Var.set2 (by assumption) (by omega)
        | refine Var.apart ?_ ?_
        | omega); done)
end Go.Proofs.Ytiiencopchpajaa
