import Derived.Test.YtbheifelfeekmaaK06
namespace Go.Proofs.Ytbheifelfeekmaa
open Go.RowKit Go.MapKept Go.Sort
set_option linter.unusedVariables false
set_option linter.unusedSimpArgs false
theorem lsP_names {ps qs : List PF} (h : ps.map (·.1) = qs.map (·.1)) (pre : ByteArray) : lsP ps pre = lsP qs pre := by
  unfold lsP
  rw [h]
theorem tailsF_take (fs : List PF) (L : List (List UInt8)) {i : Nat} {x : List UInt8} {v : List Nat × Nat} (hx : L[i]? = some x) (hv : atP fs (ofL x) = some v) : tailsF fs (L.take (i + 1)) = tailsF fs (L.take i) + (if v.2 = v.1.length then 0 else 1) := by
  unfold tailsF
  rw [List.take_add_one, hx, List.filter_append, List.length_append]
  congr 1
  rw [Option.toList_some, List.filter_cons, hv]
  by_cases h : v.2 = v.1.length
  · simp [h]
  · simp [h]
structure SafeAt (d : Dk4) (cuts : List Int) (L : List (List UInt8)) (l1 l2 : List (PF × Value)) (i : Nat) (y z : PF × Value) : Prop where
  nm : z.1.1 = y.1.1
  cr : z.1.2 = crash1 cuts (tailsF d.fs (L.take i)) y.1.2
  sy : y.1.2.2 ≤ y.1.2.1.length
  nx : tailsF d.fs (L.take (i + 1)) = tailsF d.fs (L.take i) + (if y.1.2.2 = y.1.2.1.length then 0 else 1)
  ne : ∀ j u, j < i → l2[j]? = some u → u.1.1 ≠ z.1.1
  sm : y.1.2.1.length ≤ 67108864
theorem safe_at {d : Dk4} {cuts : List Int} {l1 l2 : List (PF × Value)} (ok : d.Ok) (h1 : l1.map (·.1) = filesP d) (h2 : l2.map (·.1) = filesP (crashD d cuts).2) :
    l1.length = (lsP d.fs ⟨#[]⟩).length ∧ l2.length = l1.length ∧ (crashD d cuts).1 = tailsF d.fs (lsP d.fs ⟨#[]⟩) ∧ (crashD d cuts).2.down = false ∧ l1.length ≤ 256 ∧ ∀ i y z, l1[i]? = some y → l2[i]? = some z → SafeAt d cuts (lsP d.fs ⟨#[]⟩) l1 l2 i y z := by
  obtain ⟨L, hL⟩ : ∃ L, L = lsP d.fs ⟨#[]⟩ := ⟨_, rfl⟩
  have hall : ∀ x ∈ L, ∃ v, atP d.fs (ofL x) = some v := fun x hx => lsP_at (by rw [← hL]; exact hx)
  have hlt : L.Pairwise (· < ·) := by rw [hL]; exact lsP_lt ok.nod
  have hnd : L.Nodup := hlt.imp (fun {a b} h e => by subst e; exact absurd h (List.lt_irrefl a))
  have hat := crashF_at cuts L 0 d.fs hnd hall
  have hnm := crashF_names cuts L 0 d.fs hall
  have hcd : crashD d cuts = ((crashF cuts L 0 d.fs).1, ⟨(crashF cuts L 0 d.fs).2, d.cap, 0, false, d.c⟩) := by rw [hL]; rfl
  have hL2 : lsP (crashD d cuts).2.fs ⟨#[]⟩ = L := by
    rw [hcd]
    exact (lsP_names hnm _).trans hL.symm
  have e1 : l1.map (·.1) = L.map (fileP d) := by rw [h1, hL]; rfl
  have e2 : l2.map (·.1) = L.map (fileP (crashD d cuts).2) := by
    rw [h2]
    unfold filesP
    rw [hL2]
  have n1 : l1.length = L.length := by simpa using congrArg List.length e1
  have n2 : l2.length = L.length := by simpa using congrArg List.length e2
  have hle : L.length ≤ 256 := by
    rw [hL]
    unfold lsP
    rw [List.length_mergeSort, List.length_map]
    refine Nat.le_trans (List.length_filter_le _ _) ?_
    rw [List.length_map]
    exact ok.cnt
  rw [← hL]
  refine ⟨n1, by omega, ?_, by rw [hcd], by omega, fun i y z hy hz => ?_⟩
  · rw [hcd]
    simp only
    rw [hat.1]
    omega
  · have hi : i < L.length := by have := (List.getElem?_eq_some_iff.1 hy).1; omega
    obtain ⟨x, hx⟩ : ∃ x, L[i]? = some x := ⟨_, List.getElem?_eq_getElem hi⟩
    obtain ⟨v, hv⟩ := hall x (List.mem_of_getElem? hx)
    have y1 : y.1 = (ofL x, v) := by
      have := congrArg (fun l => l[i]?) e1
      simp only [List.getElem?_map, hy, hx, Option.map_some, Option.some.injEq] at this
      rw [this, fileP, hv]
      rfl
    have hv2 := hat.2 i x v hx hv
    have z1 : z.1 = (ofL x, crash1 cuts (tailsF d.fs (L.take i)) v) := by
      have := congrArg (fun l => l[i]?) e2
      simp only [List.getElem?_map, hz, hx, Option.map_some, Option.some.injEq] at this
      rw [this, fileP, hcd]
      simp only
      rw [hv2, Nat.zero_add]
      rfl
    refine ⟨by rw [z1, y1], by rw [z1, y1], by rw [y1]; exact ok.syn _ (atP_mem hv), by rw [y1]; exact tailsF_take d.fs L hx hv, fun j u hj hu => ?_, ?_⟩
    · have hjl : j < L.length := by omega
      obtain ⟨x2, hx2⟩ : ∃ x, L[j]? = some x := ⟨_, List.getElem?_eq_getElem hjl⟩
      have u1 : u.1.1 = ofL x2 := by
        have := congrArg (fun l => l[j]?) e2
        simp only [List.getElem?_map, hu, hx2, Option.map_some, Option.some.injEq] at this
        rw [this]
        rfl
      rw [u1, z1]
      intro e
      have := ofL_inj e
      subst this
      obtain ⟨g1, g2⟩ := List.getElem?_eq_some_iff.1 hx
      obtain ⟨g3, g4⟩ := List.getElem?_eq_some_iff.1 hx2
      have := List.pairwise_iff_getElem.1 hlt j i g3 g1 hj
      rw [g2, g4] at this
      exact absurd this (List.lt_irrefl _)
    · rw [y1]
      have := totP_mem hv
      have := ok.tot
      have := ok.cap1
      simp only
      omega
end Go.Proofs.Ytbheifelfeekmaa

namespace Go.Proofs.Ytbheifelfeekmaa
open Go.RowKit Go.MapKept Go.Sort
set_option linter.unusedVariables false
set_option linter.unusedSimpArgs false
variable {w w' W X : World} {O O' : Nat → Prop} {dB : Nat} {d : Dk4}
structure DidD where
  kind : Int
  file : Int
  too : Int
  a : Option Addr
  n : Nat
  k : Nat
  bs : List Nat
def DidD.act (d : Dk4) (x : DidD) : Int × Dk4 := actD d x.kind x.file x.too x.bs
structure RdDid (w : World) (a : Option Addr) (k : Nat) (xs : List DidD) : Prop where
  cap : xs.length ≤ k ∧ k ≤ maxLen
  cel : ∀ i x, xs[i]? = some x → ∃ g off, a = some ⟨g, off, none⟩ ∧ w.cell? ⟨g, off + i * 4, none⟩ = some (.int .i64 x.kind) ∧ w.cell? ⟨g, off + i * 4 + 1, none⟩ = some (.int .i64 x.file) ∧ w.cell? ⟨g, off + i * 4 + 2, none⟩ = some (.int .i64 x.too) ∧ w.cell? ⟨g, off + i * 4 + 3, none⟩ = some (.slice x.a x.n x.k)
  dat : ∀ x ∈ xs, RdA w (fun i => w.heap.size ≤ i) (.slice x.a x.n x.k) x.bs
theorem RdA.mad {v : Value} {bs : List Nat} (h : RdA w (fun i => w.heap.size ≤ i) v bs) (m : Mad w X O dB d) : RdA X O v bs := ⟨h.1.later m.bel, fun b off n c e n0 z => h.2 b off n c e n0 (m.own b z)⟩
theorem RdI4.mad {a : Option Addr} {k : Nat} {js : List Int} (h : RdI4 w (fun i => w.heap.size ≤ i) a k js) (m : Mad w X O dB d) : RdI4 X O a k js := by
  refine ⟨h.cap, fun i j hj => ?_⟩
  obtain ⟨b, off, e, hn, hc⟩ := h.cel i j hj
  exact ⟨b, off, e, fun z => hn (m.own b z), (m.bel.cell (p := ⟨b, off + i, none⟩) (World.block_lt_of_cell? _ _ hc)).trans hc⟩
theorem RdA.of_rd {v : Value} {bs : List Nat} (h : Rd w v bs) : RdA w (fun i => w.heap.size ≤ i) v bs := by
  refine ⟨h, fun b off n c hv n0 z => ?_⟩
  obtain ⟨_, a, cap, h2, _, _, _, _, h7⟩ := h
  rw [hv] at h2
  simp only [Value.slice.injEq] at h2
  obtain ⟨ha, hn, _⟩ := h2
  rcases h7 with rfl | ⟨b2, off2, h8, hc⟩
  · exact n0 hn
  · rw [h8] at ha
    simp only [Option.some.injEq, Addr.mk.injEq] at ha
    have hl := World.block_lt_of_cell? _ _ (hc 0 (by omega))
    simp only at hl
    omega
end Go.Proofs.Ytbheifelfeekmaa
