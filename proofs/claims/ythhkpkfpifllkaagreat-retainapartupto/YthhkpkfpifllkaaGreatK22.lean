import Derived.Test.YthhkpkfpifllkaaGreatK21
namespace Go.Proofs.YthhkpkfpifllkaaGreat
open Go.RowKit
set_option linter.unusedVariables false

def Phi (fs : List FamD) (clock : Int) (l : List En) : Sp × List Vd := l.foldl (pN fs clock) (Sp.zero, [])
theorem Phi_snoc (fs : List FamD) (clock : Int) (l : List En) (d : En) : Phi fs clock (l ++ [d]) = pN fs clock (Phi fs clock l) d := by simp [Phi, List.foldl_append]
def endV (fs : List FamD) (clock : Int) (ins : List En) : List Vd := (Phi fs clock ins).2 ++ (resolveS (mt fs) clock (Phi fs clock ins).1 3).1
def outD (OO : List Vd → List En) (fs : List FamD) (clock : Int) (ins : List En) (t : Nat) : List En := if t ≤ ins.length then OO (Phi fs clock (ins.take t)).2 else OO (endV fs clock ins)
structure Lane (w : World) (N : Nat) (OO : List Vd → List En) (g : Nat) (fs : List FamD) (clock : Int) (ins : List En) (pt : Option Addr) (ts tq : Nat) (vo : Value) (J : Nat → Prop) : Prop where
  ex : ∃ (I Z : Nat → Prop) (os : List EntD), (∀ k, I k → J k) ∧ (∀ k, Z k → J k) ∧ (∀ k, I k → ¬ Z k) ∧ Rw w N vo os Z ∧ (∀ x ∈ os, SmE x.dat) ∧ os.map EntD.dat = (if pt = none then [] else outD OO fs clock ins tq) ∧ os.length ≤ 1048576 ∧ ((pt = none ∧ ∀ k, ¬ I k) ∨ ∃ rb, pt = some ⟨rb, 0, none⟩ ∧ (ts ≤ ins.length → SmR OO g N rb fs clock w (Phi fs clock (ins.take ts)) (ins.take ts) I))
  lt : ∀ k, J k → N ≤ k ∧ k < w.heap.size
section
variable {w w' w1 w2 : World} {N g : Nat} {OO : List Vd → List En} {fs : List FamD} {clock : Int} {ins : List En} {pt : Option Addr} {ts tq : Nat} {vo : Value} {J : Nat → Prop}
theorem Lane.keep (h : Lane w N OO g fs clock ins pt ts tq vo J) (hs : w.heap.size ≤ w'.heap.size) (k : ∀ i, J i → w'.heap[i]? = w.heap[i]?) : Lane w' N OO g fs clock ins pt ts tq vo J := by
  obtain ⟨I, Z, os, hIJ, hZJ, hIZ, rw0, smo, dat, hlen, st⟩ := h.ex
  refine ⟨⟨I, Z, os, hIJ, hZJ, hIZ, rw0.keep (fun i hi => k i (hZJ i hi)), smo, dat, hlen, ?_⟩, fun i hi => ⟨(h.lt i hi).1, Nat.lt_of_lt_of_le (h.lt i hi).2 hs⟩⟩
  rcases st with z | ⟨rb, z, st⟩
  · exact .inl z
  · exact .inr ⟨rb, z, fun ht => (st ht).keep hs (fun i hi => k i (hIJ i hi))⟩
theorem Lane.form (h : Lane w N OO g fs clock ins pt ts tq vo J) : ∃ a n c os, vo = .slice a n c ∧ n = os.length ∧ RdL3 w a c os ∧ os.map EntD.dat = (if pt = none then [] else outD OO fs clock ins tq) ∧ os.length ≤ 1048576 := by
  obtain ⟨I, Z, os, hIJ, hZJ, hIZ, rw0, smo, dat, hlen, st⟩ := h.ex
  obtain ⟨a, c, e⟩ := rows_form3 rw0.row
  rw [e] at rw0
  exact ⟨a, _, c, os, e, rfl, rw0.rdlS smo, dat, hlen⟩
theorem Rw.app {v u : Value} {os zs : List EntD} {vz : Value} {Z : Nat → Prop} (h : Rw w N v os Z) (hZ : ∀ k, Z k → k < w.heap.size) (cl : Cl w w1 zs vz) (hN : N ≤ w.heap.size) (r : w2.ownsRow N 84 7 u (os ++ zs).length (evals (os ++ zs))) (gr : w1.grownBy w2 v.ownBlock) (lo : ∀ k, u.ownBlock = some k → v.ownBlock = some k ∨ k = w1.heap.size) : Rw w2 N u (os ++ zs) (fun k => Z k ∨ (w.heap.size ≤ k ∧ k < w2.heap.size)) := by
  have s1 := cl.below.size
  have s2 := gr.size
  have tv : ∀ k, v.ownBlock = some k → Tyd w k 84 := fun k hk => row_tyd h.row hk
  have ko : ∀ x, Tyd w x 5 → w2.heap[x]? = w.heap[x]? := fun x hx => (gr.block x (Nat.lt_of_lt_of_le hx.lt s1) (fun z => (tv x z.symm).ne hx (by decide) rfl)).trans (cl.below.block x hx.lt)
  have kn : ∀ x, w.heap.size ≤ x → x < w1.heap.size → w2.heap[x]? = w1.heap[x]? := fun x h1 h2 => gr.block x h2 (fun z => by have := (tv x z.symm).lt; omega)
  refine ⟨r, fun x hx => ?_, ?_, fun k hk => ?_, fun x hx k hk => ?_⟩
  · rcases List.mem_append.1 hx with z | z
    · have o := h.ents x z
      exact o.keepO (fun g hg => ko g (by
        rcases hg with y | y | y
        · exact row_tyd o.row.2 y
        · exact row_tyd o.qual.2 y
        · exact row_tyd o.val.2 y))
    · have o := cl.ents x z
      exact (o.keepO (fun g hg => kn g (o.lt g hg).1 (o.lt g hg).2)).low hN
  · refine List.pairwise_append.2 ⟨h.ap, cl.ap, fun x hx y hy k hk hk2 => ?_⟩
    have q1 := hZ k (h.entO x hx k hk)
    have q2 := ((cl.ents y hy).lt k hk2).1
    omega
  · rcases lo k hk with z | z
    · exact .inl (h.rowO k z)
    · exact .inr ⟨by omega, (r.lt k hk).2⟩
  · rcases List.mem_append.1 hx with z | z
    · exact .inl (h.entO x z k hk)
    · have q := (cl.ents x z).lt k hk
      exact .inr ⟨q.1, by omega⟩

theorem lanePushF {wa : List En → List En} {t M rb : Nat} {e : EntD} (Kk : Kd (mt fs) clock fs.length OO wa) (hfs : ∀ f ∈ fs, 0 ≤ f.tl ∧ f.tl ≤ 1099511627776) (h : Lane w N OO 70 fs clock ins (some ⟨rb, 0, none⟩) t t vo J) (ht : t < ins.length) (hin : ins.length ≤ 1048576) (hne : ins.Pairwise fun a b => a.seq ≠ b.seq) (he : O3 w M e) (hd : ins[t]? = some e.dat) (hJ : ∀ i, EBl e i → ¬ J i) (sm : SmE e.dat) :
    Calls Tryz.prog 34 #[.pointer (some ⟨rb, 0, none⟩), .agg e.cells] w fun r w' => ∃ xs a c E J' Or, r = .returned (.tuple #[.slice a xs.length c, .int .i64 E]) ∧ Lane w' N OO 70 fs clock ins (some ⟨rb, 0, none⟩) (t + 1) t vo J' ∧ StO N w w' J J' (.slice a xs.length c) xs Or ∧ outD OO fs clock ins t ++ xs.map EntD.dat = outD OO fs clock ins (t + 1) ∧ (outD OO fs clock ins (t + 1)).length ≤ 1048576 := by
  obtain ⟨I, Z, os, hIJ, hZJ, hIZ, rw0, smo, dat, hlen, st⟩ := h.ex
  rcases st with ⟨z, _⟩ | ⟨rb', z, st⟩
  · cases z
  cases z
  have tk : ins.take (t + 1) = ins.take t ++ [e.dat] := by rw [List.take_add_one, hd]; rfl
  have ph : Phi fs clock (ins.take (t + 1)) = pN fs clock (Phi fs clock (ins.take t)) e.dat := by rw [tk, Phi_snoc]
  have o0 : outD OO fs clock ins t = OO (Phi fs clock (ins.take t)).2 := by unfold outD; rw [if_pos (by omega)]
  have o1 : outD OO fs clock ins (t + 1) = OO (pN fs clock (Phi fs clock (ins.take t)) e.dat).2 := by unfold outD; rw [if_pos (by omega), ph]
  refine Calls.mono (smPushF Kk hfs (st (by omega)) he sm (fun i hi z => hJ i hi (hIJ i z)) (fun d hd' => ?_) (by rw [List.length_take]; omega)) ?_
  · obtain ⟨j, hj⟩ := List.getElem?_of_mem hd'
    have hj2 := idx_lt hj
    rw [List.length_take] at hj2
    rw [List.getElem?_take_of_lt (by omega)] at hj
    obtain ⟨h1, e1⟩ := List.getElem?_eq_some_iff.1 hj
    obtain ⟨h2, e2⟩ := List.getElem?_eq_some_iff.1 hd
    have := List.pairwise_iff_getElem.1 hne j t h1 h2 (by omega)
    rw [e1, e2] at this
    exact this
  · rintro r w' ⟨xs, a, c, E, I', Or, rfl, sm', so, hx, hl⟩
    have sz := so.sp.size
    have hZlt : ∀ k, Z k → k < w.heap.size := fun k hk => (h.lt k (hZJ k hk)).2
    refine ⟨xs, a, c, E, fun k => I' k ∨ Z k, Or, rfl, ⟨⟨I', Z, os, fun k hk => .inl hk, fun k hk => .inr hk, fun k hk z => ?_, rw0.keep (fun k hk => so.sp.block k (hZlt k hk) (fun z => hIZ k z hk)), smo, dat, hlen, .inr ⟨rb, rfl, fun _ => by rw [ph, tk]; exact sm'⟩⟩, fun k hk => ?_⟩, ⟨so.rw_, so.new, fun i hi z => ?_, fun i hi => ?_, so.sp.mono (fun k _ hk => hIJ k hk), so.sm, so.len⟩, by rw [o0, o1]; exact hx, by rw [o1]; exact hl⟩
    · rcases so.its k hk with y | y
      · exact hIZ k y z
      · have := hZlt k z; omega
    · rcases hk with z | z
      · exact sm'.lt k z
      · exact ⟨(h.lt k (hZJ k z)).1, Nat.lt_of_lt_of_le (hZlt k z) sz⟩
    · rcases z with z | z
      · exact so.ap i hi z
      · have := hZlt i z; have := (so.new i hi).1; omega
    · rcases hi with z | z
      · rcases so.its i z with y | y
        · exact .inl (hIJ i y)
        · exact .inr y
      · exact .inl (hZJ i z)
theorem laneEndF {wa : List En → List En} {rb : Nat} (Kk : Kd (mt fs) clock fs.length OO wa) (hfs : ∀ f ∈ fs, 0 ≤ f.tl ∧ f.tl ≤ 1099511627776) (h : Lane w N OO 70 fs clock ins (some ⟨rb, 0, none⟩) ins.length ins.length vo J) (hin : ins.length ≤ 1048576) :
    Calls Tryz.prog 33 #[.pointer (some ⟨rb, 0, none⟩)] w fun r w' => ∃ xs a c J' Or, r = .returned (.slice a xs.length c) ∧ Lane w' N OO 70 fs clock ins (some ⟨rb, 0, none⟩) (ins.length + 1) ins.length vo J' ∧ StO N w w' J J' (.slice a xs.length c) xs Or ∧ outD OO fs clock ins ins.length ++ xs.map EntD.dat = outD OO fs clock ins (ins.length + 1) ∧ (outD OO fs clock ins (ins.length + 1)).length ≤ 1048576 := by
  obtain ⟨I, Z, os, hIJ, hZJ, hIZ, rw0, smo, dat, hlen, st⟩ := h.ex
  rcases st with ⟨z, _⟩ | ⟨rb', z, st⟩
  · cases z
  cases z
  have st' := st (Nat.le_refl _)
  rw [List.take_length] at st'
  have o0 : outD OO fs clock ins ins.length = OO (Phi fs clock ins).2 := by unfold outD; rw [if_pos (Nat.le_refl _), List.take_length]
  have o1 : outD OO fs clock ins (ins.length + 1) = OO ((Phi fs clock ins).2 ++ (resolveS (mt fs) clock (Phi fs clock ins).1 3).1) := by unfold outD endV; rw [if_neg (by omega)]
  refine Calls.mono (smEndF Kk hfs st' hin) ?_
  rintro r w' ⟨xs, a, c, I', Or, rfl, so, hx, hl⟩
  have sz := so.sp.size
  have hZlt : ∀ k, Z k → k < w.heap.size := fun k hk => (h.lt k (hZJ k hk)).2
  refine ⟨xs, a, c, Z, Or, rfl, ⟨⟨fun _ => False, Z, os, fun k hk => hk.elim, fun k hk => hk, fun k hk => hk.elim, rw0.keep (fun k hk => so.sp.block k (hZlt k hk) (fun z => hIZ k z hk)), smo, dat, hlen, .inr ⟨rb, rfl, fun z => by omega⟩⟩, fun k hk => ⟨(h.lt k (hZJ k hk)).1, Nat.lt_of_lt_of_le (hZlt k hk) sz⟩⟩, ⟨so.rw_, so.new, fun i hi z => ?_, fun i hi => .inl (hZJ i hi), so.sp.mono (fun k _ hk => hIJ k hk), so.sm, so.len⟩, by rw [o0, o1]; exact hx, by rw [o1]; exact hl⟩
  have := hZlt i z
  have := (so.new i hi).1
  omega
theorem lanePushR {wa : List En → List En} {t M rb : Nat} {e : EntD} (Kk : Kd (mt fs) clock fs.length OO wa) (hfs : ∀ f ∈ fs, 0 ≤ f.tl ∧ f.tl ≤ 1099511627776) (h : Lane w N OO 71 fs clock ins (some ⟨rb, 0, none⟩) t t vo J) (ht : t < ins.length) (hin : ins.length ≤ 1048576) (hne : ins.Pairwise fun a b => a.seq ≠ b.seq) (he : O3 w M e) (hd : ins[t]? = some e.dat) (hJ : ∀ i, EBl e i → ¬ J i) (sm : SmE e.dat) :
    Calls Tryz.prog 37 #[.pointer (some ⟨rb, 0, none⟩), .agg e.cells] w fun r w' => ∃ xs a c E J' Or, r = .returned (.tuple #[.slice a xs.length c, .int .i64 E]) ∧ Lane w' N OO 71 fs clock ins (some ⟨rb, 0, none⟩) (t + 1) t vo J' ∧ StO N w w' J J' (.slice a xs.length c) xs Or ∧ outD OO fs clock ins t ++ xs.map EntD.dat = outD OO fs clock ins (t + 1) ∧ (outD OO fs clock ins (t + 1)).length ≤ 1048576 := by
  obtain ⟨I, Z, os, hIJ, hZJ, hIZ, rw0, smo, dat, hlen, st⟩ := h.ex
  rcases st with ⟨z, _⟩ | ⟨rb', z, st⟩
  · cases z
  cases z
  have tk : ins.take (t + 1) = ins.take t ++ [e.dat] := by rw [List.take_add_one, hd]; rfl
  have ph : Phi fs clock (ins.take (t + 1)) = pN fs clock (Phi fs clock (ins.take t)) e.dat := by rw [tk, Phi_snoc]
  have o0 : outD OO fs clock ins t = OO (Phi fs clock (ins.take t)).2 := by unfold outD; rw [if_pos (by omega)]
  have o1 : outD OO fs clock ins (t + 1) = OO (pN fs clock (Phi fs clock (ins.take t)) e.dat).2 := by unfold outD; rw [if_pos (by omega), ph]
  refine Calls.mono (smPushR Kk hfs (st (by omega)) he sm (fun i hi z => hJ i hi (hIJ i z)) (fun d hd' => ?_) (by rw [List.length_take]; omega)) ?_
  · obtain ⟨j, hj⟩ := List.getElem?_of_mem hd'
    have hj2 := idx_lt hj
    rw [List.length_take] at hj2
    rw [List.getElem?_take_of_lt (by omega)] at hj
    obtain ⟨h1, e1⟩ := List.getElem?_eq_some_iff.1 hj
    obtain ⟨h2, e2⟩ := List.getElem?_eq_some_iff.1 hd
    have := List.pairwise_iff_getElem.1 hne j t h1 h2 (by omega)
    rw [e1, e2] at this
    exact this
  · rintro r w' ⟨xs, a, c, E, I', Or, rfl, sm', so, hx, hl⟩
    have sz := so.sp.size
    have hZlt : ∀ k, Z k → k < w.heap.size := fun k hk => (h.lt k (hZJ k hk)).2
    refine ⟨xs, a, c, E, fun k => I' k ∨ Z k, Or, rfl, ⟨⟨I', Z, os, fun k hk => .inl hk, fun k hk => .inr hk, fun k hk z => ?_, rw0.keep (fun k hk => so.sp.block k (hZlt k hk) (fun z => hIZ k z hk)), smo, dat, hlen, .inr ⟨rb, rfl, fun _ => by rw [ph, tk]; exact sm'⟩⟩, fun k hk => ?_⟩, ⟨so.rw_, so.new, fun i hi z => ?_, fun i hi => ?_, so.sp.mono (fun k _ hk => hIJ k hk), so.sm, so.len⟩, by rw [o0, o1]; exact hx, by rw [o1]; exact hl⟩
    · rcases so.its k hk with y | y
      · exact hIZ k y z
      · have := hZlt k z; omega
    · rcases hk with z | z
      · exact sm'.lt k z
      · exact ⟨(h.lt k (hZJ k z)).1, Nat.lt_of_lt_of_le (hZlt k z) sz⟩
    · rcases z with z | z
      · exact so.ap i hi z
      · have := hZlt i z; have := (so.new i hi).1; omega
    · rcases hi with z | z
      · rcases so.its i z with y | y
        · exact .inl (hIJ i y)
        · exact .inr y
      · exact .inl (hZJ i z)
theorem laneEndR {wa : List En → List En} {rb : Nat} (Kk : Kd (mt fs) clock fs.length OO wa) (hfs : ∀ f ∈ fs, 0 ≤ f.tl ∧ f.tl ≤ 1099511627776) (h : Lane w N OO 71 fs clock ins (some ⟨rb, 0, none⟩) ins.length ins.length vo J) (hin : ins.length ≤ 1048576) :
    Calls Tryz.prog 36 #[.pointer (some ⟨rb, 0, none⟩)] w fun r w' => ∃ xs a c J' Or, r = .returned (.slice a xs.length c) ∧ Lane w' N OO 71 fs clock ins (some ⟨rb, 0, none⟩) (ins.length + 1) ins.length vo J' ∧ StO N w w' J J' (.slice a xs.length c) xs Or ∧ outD OO fs clock ins ins.length ++ xs.map EntD.dat = outD OO fs clock ins (ins.length + 1) ∧ (outD OO fs clock ins (ins.length + 1)).length ≤ 1048576 := by
  obtain ⟨I, Z, os, hIJ, hZJ, hIZ, rw0, smo, dat, hlen, st⟩ := h.ex
  rcases st with ⟨z, _⟩ | ⟨rb', z, st⟩
  · cases z
  cases z
  have st' := st (Nat.le_refl _)
  rw [List.take_length] at st'
  have o0 : outD OO fs clock ins ins.length = OO (Phi fs clock ins).2 := by unfold outD; rw [if_pos (Nat.le_refl _), List.take_length]
  have o1 : outD OO fs clock ins (ins.length + 1) = OO ((Phi fs clock ins).2 ++ (resolveS (mt fs) clock (Phi fs clock ins).1 3).1) := by unfold outD endV; rw [if_neg (by omega)]
  refine Calls.mono (smEndR Kk hfs st' hin) ?_
  rintro r w' ⟨xs, a, c, I', Or, rfl, so, hx, hl⟩
  have sz := so.sp.size
  have hZlt : ∀ k, Z k → k < w.heap.size := fun k hk => (h.lt k (hZJ k hk)).2
  refine ⟨xs, a, c, Z, Or, rfl, ⟨⟨fun _ => False, Z, os, fun k hk => hk.elim, fun k hk => hk, fun k hk => hk.elim, rw0.keep (fun k hk => so.sp.block k (hZlt k hk) (fun z => hIZ k z hk)), smo, dat, hlen, .inr ⟨rb, rfl, fun z => by omega⟩⟩, fun k hk => ⟨(h.lt k (hZJ k hk)).1, Nat.lt_of_lt_of_le (hZlt k hk) sz⟩⟩, ⟨so.rw_, so.new, fun i hi z => ?_, fun i hi => .inl (hZJ i hi), so.sp.mono (fun k _ hk => hIJ k hk), so.sm, so.len⟩, by rw [o0, o1]; exact hx, by rw [o1]; exact hl⟩
  have := hZlt i z
  have := (so.new i hi).1
  omega
theorem Lane.app {xs zs : List EntD} {vz u : Value} {tq' rb : Nat} (h : Lane w N OO g fs clock ins (some ⟨rb, 0, none⟩) ts tq vo J) (cl : Cl w w1 zs vz) (hd : zs.map EntD.dat = xs.map EntD.dat) (sm : ∀ x ∈ xs, SmE x.dat) (hx : outD OO fs clock ins tq ++ xs.map EntD.dat = outD OO fs clock ins tq') (hl : (outD OO fs clock ins tq').length ≤ 1048576) (hN : N ≤ w.heap.size) (r : ∀ os : List EntD, Rw w N vo os J → w2.ownsRow N 84 7 u (os ++ zs).length (evals (os ++ zs))) (gr : w1.grownBy w2 vo.ownBlock) (lo : ∀ k, u.ownBlock = some k → vo.ownBlock = some k ∨ k = w1.heap.size) (hw' : w2.heap.size = w'.heap.size) (hk : ∀ i, J i ∨ w.heap.size ≤ i → w'.heap[i]? = w2.heap[i]?) :
    Lane w' N OO g fs clock ins (some ⟨rb, 0, none⟩) ts tq' u (fun k => J k ∨ (w.heap.size ≤ k ∧ k < w'.heap.size)) := by
  obtain ⟨I, Z, os, hIJ, hZJ, hIZ, rw0, smo, dat, hlen, st⟩ := h.ex
  have s1 := cl.below.size
  have s2 := gr.size
  have hZlt : ∀ k, Z k → k < w.heap.size := fun k hk => (h.lt k (hZJ k hk)).2
  have ra := rw0.app hZlt cl hN (r os (rw0.mono hZJ)) gr lo
  have rw2 : Rw w' N u (os ++ zs) (fun k => Z k ∨ (w.heap.size ≤ k ∧ k < w'.heap.size)) := by
    rw [← hw']
    exact ra.keep (fun i hi => hk i (hi.imp (hZJ i) And.left))
  rw [if_neg (by simp)] at dat
  have dd : (os ++ zs).map EntD.dat = outD OO fs clock ins tq' := by rw [List.map_append, dat, hd, hx]
  refine ⟨⟨I, fun k => Z k ∨ (w.heap.size ≤ k ∧ k < w'.heap.size), os ++ zs, fun k hk => .inl (hIJ k hk), fun k hk => hk.imp (hZJ k) id, fun k hk z => ?_, rw2, fun x hx => ?_, by rw [if_neg (by simp)]; exact dd, ?_, ?_⟩, fun k hk => ?_⟩
  · rcases z with z | z
    · exact hIZ k hk z
    · have := (h.lt k (hIJ k hk)).2; omega
  · rcases List.mem_append.1 hx with z | z
    · exact smo x z
    · have : x.dat ∈ zs.map EntD.dat := List.mem_map_of_mem z
      rw [hd] at this
      obtain ⟨y, hy, e⟩ := List.mem_map.1 this
      rw [← e]
      exact sm y hy
  · have := congrArg List.length dd
    rw [List.length_map] at this
    omega
  · rcases st with ⟨z, _⟩ | ⟨rb', z, st⟩
    · cases z
    · refine .inr ⟨rb', z, fun ht => (st ht).keep (by omega) (fun i hi => ?_)⟩
      have hlt := (h.lt i (hIJ i hi)).2
      rw [hk i (.inl (hIJ i hi))]
      exact (gr.block i (by omega) (fun z => hIZ i hi (rw0.rowO i z.symm))).trans (cl.below.block i hlt)
  · rcases hk with z | z
    · exact ⟨(h.lt k z).1, by have := (h.lt k z).2; omega⟩
    · exact ⟨by omega, z.2⟩
end
end Go.Proofs.YthhkpkfpifllkaaGreat

namespace Go.Proofs.YthhkpkfpifllkaaGreat
open Go.RowKit
set_option linter.unusedVariables false

theorem kpt_new {w : World} {N : Nat} (hN : N ≤ w.heap.size) : Kpt (w.alloc (.cells #[.slice none 0 0, .slice none 0 0, .slice none 0 0, .slice none 0 0, .slice none 0 0, .slice none 0 0] 71)) N w.heap.size [] 0 (fun k => k = w.heap.size) := by
  refine ⟨none, none, none, none, 0, 0, 0, 0, none, 0, [], [], [], (fun k => k = w.heap.size), (fun _ => False), ⟨⟨⟨heap_new w _, World.ownsRow_nil _ _ _ _, World.ownsRow_nil _ _ _ _, by decide, ?_, ?_, ?_, ?_, ⟨?_, ?_⟩, ⟨Nat.zero_le _, Nat.zero_le _, Nat.zero_le _, Nat.zero_le _⟩⟩, World.ownsRow_nil _ _ _ _, World.ownsRow_nil _ _ _ _, ?_, ?_, ?_, ?_, ?_, ?_, ?_, ?_, ?_, ?_, ⟨rfl, ?_, ?_, ?_, ?_⟩, ?_, ?_, ?_, ?_⟩, rfl, ?_, ⟨rfl, World.ownsRow_nil _ _ _ _, ?_, ?_⟩, fun k _ z => z, fun k hk => hk, fun k hk => hk.elim, fun k hk => by rw [hk, World.size_alloc]; omega⟩, rfl⟩
  all_goals (intros; simp_all [Value.ownBlock])
theorem laneNewF {W : World} {N : Nat} (hN : N ≤ W.heap.size) {a : Option Addr} {c : Nat} {fs : List FamD} (hr : RdF W (.slice a fs.length c) fs) (hn : a = none → c = 0) (C : Nat) (hC : (C = 0 ↔ SchemaOk fs) ∧ (C = 0 ∨ C = 28)) (clock low : Int) (major : Bool) (ins : List En) :
    Calls Tryz.prog 31 #[.agg #[.slice a fs.length c], .int .i64 clock, .bool major, .int .i64 low] W fun r W' => ∃ pt J, r = .returned (.tuple #[.pointer pt, .int .i64 (boundsS C [clock, low])]) ∧ (boundsS C [clock, low] ≠ 0 → pt = none) ∧ (boundsS C [clock, low] = 0 → ∃ rb, pt = some ⟨rb, 0, none⟩) ∧ Lane W' N (outS major low) 70 fs clock ins pt 0 0 (.slice none 0 0) J ∧ (∀ i, J i → W.heap.size ≤ i) ∧ Below W.heap.size W W' := by
  refine Calls.mono (filter_new hN hr hn C hC clock low major) ?_
  rintro r W' ⟨b, h1, h2⟩
  by_cases hz : boundsS C [clock, low] = 0
  · obtain ⟨fb, I, rfl, sm, lo⟩ := h2 hz
    refine ⟨some ⟨fb, 0, none⟩, I, by rw [hz], fun z => absurd hz z, fun _ => ⟨fb, rfl⟩, ⟨⟨I, fun _ => False, [], fun k hk => hk, fun k hk => hk.elim, fun k _ z => z, Rw.nil _ _ _, (fun x hx => by cases hx), ?_, Nat.zero_le _, .inr ⟨fb, rfl, fun _ => sm⟩⟩, fun k hk => sm.lt k hk⟩, lo, b⟩
    rw [if_neg (by simp)]
    unfold outD
    rw [if_pos (Nat.zero_le _)]
    rfl
  · refine ⟨none, fun _ => False, h1 hz, fun _ => rfl, fun z => absurd z hz, ⟨⟨fun _ => False, fun _ => False, [], fun k hk => hk, fun k hk => hk, fun k _ z => z, Rw.nil _ _ _, (fun x hx => by cases hx), by rw [if_pos rfl]; rfl, Nat.zero_le _, .inl ⟨rfl, fun k z => z⟩⟩, fun k hk => hk.elim⟩, fun i hi => hi.elim, b⟩
theorem laneNewR {W : World} {N : Nat} (hN : N ≤ W.heap.size) {a : Option Addr} {c : Nat} {fs : List FamD} (hr : RdF W (.slice a fs.length c) fs) (hn : a = none → c = 0) (C : Nat) (hC : (C = 0 ↔ SchemaOk fs) ∧ (C = 0 ∨ C = 28)) (clock t nv : Int) (ins : List En) :
    Calls Tryz.prog 32 #[.agg #[.slice a fs.length c], .int .i64 clock, .int .i64 t, .int .i64 nv] W fun r W' => ∃ pt J, r = .returned (.tuple #[.pointer pt, .int .i64 (readerS C clock t nv)]) ∧ (readerS C clock t nv ≠ 0 → pt = none) ∧ (readerS C clock t nv = 0 → ∃ rb, pt = some ⟨rb, 0, none⟩) ∧ Lane W' N (fun vs => (showS t nv vs).2) 71 fs clock ins pt 0 0 (.slice none 0 0) J ∧ (∀ i, J i → W.heap.size ≤ i) ∧ Below W.heap.size W W' := by
  refine Calls.mono (reader_new hN hr hn C hC clock t nv) ?_
  rintro r W' ⟨b, h1, h2⟩
  by_cases hz : readerS C clock t nv = 0
  · obtain ⟨fb, I, rfl, sm, lo⟩ := h2 hz
    refine ⟨some ⟨fb, 0, none⟩, I, by rw [hz], fun z => absurd hz z, fun _ => ⟨fb, rfl⟩, ⟨⟨I, fun _ => False, [], fun k hk => hk, fun k hk => hk.elim, fun k _ z => z, Rw.nil _ _ _, (fun x hx => by cases hx), ?_, Nat.zero_le _, .inr ⟨fb, rfl, fun _ => sm⟩⟩, fun k hk => sm.lt k hk⟩, lo, b⟩
    rw [if_neg (by simp)]
    unfold outD
    rw [if_pos (Nat.zero_le _)]
    rfl
  · refine ⟨none, fun _ => False, h1 hz, fun _ => rfl, fun z => absurd z hz, ⟨⟨fun _ => False, fun _ => False, [], fun k hk => hk, fun k hk => hk, fun k _ z => z, Rw.nil _ _ _, (fun x hx => by cases hx), by rw [if_pos rfl]; rfl, Nat.zero_le _, .inl ⟨rfl, fun k z => z⟩⟩, fun k hk => hk.elim⟩, fun i hi => hi.elim, b⟩
structure Mrn (w : World) (N g go : Nat) (OOf OOr : List Vd → List En) (fs : List FamD) (clock : Int) (ins : List En) (Ds : List (List En)) (nB : Nat) (P : Nat → Prop) (ai : Option Addr) (ci : Nat) (zi : List EntD) (Fi : Nat → Prop) (pt : Nat → Option Addr) (ts tq : Nat → Nat) (vo : Nat → Value) (J : Nat → Nat → Prop) : Prop where
  kpt : Kpt w N g Ds nB P
  inR : Rw w N (.slice ai zi.length ci) zi Fi
  inD : zi.map EntD.dat = ins
  inS : ∀ x ∈ zi, SmE x.dat
  box : w.heap[go]? = some (.cells #[vo 0, vo 1, vo 2, vo 3] 79 (0, 0))
  ln : ∀ s, s < 4 → Lane w N (if s < 2 then OOf else OOr) (if s < 2 then 70 else 71) fs clock ins (pt s) (ts s) (tq s) (vo s) (J s)
  jj : ∀ s u k, s < 4 → u < 4 → s ≠ u → J s k → ¬ J u k
  jp : ∀ s k, s < 4 → J s k → ¬ P k ∧ ¬ Fi k ∧ k ≠ go
  pf : ∀ k, P k → ¬ Fi k ∧ k ≠ go
  fg : ¬ Fi go
  lt : (N ≤ go ∧ go < w.heap.size) ∧ ∀ k, Fi k → N ≤ k ∧ k < w.heap.size
def upd {α : Type} (f : Nat → α) (c : Nat) (v : α) : Nat → α := fun s => if s = c then v else f s
theorem upd_eq {α : Type} (f : Nat → α) (c : Nat) (v : α) : upd f c v c = v := by unfold upd; rw [if_pos rfl]
theorem upd_ne {α : Type} (f : Nat → α) {c s : Nat} (v : α) (h : s ≠ c) : upd f c v s = f s := by unfold upd; rw [if_neg h]
section
variable {w w' : World} {N g go : Nat} {OOf OOr : List Vd → List En} {fs : List FamD} {clock : Int} {ins : List En} {Ds : List (List En)} {nB : Nat} {P : Nat → Prop} {ai : Option Addr} {ci : Nat} {zi : List EntD} {Fi : Nat → Prop} {pt : Nat → Option Addr} {ts tq : Nat → Nat} {vo : Nat → Value} {J : Nat → Nat → Prop}
theorem Mrn.keep (h : Mrn w N g go OOf OOr fs clock ins Ds nB P ai ci zi Fi pt ts tq vo J) (b : Below w.heap.size w w') : Mrn w' N g go OOf OOr fs clock ins Ds nB P ai ci zi Fi pt ts tq vo J :=
  ⟨h.kpt.later b, h.inR.keep (fun k hk => b.block k (h.lt.2 k hk).2), h.inD, h.inS, (b.block go h.lt.1.2).trans h.box, fun s hs => (h.ln s hs).keep b.size (fun i hi => b.block i ((h.ln s hs).lt i hi).2), h.jj, h.jp, h.pf, h.fg, ⟨h.lt.1.1, Nat.lt_of_lt_of_le h.lt.1.2 b.size⟩, fun k hk => ⟨(h.lt.2 k hk).1, Nat.lt_of_lt_of_le (h.lt.2 k hk).2 b.size⟩⟩
theorem Mrn.pushed {c t' : Nat} {J' Or : Nat → Prop} {v : Value} {xs : List EntD} (hc : c < 4) (h : Mrn w N g go OOf OOr fs clock ins Ds nB P ai ci zi Fi pt ts tq vo J) (L : Lane w' N (if c < 2 then OOf else OOr) (if c < 2 then 70 else 71) fs clock ins (pt c) t' (tq c) (vo c) J') (so : StO N w w' (J c) J' v xs Or) : Mrn w' N g go OOf OOr fs clock ins Ds nB P ai ci zi Fi pt (upd ts c t') tq vo (upd J c J') ∧ (∀ k, Or k → ¬ P k ∧ (∀ s, s < 4 → ¬ upd J c J' s k) ∧ ¬ Fi k ∧ k ≠ go) := by
  have sz := so.sp.size
  have lc := (h.ln c hc).lt
  have hnew : ∀ k, J' k → w.heap.size ≤ k → (∀ s, s < 4 → s ≠ c → ¬ J s k) ∧ ¬ P k ∧ ¬ Fi k ∧ k ≠ go := fun k hk hw => ⟨fun s hs _ z => by have := ((h.ln s hs).lt k z).2; omega, fun z => by have := (h.kpt.lt k z).2; omega, fun z => by have := (h.lt.2 k z).2; omega, fun z => by have := h.lt.1.2; omega⟩
  refine ⟨⟨h.kpt.keep (fun k hk => so.sp.block k (h.kpt.lt k hk).2 (fun z => (h.jp c k hc z).1 hk)) sz, h.inR.keep (fun k hk => so.sp.block k (h.lt.2 k hk).2 (fun z => (h.jp c k hc z).2.1 hk)), h.inD, h.inS, (so.sp.block go h.lt.1.2 (fun z => (h.jp c go hc z).2.2 rfl)).trans h.box, fun s hs => ?_, fun s u k hs hu hne hk z => ?_, fun s k hs hk => ?_, h.pf, h.fg, ⟨h.lt.1.1, Nat.lt_of_lt_of_le h.lt.1.2 sz⟩, fun k hk => ⟨(h.lt.2 k hk).1, Nat.lt_of_lt_of_le (h.lt.2 k hk).2 sz⟩⟩, fun k hk => ?_⟩
  · by_cases e : s = c
    · subst e
      rw [upd_eq, upd_eq]
      exact L
    · rw [upd_ne _ _ e, upd_ne _ _ e]
      exact (h.ln s hs).keep sz (fun i hi => so.sp.block i ((h.ln s hs).lt i hi).2 (fun z => h.jj s c i hs hc e hi z))
  · by_cases e : s = c
    · subst e
      rw [upd_eq] at hk
      rw [upd_ne _ _ (fun y => hne y.symm)] at z
      rcases so.its k hk with y | y
      · exact h.jj s u k hs hu hne y z
      · exact (hnew k hk y).1 u hu (fun y => hne y.symm) z
    · rw [upd_ne _ _ e] at hk
      by_cases e2 : u = c
      · subst e2
        rw [upd_eq] at z
        rcases so.its k z with y | y
        · exact h.jj s u k hs hu hne hk y
        · exact (hnew k z y).1 s hs e hk
      · rw [upd_ne _ _ e2] at z
        exact h.jj s u k hs hu hne hk z
  · by_cases e : s = c
    · subst e
      rw [upd_eq] at hk
      rcases so.its k hk with y | y
      · exact h.jp s k hs y
      · exact (hnew k hk y).2
    · rw [upd_ne _ _ e] at hk
      exact h.jp s k hs hk
  · have n1 := so.new k hk
    refine ⟨fun z => by have := (h.kpt.lt k z).2; omega, fun s hs z => ?_, fun z => by have := (h.lt.2 k z).2; omega, fun z => by have := h.lt.1.2; omega⟩
    by_cases e : s = c
    · subst e
      rw [upd_eq] at z
      exact so.ap k hk z
    · rw [upd_ne _ _ e] at z
      have := ((h.ln s hs).lt k z).2
      omega
theorem Mrn.taken {Ds' : List (List En)} {nB' : Nat} {P' Q : Nat → Prop} (h : Mrn w N g go OOf OOr fs clock ins Ds nB P ai ci zi Fi pt ts tq vo J) (k' : Kpt w' N g Ds' nB' P') (hP : ∀ k, P' k → P k ∨ Q k ∨ (w.heap.size ≤ k ∧ k < w'.heap.size)) (sp : SpF w w' P) (hQ : ∀ k, Q k → (∀ s, s < 4 → ¬ J s k) ∧ ¬ Fi k ∧ k ≠ go) : Mrn w' N g go OOf OOr fs clock ins Ds' nB' P' ai ci zi Fi pt ts tq vo J := by
  have sz := sp.size
  refine ⟨k', h.inR.keep (fun k hk => sp.block k (h.lt.2 k hk).2 (fun z => (h.pf k z).1 hk)), h.inD, h.inS, (sp.block go h.lt.1.2 (fun z => (h.pf go z).2 rfl)).trans h.box, fun s hs => (h.ln s hs).keep sz (fun i hi => sp.block i ((h.ln s hs).lt i hi).2 (h.jp s i hs hi).1), h.jj, fun s k hs hk => ⟨fun z => ?_, (h.jp s k hs hk).2⟩, fun k hk => ?_, h.fg, ⟨h.lt.1.1, Nat.lt_of_lt_of_le h.lt.1.2 sz⟩, fun k hk => ⟨(h.lt.2 k hk).1, Nat.lt_of_lt_of_le (h.lt.2 k hk).2 sz⟩⟩
  · rcases hP k z with y | y | y
    · exact (h.jp s k hs hk).1 y
    · exact (hQ k y).1 s hs hk
    · have := ((h.ln s hs).lt k hk).2; omega
  · rcases hP k hk with y | y | y
    · exact h.pf k y
    · exact (hQ k y).2
    · exact ⟨fun z => by have := (h.lt.2 k z).2; omega, fun z => by have := h.lt.1.2; omega⟩
theorem Mrn.told {c t' : Nat} {J' : Nat → Prop} {u : Value} (hc : c < 4) (h : Mrn w N g go OOf OOr fs clock ins Ds nB P ai ci zi Fi pt ts tq vo J) (L : Lane w' N (if c < 2 then OOf else OOr) (if c < 2 then 70 else 71) fs clock ins (pt c) (ts c) t' u J') (hb : w'.heap[go]? = some (.cells #[upd vo c u 0, upd vo c u 1, upd vo c u 2, upd vo c u 3] 79 (0, 0))) (hk : ∀ k, k < w.heap.size → ¬ J c k → k ≠ go → w'.heap[k]? = w.heap[k]?) (hJ : ∀ k, J' k → J c k ∨ w.heap.size ≤ k) (sz : w.heap.size ≤ w'.heap.size) : Mrn w' N g go OOf OOr fs clock ins Ds nB P ai ci zi Fi pt ts (upd tq c t') (upd vo c u) (upd J c J') := by
  have hnew : ∀ k, J' k → w.heap.size ≤ k → (∀ s, s < 4 → s ≠ c → ¬ J s k) ∧ ¬ P k ∧ ¬ Fi k ∧ k ≠ go := fun k hk hw => ⟨fun s hs _ z => by have := ((h.ln s hs).lt k z).2; omega, fun z => by have := (h.kpt.lt k z).2; omega, fun z => by have := (h.lt.2 k z).2; omega, fun z => by have := h.lt.1.2; omega⟩
  refine ⟨h.kpt.keep (fun k hp => hk k (h.kpt.lt k hp).2 (fun z => (h.jp c k hc z).1 hp) (h.pf k hp).2) sz, h.inR.keep (fun k hf => hk k (h.lt.2 k hf).2 (fun z => (h.jp c k hc z).2.1 hf) (fun z => h.fg (z ▸ hf))), h.inD, h.inS, hb, fun s hs => ?_, fun s x k hs hx hne hj z => ?_, fun s k hs hj => ?_, h.pf, h.fg, ⟨h.lt.1.1, Nat.lt_of_lt_of_le h.lt.1.2 sz⟩, fun k hf => ⟨(h.lt.2 k hf).1, Nat.lt_of_lt_of_le (h.lt.2 k hf).2 sz⟩⟩
  · by_cases e : s = c
    · subst e
      rw [upd_eq, upd_eq, upd_eq]
      exact L
    · rw [upd_ne _ _ e, upd_ne _ _ e, upd_ne _ _ e]
      exact (h.ln s hs).keep sz (fun i hi => hk i ((h.ln s hs).lt i hi).2 (fun z => h.jj s c i hs hc e hi z) (h.jp s i hs hi).2.2)
  · by_cases e : s = c
    · subst e
      rw [upd_eq] at hj
      rw [upd_ne _ _ (fun y => hne y.symm)] at z
      rcases hJ k hj with y | y
      · exact h.jj s x k hs hx hne y z
      · exact (hnew k hj y).1 x hx (fun y => hne y.symm) z
    · rw [upd_ne _ _ e] at hj
      by_cases e2 : x = c
      · subst e2
        rw [upd_eq] at z
        rcases hJ k z with y | y
        · exact h.jj s x k hs hx hne hj y
        · exact (hnew k z y).1 s hs e hj
      · rw [upd_ne _ _ e2] at z
        exact h.jj s x k hs hx hne hj z
  · by_cases e : s = c
    · subst e
      rw [upd_eq] at hj
      rcases hJ k hj with y | y
      · exact h.jp s k hs y
      · exact (hnew k hj y).2
    · rw [upd_ne _ _ e] at hj
      exact h.jp s k hs hj
end
end Go.Proofs.YthhkpkfpifllkaaGreat

namespace Go.Proofs.YthhkpkfpifllkaaGreat
open Go.RowKit
set_option linter.unusedVariables false

theorem SpF.far3 {w w' : World} {N : Nat} {O : Nat → Prop} (h : SpF w w' O) (hO : ∀ k, O k → N ≤ k) (hN : N ≤ w.heap.size) : Below N w w' := ⟨h.os, h.tape, h.output, h.size, fun i hi => h.block i (Nat.lt_of_lt_of_le hi hN) (fun z => by have := hO i z; omega)⟩
theorem Mrn.nle {w : World} {N g go : Nat} {OOf OOr : List Vd → List En} {fs : List FamD} {clock : Int} {ins : List En} {Ds : List (List En)} {nB : Nat} {P : Nat → Prop} {ai : Option Addr} {ci : Nat} {zi : List EntD} {Fi : Nat → Prop} {pt : Nat → Option Addr} {ts tq : Nat → Nat} {vo : Nat → Value} {J : Nat → Nat → Prop} (h : Mrn w N g go OOf OOr fs clock ins Ds nB P ai ci zi Fi pt ts tq vo J) : N ≤ w.heap.size := by
  have := h.lt.1
  omega
def MrS (w X0 : World) (N g go : Nat) (OF OR : List Vd → List En) (fs : List FamD) (clock : Int) (ins : List En) (Ds0 : List (List En)) (ai : Option Addr) (ci : Nat) (zi : List EntD) (Fi : Nat → Prop) (pt : Nat → Option Addr) (q m : Nat) : Prop := ∃ (Ds : List (List En)) (nB : Nat) (P : Nat → Prop) (ts tq : Nat → Nat) (vo : Nat → Value) (J : Nat → Nat → Prop) (lo : Nat → Nat), Mrn w N g go OF OR fs clock ins Ds nB P ai ci zi Fi pt ts tq vo J ∧ (∀ s, s < 4 → ts s = q + (if s < m then 1 else 0) ∧ tq s = q + (if s < m then 1 else 0)) ∧ Below N X0 w ∧ Ds.length ≤ 25 + 4 * q + m ∧ (∃ Dx, Ds = Ds0 ++ Dx) ∧ (∀ s, s < 4 → ∃ a c, vo s = .slice a (lo s) c ∧ lo s ≤ 1048576) ∧ nB ≤ 78643200 + 3 * (lo 0 + lo 1 + lo 2 + lo 3)
def PuS (w X0 : World) (N g go : Nat) (OF OR : List Vd → List En) (fs : List FamD) (clock : Int) (ins : List En) (Ds0 : List (List En)) (ai : Option Addr) (ci : Nat) (zi : List EntD) (Fi : Nat → Prop) (pt : Nat → Option Addr) (q m : Nat) (a : Option Addr) (c : Nat) (xs : List EntD) : Prop := ∃ (Ds : List (List En)) (nB : Nat) (P : Nat → Prop) (ts tq : Nat → Nat) (vo : Nat → Value) (J : Nat → Nat → Prop) (Or : Nat → Prop) (lo : Nat → Nat), Mrn w N g go OF OR fs clock ins Ds nB P ai ci zi Fi pt ts tq vo J ∧ Rw w N (.slice a xs.length c) xs Or ∧ (∀ x ∈ xs, SmE x.dat) ∧ xs.length ≤ 1048576 ∧ (∀ k, Or k → N ≤ k ∧ k < w.heap.size ∧ ¬ P k ∧ (∀ s, s < 4 → ¬ J s k) ∧ ¬ Fi k ∧ k ≠ go) ∧ (∀ s, s < 4 → ts s = (if s = m then q + 1 else q + (if s < m then 1 else 0)) ∧ tq s = q + (if s < m then 1 else 0)) ∧ outD (if m < 2 then OF else OR) fs clock ins q ++ xs.map EntD.dat = outD (if m < 2 then OF else OR) fs clock ins (q + 1) ∧ (outD (if m < 2 then OF else OR) fs clock ins (q + 1)).length ≤ 1048576 ∧ Below N X0 w ∧ Ds.length ≤ 25 + 4 * q + m ∧ (∃ Dx, Ds = Ds0 ++ Dx) ∧ (∀ s, s < 4 → ∃ a c, vo s = .slice a (lo s) c ∧ lo s ≤ 1048576) ∧ nB ≤ 78643200 + 3 * (lo 0 + lo 1 + lo 2 + lo 3) ∧ ∃ rb, pt m = some ⟨rb, 0, none⟩
def TaS (w X0 : World) (N g go : Nat) (OF OR : List Vd → List En) (fs : List FamD) (clock : Int) (ins : List En) (Ds0 : List (List En)) (ai : Option Addr) (ci : Nat) (zi : List EntD) (Fi : Nat → Prop) (pt : Nat → Option Addr) (q m : Nat) (a : Option Addr) (c : Nat) (xs : List EntD) (ao : Option Addr) (no co : Nat) : Prop := ∃ (Ds : List (List En)) (nB : Nat) (P : Nat → Prop) (ts tq : Nat → Nat) (vo : Nat → Value) (J : Nat → Nat → Prop) (Or : Nat → Prop) (lo : Nat → Nat), Mrn w N g go OF OR fs clock ins Ds nB P ai ci zi Fi pt ts tq vo J ∧ Rw w N (.slice a xs.length c) xs Or ∧ (∀ x ∈ xs, SmE x.dat) ∧ xs.length ≤ 1048576 ∧ (∀ s, s < 4 → ts s = (if s = m then q + 1 else q + (if s < m then 1 else 0)) ∧ tq s = q + (if s < m then 1 else 0)) ∧ outD (if m < 2 then OF else OR) fs clock ins q ++ xs.map EntD.dat = outD (if m < 2 then OF else OR) fs clock ins (q + 1) ∧ (outD (if m < 2 then OF else OR) fs clock ins (q + 1)).length ≤ 1048576 ∧ Below N X0 w ∧ Ds.length ≤ 25 + 4 * q + m + 1 ∧ (∃ Dx, Ds = Ds0 ++ Dx) ∧ (∀ s, s < 4 → ∃ a c, vo s = .slice a (lo s) c ∧ lo s ≤ 1048576) ∧ nB ≤ 78643200 + 3 * (lo 0 + lo 1 + lo 2 + lo 3 + xs.length) ∧ (∃ rb, pt m = some ⟨rb, 0, none⟩) ∧ vo m = .slice ao no co
section
variable {w w0 w1 w' X0 : World} {N g go : Nat} {OF OR : List Vd → List En} {fs : List FamD} {clock : Int} {ins : List En} {Ds0 : List (List En)} {ai : Option Addr} {ci : Nat} {zi : List EntD} {Fi : Nat → Prop} {pt : Nat → Option Addr}
theorem MrS.later {q m : Nat} (h : MrS w X0 N g go OF OR fs clock ins Ds0 ai ci zi Fi pt q m) (b : Below w.heap.size w w') : MrS w' X0 N g go OF OR fs clock ins Ds0 ai ci zi Fi pt q m := by
  obtain ⟨Ds, nB, P, ts, tq, vo, J, lo, mr, hts, bl, hdl, hdx, hlo, hnb⟩ := h
  exact ⟨Ds, nB, P, ts, tq, vo, J, lo, mr.keep b, hts, bl.trans (b.mono mr.nle), hdl, hdx, hlo, hnb⟩
theorem MrS.next {q : Nat} (h : MrS w X0 N g go OF OR fs clock ins Ds0 ai ci zi Fi pt q 4) : MrS w X0 N g go OF OR fs clock ins Ds0 ai ci zi Fi pt (q + 1) 0 := by
  obtain ⟨Ds, nB, P, ts, tq, vo, J, lo, mr, hts, bl, hdl, hdx, hlo, hnb⟩ := h
  refine ⟨Ds, nB, P, ts, tq, vo, J, lo, mr, fun s hs => ?_, bl, by omega, hdx, hlo, hnb⟩
  have := hts s hs
  rw [if_pos hs] at this
  rw [if_neg (by omega)]
  exact this
theorem MrS.skip {q m : Nat} (h : MrS w X0 N g go OF OR fs clock ins Ds0 ai ci zi Fi pt q m) (hm : m < 4) (hp : pt m = none) : MrS w X0 N g go OF OR fs clock ins Ds0 ai ci zi Fi pt q (m + 1) := by
  obtain ⟨Ds, nB, P, ts, tq, vo, J, lo, mr, hts, bl, hdl, hdx, hlo, hnb⟩ := h
  have lm := mr.ln m hm
  have L : Lane w N (if m < 2 then OF else OR) (if m < 2 then 70 else 71) fs clock ins (pt m) (q + 1) (q + 1) (vo m) (J m) := by
    rw [hp] at lm ⊢
    obtain ⟨I, Z, os, h1, h2, h3, h4, h5, h6, h7, h8⟩ := lm.ex
    refine ⟨⟨I, Z, os, h1, h2, h3, h4, h5, by rw [if_pos rfl] at h6 ⊢; exact h6, h7, ?_⟩, lm.lt⟩
    rcases h8 with z | ⟨rb, z, _⟩
    · exact .inl z
    · cases z
  refine ⟨Ds, nB, P, upd ts m (q + 1), upd tq m (q + 1), vo, J, lo, ⟨mr.kpt, mr.inR, mr.inD, mr.inS, mr.box, fun s hs => ?_, mr.jj, mr.jp, mr.pf, mr.fg, mr.lt⟩, fun s hs => ?_, bl, by omega, hdx, hlo, hnb⟩
  · by_cases e : s = m
    · subst e
      rw [upd_eq, upd_eq]
      exact L
    · rw [upd_ne _ _ e, upd_ne _ _ e]
      exact mr.ln s hs
  · by_cases e : s = m
    · subst e
      rw [upd_eq, upd_eq, if_pos (by omega)]
      exact ⟨rfl, rfl⟩
    · rw [upd_ne _ _ e, upd_ne _ _ e]
      have := hts s hs
      by_cases e2 : s < m
      · rw [if_pos e2] at this
        rw [if_pos (by omega)]
        exact this
      · rw [if_neg e2] at this
        rw [if_neg (by omega)]
        exact this
theorem MrS.ptr {q m : Nat} (h : MrS w X0 N g go OF OR fs clock ins Ds0 ai ci zi Fi pt q m) (hm : m < 4) : pt m = none ∨ ∃ rb, pt m = some ⟨rb, 0, none⟩ := by
  obtain ⟨Ds, nB, P, ts, tq, vo, J, lo, mr, hts, bl, hdl, hdx, hlo, hnb⟩ := h
  obtain ⟨I, Z, os, h1, h2, h3, h4, h5, h6, h7, h8⟩ := (mr.ln m hm).ex
  rcases h8 with z | ⟨rb, z, _⟩
  · exact .inl z.1
  · exact .inr ⟨rb, z⟩
theorem MrS.ent {q m : Nat} (h : MrS w X0 N g go OF OR fs clock ins Ds0 ai ci zi Fi pt q m) (hq : q < zi.length) : ∃ gi x, ai = some ⟨gi, 0, none⟩ ∧ zi[q]? = some x ∧ ins[q]? = some x.dat ∧ SmE x.dat ∧ EntD.Ok w x ∧ ∀ (j : Nat) u, x.cells.toList[j]? = some u → w.cell? ⟨gi, q * 7 + j, none⟩ = some u := by
  obtain ⟨Ds, nB, P, ts, tq, vo, J, lo, mr, hts, bl, hdl, hdx, hlo, hnb⟩ := h
  obtain ⟨x, hx⟩ : ∃ x, zi[q]? = some x := ⟨_, List.getElem?_eq_getElem hq⟩
  obtain ⟨gi, e, _, _, hc⟩ := row_cells3 mr.inR.row hx
  have hm := List.mem_of_getElem? hx
  refine ⟨gi, x, e, hx, by rw [← mr.inD, List.getElem?_map, hx]; rfl, mr.inS x hm, (mr.inR.ents x hm).okB (mr.inS x hm).1, hc⟩
theorem MrS.pushF {wa : List En → List En} {q m M rb : Nat} {e : EntD} (Kk : Kd (mt fs) clock fs.length OF wa) (hfs : ∀ f ∈ fs, 0 ≤ f.tl ∧ f.tl ≤ 1099511627776) (h : MrS w X0 N g go OF OR fs clock ins Ds0 ai ci zi Fi pt q m) (hm : m < 4) (hk : (m < 2) = True) (hp : pt m = some ⟨rb, 0, none⟩) (hq : q < ins.length) (hin : ins.length ≤ 1048576) (hne : ins.Pairwise fun a b => a.seq ≠ b.seq) (he : O3 w M e) (hM : w0.heap.size ≤ M) (h0 : MrS w0 X0 N g go OF OR fs clock ins Ds0 ai ci zi Fi pt q m) (b0 : Below w0.heap.size w0 w) (hd : ins[q]? = some e.dat) (sm : SmE e.dat) :
    Calls Tryz.prog 34 #[.pointer (some ⟨rb, 0, none⟩), .agg e.cells] w fun r w' => ∃ xs a c E, r = .returned (.tuple #[.slice a xs.length c, .int .i64 E]) ∧ PuS w' X0 N g go OF OR fs clock ins Ds0 ai ci zi Fi pt q m a c xs := by
  obtain ⟨Ds, nB, P, ts, tq, vo, J, lo, mr, hts, bl, hdl, hdx, hlo, hnb⟩ := h0
  have mr' := mr.keep b0
  have ht := hts m hm
  rw [if_neg (by omega), Nat.add_zero] at ht
  have L := mr'.ln m hm
  rw [ht.1, ht.2, hp] at L
  have e1 : (if m < 2 then OF else OR) = OF := by simp [hk]
  have e2 : (if m < 2 then 70 else 71) = 70 := by simp [hk]
  rw [e1, e2] at L
  refine Calls.mono (lanePushF Kk hfs L hq hin hne he hd (fun i hi z => ?_) sm) ?_
  · have x1 := ((mr.ln m hm).lt i z).2
    have x2 := (he.lt i hi).1
    omega
  · rintro r w' ⟨xs, a, c, E, J', Or, rfl, L', so, hx, hl⟩
    refine ⟨xs, a, c, E, rfl, ?_⟩
    have L2 : Lane w' N (if m < 2 then OF else OR) (if m < 2 then 70 else 71) fs clock ins (pt m) (q + 1) (tq m) (vo m) J' := by
      rw [e1, e2, ht.2, hp]
      exact L'
    obtain ⟨m1, hor⟩ := mr'.pushed hm L2 so
    have bl' : Below N X0 w' := (bl.trans (b0.mono (mr.nle))).trans (so.sp.far3 (fun k hk => ((mr'.ln m hm).lt k hk).1) mr'.nle)
    refine ⟨Ds, nB, P, _, tq, vo, _, Or, lo, m1, so.rw_, so.sm, so.len, fun k hk => ⟨Nat.le_trans mr'.nle (so.new k hk).1, (so.new k hk).2, hor k hk⟩, fun s hs => ?_, by rw [e1]; exact hx, by rw [e1]; exact hl, bl', hdl, hdx, hlo, hnb, ⟨rb, hp⟩⟩
    by_cases es : s = m
    · subst es
      rw [upd_eq, if_pos rfl]
      exact ⟨rfl, (hts _ hs).2⟩
    · rw [upd_ne _ _ es, if_neg es]
      exact hts s hs
theorem MrS.endF {wa : List En → List En} {q m rb : Nat} (Kk : Kd (mt fs) clock fs.length OF wa) (hfs : ∀ f ∈ fs, 0 ≤ f.tl ∧ f.tl ≤ 1099511627776) (h : MrS w X0 N g go OF OR fs clock ins Ds0 ai ci zi Fi pt q m) (hm : m < 4) (hk : (m < 2) = True) (hp : pt m = some ⟨rb, 0, none⟩) (hq : q = ins.length) (hin : ins.length ≤ 1048576) :
    Calls Tryz.prog 33 #[.pointer (some ⟨rb, 0, none⟩)] w fun r w' => ∃ xs a c, r = .returned (.slice a xs.length c) ∧ PuS w' X0 N g go OF OR fs clock ins Ds0 ai ci zi Fi pt q m a c xs := by
  obtain ⟨Ds, nB, P, ts, tq, vo, J, lo, mr, hts, bl, hdl, hdx, hlo, hnb⟩ := h
  have ht := hts m hm
  rw [if_neg (by omega), Nat.add_zero] at ht
  have L := mr.ln m hm
  rw [ht.1, ht.2, hp, hq] at L
  have e1 : (if m < 2 then OF else OR) = OF := by simp [hk]
  have e2 : (if m < 2 then 70 else 71) = 70 := by simp [hk]
  rw [e1, e2] at L
  refine Calls.mono (laneEndF Kk hfs L hin) ?_
  rintro r w' ⟨xs, a, c, J', Or, rfl, L', so, hx, hl⟩
  refine ⟨xs, a, c, rfl, ?_⟩
  have L2 : Lane w' N (if m < 2 then OF else OR) (if m < 2 then 70 else 71) fs clock ins (pt m) (q + 1) (tq m) (vo m) J' := by
    rw [e1, e2, ht.2, hp, hq]
    exact L'
  obtain ⟨m1, hor⟩ := mr.pushed hm L2 so
  have bl' : Below N X0 w' := bl.trans (so.sp.far3 (fun k hk => ((mr.ln m hm).lt k hk).1) mr.nle)
  refine ⟨Ds, nB, P, _, tq, vo, _, Or, lo, m1, so.rw_, so.sm, so.len, fun k hk => ⟨Nat.le_trans mr.nle (so.new k hk).1, (so.new k hk).2, hor k hk⟩, fun s hs => ?_, by rw [e1, hq]; exact hx, by rw [e1, hq]; exact hl, bl', hdl, hdx, hlo, hnb, ⟨rb, hp⟩⟩
  by_cases es : s = m
  · subst es
    rw [upd_eq, if_pos rfl]
    exact ⟨rfl, (hts _ hs).2⟩
  · rw [upd_ne _ _ es, if_neg es]
    exact hts s hs
theorem MrS.pushR {wa : List En → List En} {q m M rb : Nat} {e : EntD} (Kk : Kd (mt fs) clock fs.length OR wa) (hfs : ∀ f ∈ fs, 0 ≤ f.tl ∧ f.tl ≤ 1099511627776) (h : MrS w X0 N g go OF OR fs clock ins Ds0 ai ci zi Fi pt q m) (hm : m < 4) (hk : (m < 2) = False) (hp : pt m = some ⟨rb, 0, none⟩) (hq : q < ins.length) (hin : ins.length ≤ 1048576) (hne : ins.Pairwise fun a b => a.seq ≠ b.seq) (he : O3 w M e) (hM : w0.heap.size ≤ M) (h0 : MrS w0 X0 N g go OF OR fs clock ins Ds0 ai ci zi Fi pt q m) (b0 : Below w0.heap.size w0 w) (hd : ins[q]? = some e.dat) (sm : SmE e.dat) :
    Calls Tryz.prog 37 #[.pointer (some ⟨rb, 0, none⟩), .agg e.cells] w fun r w' => ∃ xs a c E, r = .returned (.tuple #[.slice a xs.length c, .int .i64 E]) ∧ PuS w' X0 N g go OF OR fs clock ins Ds0 ai ci zi Fi pt q m a c xs := by
  obtain ⟨Ds, nB, P, ts, tq, vo, J, lo, mr, hts, bl, hdl, hdx, hlo, hnb⟩ := h0
  have mr' := mr.keep b0
  have ht := hts m hm
  rw [if_neg (by omega), Nat.add_zero] at ht
  have L := mr'.ln m hm
  rw [ht.1, ht.2, hp] at L
  have e1 : (if m < 2 then OF else OR) = OR := by simp [hk]
  have e2 : (if m < 2 then 70 else 71) = 71 := by simp [hk]
  rw [e1, e2] at L
  refine Calls.mono (lanePushR Kk hfs L hq hin hne he hd (fun i hi z => ?_) sm) ?_
  · have x1 := ((mr.ln m hm).lt i z).2
    have x2 := (he.lt i hi).1
    omega
  · rintro r w' ⟨xs, a, c, E, J', Or, rfl, L', so, hx, hl⟩
    refine ⟨xs, a, c, E, rfl, ?_⟩
    have L2 : Lane w' N (if m < 2 then OF else OR) (if m < 2 then 70 else 71) fs clock ins (pt m) (q + 1) (tq m) (vo m) J' := by
      rw [e1, e2, ht.2, hp]
      exact L'
    obtain ⟨m1, hor⟩ := mr'.pushed hm L2 so
    have bl' : Below N X0 w' := (bl.trans (b0.mono (mr.nle))).trans (so.sp.far3 (fun k hk => ((mr'.ln m hm).lt k hk).1) mr'.nle)
    refine ⟨Ds, nB, P, _, tq, vo, _, Or, lo, m1, so.rw_, so.sm, so.len, fun k hk => ⟨Nat.le_trans mr'.nle (so.new k hk).1, (so.new k hk).2, hor k hk⟩, fun s hs => ?_, by rw [e1]; exact hx, by rw [e1]; exact hl, bl', hdl, hdx, hlo, hnb, ⟨rb, hp⟩⟩
    by_cases es : s = m
    · subst es
      rw [upd_eq, if_pos rfl]
      exact ⟨rfl, (hts _ hs).2⟩
    · rw [upd_ne _ _ es, if_neg es]
      exact hts s hs
theorem MrS.endR {wa : List En → List En} {q m rb : Nat} (Kk : Kd (mt fs) clock fs.length OR wa) (hfs : ∀ f ∈ fs, 0 ≤ f.tl ∧ f.tl ≤ 1099511627776) (h : MrS w X0 N g go OF OR fs clock ins Ds0 ai ci zi Fi pt q m) (hm : m < 4) (hk : (m < 2) = False) (hp : pt m = some ⟨rb, 0, none⟩) (hq : q = ins.length) (hin : ins.length ≤ 1048576) :
    Calls Tryz.prog 36 #[.pointer (some ⟨rb, 0, none⟩)] w fun r w' => ∃ xs a c, r = .returned (.slice a xs.length c) ∧ PuS w' X0 N g go OF OR fs clock ins Ds0 ai ci zi Fi pt q m a c xs := by
  obtain ⟨Ds, nB, P, ts, tq, vo, J, lo, mr, hts, bl, hdl, hdx, hlo, hnb⟩ := h
  have ht := hts m hm
  rw [if_neg (by omega), Nat.add_zero] at ht
  have L := mr.ln m hm
  rw [ht.1, ht.2, hp, hq] at L
  have e1 : (if m < 2 then OF else OR) = OR := by simp [hk]
  have e2 : (if m < 2 then 70 else 71) = 71 := by simp [hk]
  rw [e1, e2] at L
  refine Calls.mono (laneEndR Kk hfs L hin) ?_
  rintro r w' ⟨xs, a, c, J', Or, rfl, L', so, hx, hl⟩
  refine ⟨xs, a, c, rfl, ?_⟩
  have L2 : Lane w' N (if m < 2 then OF else OR) (if m < 2 then 70 else 71) fs clock ins (pt m) (q + 1) (tq m) (vo m) J' := by
    rw [e1, e2, ht.2, hp, hq]
    exact L'
  obtain ⟨m1, hor⟩ := mr.pushed hm L2 so
  have bl' : Below N X0 w' := bl.trans (so.sp.far3 (fun k hk => ((mr.ln m hm).lt k hk).1) mr.nle)
  refine ⟨Ds, nB, P, _, tq, vo, _, Or, lo, m1, so.rw_, so.sm, so.len, fun k hk => ⟨Nat.le_trans mr.nle (so.new k hk).1, (so.new k hk).2, hor k hk⟩, fun s hs => ?_, by rw [e1, hq]; exact hx, by rw [e1, hq]; exact hl, bl', hdl, hdx, hlo, hnb, ⟨rb, hp⟩⟩
  by_cases es : s = m
  · subst es
    rw [upd_eq, if_pos rfl]
    exact ⟨rfl, (hts _ hs).2⟩
  · rw [upd_ne _ _ es, if_neg es]
    exact hts s hs
theorem row_uniq {B n sz : Nat} {e : TypeId} {v : Value} {xs ys : List Value} (h : w.ownsRow B e sz v n xs) (k : w.ownsRow B e sz v n ys) : xs = ys := by
  rcases h.2 with ⟨h1, h2⟩ | ⟨g1, cap1, cur1, h1, -, h3, -, -, -, h7⟩
  · have a := h.1
    have b := k.1
    rw [h2, Nat.zero_mul] at a b
    rw [List.eq_nil_of_length_eq_zero a, List.eq_nil_of_length_eq_zero b]
  · rcases k.2 with ⟨k1, k2⟩ | ⟨g2, cap2, cur2, k1, -, k3, -, -, -, k7⟩
    · rw [h1] at k1; cases k1
    · rw [h1] at k1
      simp only [Value.slice.injEq, Option.some.injEq, Addr.mk.injEq, and_true, true_and] at k1
      obtain ⟨rfl, rfl⟩ := k1
      rw [h3] at k3
      simp only [Option.some.injEq, Obj.cells.injEq, and_true] at k3
      subst k3
      rw [← h7, ← k7]
theorem puS_take {q m c : Nat} {a : Option Addr} {xs : List EntD} (h : PuS w X0 N g go OF OR fs clock ins Ds0 ai ci zi Fi pt q m a c xs) (hm : m < 4) (hq : q ≤ 1048577) :
    Calls Tryz.prog 38 #[.pointer (some ⟨g, 0, none⟩), .slice a xs.length c] w fun r w' => r = .returned (.tuple #[]) ∧ ∃ ao no co, TaS w' X0 N g go OF OR fs clock ins Ds0 ai ci zi Fi pt q m a c xs ao no co := by
  obtain ⟨Ds, nB, P, ts, tq, vo, J, Or, lo, mr, rwx, sm, hl, hor, hts, hx, hxl, bl, hdl, hdx, hlo, hnb, hp⟩ := h
  obtain ⟨ao, co, hvo, hlm⟩ := hlo m hm
  obtain ⟨_, _, _, l0⟩ := hlo 0 (by omega)
  obtain ⟨_, _, _, l1⟩ := hlo 1 (by omega)
  obtain ⟨_, _, _, l2⟩ := hlo 2 (by omega)
  obtain ⟨_, _, _, l3⟩ := hlo 3 (by omega)
  refine Calls.mono (take_any mr.kpt mr.nle rwx (fun k hk => ⟨(hor k hk).2.2.1, (hor k hk).1, (hor k hk).2.1⟩) sm hl (by omega) (by omega)) ?_
  rintro r w' ⟨rfl, P', k', hP, sp, rx⟩
  obtain ⟨Dx, hDx⟩ := hdx
  refine ⟨rfl, ao, lo m, co, Ds ++ [xs.map EntD.dat], nB + 3 * xs.length, P', ts, tq, vo, J, Or, lo, mr.taken k' hP sp (fun k hk => (hor k hk).2.2.2), rx, sm, hl, hts, hx, hxl, bl.trans (sp.far3 (fun k hk => (mr.kpt.lt k hk).1) mr.nle), by rw [List.length_append, List.length_singleton]; omega, ⟨Dx ++ [xs.map EntD.dat], by rw [hDx, List.append_assoc]⟩, hlo, by omega, hp, hvo⟩
theorem TaS.later {q m c no co : Nat} {a ao : Option Addr} {xs : List EntD} (h : TaS w X0 N g go OF OR fs clock ins Ds0 ai ci zi Fi pt q m a c xs ao no co) (b : Below w.heap.size w w') : TaS w' X0 N g go OF OR fs clock ins Ds0 ai ci zi Fi pt q m a c xs ao no co := by
  obtain ⟨Ds, nB, P, ts, tq, vo, J, Or, lo, mr, rwx, sm, hl, hts, hx, hxl, bl, hdl, hdx, hlo, hnb, hp, hvo⟩ := h
  exact ⟨Ds, nB, P, ts, tq, vo, J, fun i => N ≤ i ∧ i < w.heap.size, lo, mr.keep b, rwx.rng.keep (fun i hi => b.block i hi.2), sm, hl, hts, hx, hxl, bl.trans (b.mono mr.nle), hdl, hdx, hlo, hnb, hp, hvo⟩
theorem TaS.facts {q m c no co : Nat} {a ao : Option Addr} {xs : List EntD} (h : TaS w X0 N g go OF OR fs clock ins Ds0 ai ci zi Fi pt q m a c xs ao no co) (hm : m < 4) : w.cell? ⟨go, m, none⟩ = some (.slice ao no co) ∧ w.frozen? ⟨go, m, none⟩ = false ∧ go < w.heap.size ∧ N ≤ w.heap.size ∧ RdL3 w a c xs ∧ (∀ x ∈ xs, Shrt x) ∧ xs.length ≤ 1048576 ∧ (∀ k, (Value.slice ao no co).ownBlock = some k → k ≠ go ∧ k < w.heap.size) ∧ ∃ os : List EntD, w.ownsRow N 84 7 (.slice ao no co) os.length (evals os) ∧ no = os.length ∧ no + xs.length ≤ 1048576 := by
  obtain ⟨Ds, nB, P, ts, tq, vo, J, Or, lo, mr, rwx, sm, hl, hts, hx, hxl, bl, hdl, hdx, hlo, hnb, ⟨rb, hp⟩, hvo⟩ := h
  have lm := mr.ln m hm
  obtain ⟨I, Z, os, h1, h2, h3, h4, h5, h6, h7, h8⟩ := lm.ex
  have ht := (hts m hm).2
  rw [if_neg (by omega), Nat.add_zero] at ht
  rw [hp, if_neg (by simp), ht] at h6
  have hb := mr.box
  have c0 : w.cell? ⟨go, m, none⟩ = some (vo m) := by
    simp only [World.cell?, hb]
    match m, hm with
    | 0, _ => rfl
    | 1, _ => rfl
    | 2, _ => rfl
    | 3, _ => rfl
  obtain ⟨a', c', e⟩ := rows_form3 h4.row
  have hno : no = os.length := by
    rw [hvo] at e
    simp only [Value.slice.injEq] at e
    exact e.2.1
  rw [hvo] at c0 h4
  refine ⟨c0, by simp [World.frozen?, hb], mr.lt.1.2, mr.nle, rwx.rdlS sm, fun x hx => (sm x hx).shr, hl, fun k hk => ⟨(mr.jp m k hm (h2 k (h4.rowO k hk))).2.2, (h4.row.lt k hk).2⟩, os, h4.row, hno, ?_⟩
  have q1 := congrArg List.length h6
  have q2 := congrArg List.length hx
  rw [List.length_map] at q1
  rw [List.length_append, List.length_map] at q2
  omega
theorem TaS.app {q m c no co : Nat} {a ao a' : Option Addr} {n' c' : Nat} {xs zs os : List EntD} {vz : Value} {w2 : World} (h : TaS w X0 N g go OF OR fs clock ins Ds0 ai ci zi Fi pt q m a c xs ao no co) (hm : m < 4) (ho : w.ownsRow N 84 7 (.slice ao no co) os.length (evals os)) (hno : no = os.length) (cl : Cl w w1 zs vz) (hd : zs.map EntD.dat = xs.map EntD.dat) (en : n' = (os ++ zs).length) (r : w2.ownsRow N 84 7 (.slice a' n' c') (os ++ zs).length (evals (os ++ zs))) (gr : w1.grownBy w2 (Value.slice ao no co).ownBlock) (lw : ∀ k, (Value.slice a' n' c').ownBlock = some k → (Value.slice ao no co).ownBlock = some k ∨ k = w1.heap.size) :
    MrS (w2.setCell ⟨go, m, none⟩ (.slice a' n' c')) X0 N g go OF OR fs clock ins Ds0 ai ci zi Fi pt q (m + 1) := by
  have hf := h.facts hm
  obtain ⟨Ds, nB, P, ts, tq, vo, J, Or, lo, mr, rwx, sm, hl, hts, hx, hxl, bl, hdl, hdx, hlo, hnb, ⟨rb, hp⟩, hvo⟩ := h
  have lm := mr.ln m hm
  have ht := hts m hm
  rw [if_pos rfl, if_neg (by omega), Nat.add_zero] at ht
  rw [ht.1, ht.2, hp] at lm
  have s1 := cl.below.size
  have s2 := gr.size
  have sz : (w2.setCell ⟨go, m, none⟩ (.slice a' n' c')).heap.size = w2.heap.size := World.size_setCell _ _ _
  have hgo := mr.lt.1.2
  have hzl : zs.length = xs.length := by
    have := congrArg List.length hd
    rw [List.length_map, List.length_map] at this
    exact this
  have nl : n' = no + xs.length := by rw [en, List.length_append, ← hno, hzl]
  have hlm : lo m = no := by
    obtain ⟨a1, c1, e, _⟩ := hlo m hm
    rw [hvo] at e
    simp only [Value.slice.injEq] at e
    exact e.2.1.symm
  have bn : no + xs.length ≤ 1048576 := by
    obtain ⟨_, _, _, _, _, _, _, _, os', _, _, z⟩ := hf
    exact z
  have vlt : ∀ k, (Value.slice ao no co).ownBlock = some k → k ≠ go ∧ k < w.heap.size := hf.2.2.2.2.2.2.2.1
  have L := lm.app (xs := xs) (u := .slice a' n' c') (tq' := q + 1) (w' := w2.setCell ⟨go, m, none⟩ (.slice a' n' c')) cl hd sm hx hxl mr.nle (fun os' ro => by
      have e1 := ro.row
      rw [hvo] at e1
      have e2 : os'.length = os.length := by
        obtain ⟨x1, x2, x3⟩ := rows_form3 e1
        simp only [Value.slice.injEq] at x3
        omega
      rw [e2] at e1
      have e3 := row_uniq e1 ho
      have e4 : evals (os' ++ zs) = evals (os ++ zs) := by rw [evals_app3, evals_app3, e3]
      rw [e4, List.length_append, e2, ← List.length_append]
      exact r) (by rw [hvo]; exact gr) (by rw [hvo]; exact lw) sz.symm (fun i hi => Below.heap_setCell _ _ _ _ (by
      show i ≠ go
      rcases hi with z | z
      · exact (mr.jp m i hm z).2.2
      · omega))
  have hb2 : w2.heap[go]? = some (.cells #[vo 0, vo 1, vo 2, vo 3] 79 (0, 0)) := ((gr.block go (by omega) (fun z => (vlt go z.symm).1 rfl)).trans (cl.below.block go hgo)).trans mr.box
  have hb3 : (w2.setCell ⟨go, m, none⟩ (.slice a' n' c')).heap[go]? = some (.cells #[upd vo m (.slice a' n' c') 0, upd vo m (.slice a' n' c') 1, upd vo m (.slice a' n' c') 2, upd vo m (.slice a' n' c') 3] 79 (0, 0)) := by
    match m, hm with
    | 0, _ => simp [World.setCell, Array.getElem?_modify, hb2, upd]
    | 1, _ => simp [World.setCell, Array.getElem?_modify, hb2, upd]
    | 2, _ => simp [World.setCell, Array.getElem?_modify, hb2, upd]
    | 3, _ => simp [World.setCell, Array.getElem?_modify, hb2, upd]
  have L2 : Lane (w2.setCell ⟨go, m, none⟩ (.slice a' n' c')) N (if m < 2 then OF else OR) (if m < 2 then 70 else 71) fs clock ins (pt m) (ts m) (q + 1) (.slice a' n' c') (fun k => J m k ∨ (w.heap.size ≤ k ∧ k < (w2.setCell ⟨go, m, none⟩ (.slice a' n' c')).heap.size)) := by
    rw [hp, ht.1]
    exact L
  have hvJ : ∀ k, (Value.slice ao no co).ownBlock = some k → J m k := fun k hk => by
    obtain ⟨I, Z, os', h1, h2, h3, h4, _⟩ := (mr.ln m hm).ex
    rw [hvo] at h4
    exact h2 k (h4.rowO k hk)
  have hsame : ∀ k, k < w.heap.size → ¬ J m k → k ≠ go → (w2.setCell ⟨go, m, none⟩ (.slice a' n' c')).heap[k]? = w.heap[k]? := fun k hk hj hg => (Below.heap_setCell _ _ _ _ hg).trans ((gr.block k (by omega) (fun z => hj (hvJ k z.symm))).trans (cl.below.block k hk))
  have M := mr.told hm L2 hb3 hsame (fun k hk => hk.imp id And.left) (by omega)
  refine ⟨Ds, nB, P, ts, upd tq m (q + 1), upd vo m (.slice a' n' c'), _, upd lo m n', M, fun s hs => ?_, ?_, by omega, hdx, fun s hs => ?_, ?_⟩
  · by_cases e : s = m
    · subst e
      rw [upd_eq, ht.1, if_pos (by omega)]
      exact ⟨rfl, rfl⟩
    · rw [upd_ne _ _ e]
      have := hts s hs
      rw [if_neg e] at this
      by_cases e2 : s < m
      · rw [if_pos e2] at this
        rw [if_pos (by omega)]
        exact this
      · rw [if_neg e2] at this
        rw [if_neg (by omega)]
        exact this
  · refine bl.trans ⟨gr.os.trans cl.below.os, gr.tape.trans cl.below.tape, gr.output.trans cl.below.output, by omega, fun k hk => ?_⟩
    have x1 := mr.nle
    have x2 : k < w.heap.size := Nat.lt_of_lt_of_le hk x1
    have x3 : ¬ J m k := fun z => absurd hk (Nat.not_lt.2 ((mr.ln m hm).lt k z).1)
    have x4 : k ≠ go := fun z => absurd hk (Nat.not_lt.2 (z ▸ mr.lt.1.1))
    exact hsame k x2 x3 x4
  · by_cases e : s = m
    · subst e
      rw [upd_eq, upd_eq]
      exact ⟨a', c', rfl, by omega⟩
    · rw [upd_ne _ _ e, upd_ne _ _ e]
      exact hlo s hs
  · have u0 : upd lo m n' 0 + upd lo m n' 1 + upd lo m n' 2 + upd lo m n' 3 = lo 0 + lo 1 + lo 2 + lo 3 + xs.length := by
      rw [nl]
      clear hb3 L2 L M hsame hts ht lm hvo hp hx hxl
      have hc : m = 0 ∨ m = 1 ∨ m = 2 ∨ m = 3 := by omega
      rcases hc with rfl | rfl | rfl | rfl
      · rw [upd_eq, upd_ne _ _ (by decide), upd_ne _ _ (by decide), upd_ne _ _ (by decide)]; omega
      · rw [upd_ne _ _ (by decide), upd_eq, upd_ne _ _ (by decide), upd_ne _ _ (by decide)]; omega
      · rw [upd_ne _ _ (by decide), upd_ne _ _ (by decide), upd_eq, upd_ne _ _ (by decide)]; omega
      · rw [upd_ne _ _ (by decide), upd_ne _ _ (by decide), upd_ne _ _ (by decide), upd_eq]; omega
    rw [u0]
    exact hnb
end
end Go.Proofs.YthhkpkfpifllkaaGreat
