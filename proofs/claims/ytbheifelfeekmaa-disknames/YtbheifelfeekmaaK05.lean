import Derived.Test.YtbheifelfeekmaaK04
import Derived.Sort.Walk0
namespace Go.Proofs.Ytbheifelfeekmaa
open Go.RowKit Go.MapKept Go.Sort
set_option linter.unusedVariables false
set_option linter.unusedSimpArgs false
variable {w w' W X : World} {O O' : Nat → Prop} {dB : Nat} {d : Dk4}
def ofL (l : List UInt8) : ByteArray := ⟨l.toArray⟩
theorem nmL_ofL (l : List UInt8) : nmL (ofL l) = l := by simp [nmL, ofL]
theorem ofL_nmL (s : ByteArray) : ofL (nmL s) = s := by
  cases s
  simp [nmL, ofL]
theorem RdN4.later {a : Option Addr} {k : Nat} {ss : List ByteArray} (h : RdN4 w a k ss) (b : Below w.heap.size w w') : RdN4 w' a k ss := by
  refine ⟨h.cap, fun i s hs => ?_⟩
  obtain ⟨g, off, e, hc⟩ := h.cel i s hs
  exact ⟨g, off, e, (b.cell (p := ⟨g, off + i, none⟩) (World.block_lt_of_cell? _ _ hc)).trans hc⟩
theorem OwnS.rd {B n k : Nat} {a : Option Addr} {ss : List (List UInt8)} (h : OwnS w B (.slice a n k) n ss) : n = ss.length ∧ RdN4 w a k (ss.map ofL) := by
  obtain ⟨rfl, h⟩ := h
  refine ⟨rfl, ?_⟩
  rcases h.2 with ⟨h1, h2⟩ | ⟨g, cap, cur, h1, h2, h3, h4, h5, h6, h7⟩
  · simp only [Value.slice.injEq] at h1
    obtain ⟨rfl, _, rfl⟩ := h1
    have : ss = [] := List.eq_nil_of_length_eq_zero h2
    subst this
    exact ⟨⟨by simp, by decide⟩, fun i s hs => by simp at hs⟩
  · simp only [Value.slice.injEq] at h1
    obtain ⟨rfl, _, rfl⟩ := h1
    refine ⟨⟨by simpa using h4, h5⟩, fun i s hs => ⟨g, 0, rfl, ?_⟩⟩
    rw [List.getElem?_map, Option.map_eq_some_iff] at hs
    obtain ⟨l, hl, rfl⟩ := hs
    have hi := (List.getElem?_eq_some_iff.1 hl).1
    have hx : (ss.map encStr)[i]? = some (encStr l) := by rw [List.getElem?_map, hl]; rfl
    rw [← h7, List.getElem?_take_of_lt (by omega)] at hx
    simp only [World.cell?, h3, Nat.zero_add]
    simpa [ofL] using hx
theorem leB_trans : ∀ a b c : List UInt8, leB a b = true → leB b c = true → leB a c = true := fun a b c h1 h2 => by simp only [leB, decide_eq_true_eq] at *; exact List.le_trans h1 h2
theorem leB_total : ∀ a b : List UInt8, (leB a b || leB b a) = true := fun a b => by simp only [leB, Bool.or_eq_true, decide_eq_true_eq]; exact List.le_total a b
theorem nmL_inj {a b : ByteArray} (h : nmL a = nmL b) : a = b := by rw [← ofL_nmL a, h, ofL_nmL]
theorem preB_nil (s : ByteArray) : preB ⟨#[]⟩ s = true := by
  unfold preB
  have : (⟨#[]⟩ : ByteArray).size = 0 := rfl
  rw [if_pos (by omega), this]
  have e : s.extract 0 0 = ⟨#[]⟩ := by
    apply ByteArray.ext
    simp
  rw [e]
  simp
theorem lsP_lt {ps : List PF} {pre : ByteArray} (hn : (ps.map (·.1)).Nodup) : (lsP ps pre).Pairwise (· < ·) := by
  have h1 : (lsP ps pre).Pairwise (fun a b => leB a b = true) := List.pairwise_mergeSort leB_trans leB_total _
  have h2 : (lsP ps pre).Nodup := by
    refine (List.mergeSort_perm _ leB).symm.nodup ?_
    have : ((ps.map (·.1)).filter (preB pre)).Nodup := hn.sublist List.filter_sublist
    rw [List.Nodup, List.pairwise_map]
    exact this.imp (fun h e => h (nmL_inj e))
  have h3 : (lsP ps pre).Pairwise (fun a b => leB a b = true ∧ a ≠ b) := List.Pairwise.and h1 h2
  refine h3.imp (fun {a b} h => ?_)
  have : a ≤ b := by simpa [leB] using h.1
  exact Std.lt_of_le_of_ne this h.2
theorem lsP_pre (ps : List PF) (pre : ByteArray) : lsP ps pre = (lsP ps ⟨#[]⟩).filter (fun l => preB pre (ofL l)) := by
  have hs : ((lsP ps ⟨#[]⟩).filter (fun l => preB pre (ofL l))).Pairwise (fun a b => leB a b = true) := (List.pairwise_mergeSort leB_trans leB_total _).sublist List.filter_sublist
  have e1 : ((lsP ps ⟨#[]⟩).filter (fun l => preB pre (ofL l))).mergeSort leB = (lsP ps ⟨#[]⟩).filter (fun l => preB pre (ofL l)) := List.mergeSort_of_pairwise hs
  rw [← e1]
  unfold lsP
  refine mergeSort_of_perm ?_
  have p1 : ((((ps.map (·.1)).filter (preB ⟨#[]⟩)).map nmL).mergeSort leB).Perm (((ps.map (·.1)).filter (preB ⟨#[]⟩)).map nmL) := List.mergeSort_perm _ _
  refine List.Perm.trans ?_ (p1.filter _).symm
  have e2 : (ps.map (·.1)).filter (preB ⟨#[]⟩) = ps.map (·.1) := List.filter_eq_self.2 (fun a _ => preB_nil a)
  rw [e2]
  obtain ⟨ns, hns⟩ : ∃ ns, ns = ps.map (·.1) := ⟨_, rfl⟩
  rw [← hns]
  have e3 : ((fun l => preB pre (ofL l)) ∘ nmL) = preB pre := by
    funext s
    simp [ofL_nmL]
  rw [List.filter_map, e3]
theorem begL_pre (p s : ByteArray) : begL (numL p) (numL s) = preB p s := by
  unfold begL preB
  rw [numL_len, numL_len]
  by_cases h : p.size ≤ s.size
  · rw [if_pos h]
    have e : ((s.extract 0 p.size).toList == p.toList) = decide ((nmL s).take p.size = nmL p) := by
      rw [ByteArray.toList_eq, ByteArray.toList_eq]
      have : (s.extract 0 p.size).data.toList = (nmL s).take p.size := by
        simp [nmL, ByteArray.data_extract]
      rw [this]
      by_cases hh : (nmL s).take p.size = nmL p
      · rw [hh]
        simp [nmL]
      · simp only [hh, decide_false]
        simpa [nmL] using hh
    rw [e]
    have inj : ∀ a b : List UInt8, a.map UInt8.toNat = b.map UInt8.toNat ↔ a = b := fun a b => ⟨fun q => (List.map_inj_right (fun x y z => UInt8.toNat_inj.1 z)).1 q, fun q => by rw [q]⟩
    have : (numL p = (numL s).take p.size) ↔ ((nmL s).take p.size = nmL p) := by
      unfold numL
      rw [← List.map_take, inj]
      exact eq_comm
    simp [h, this]
  · rw [if_neg h]
    simp [h]
theorem list_dsk (hD : Dsk w O dB d) (pre : ByteArray) : Calls Try.prog 10 #[.pointer (some ⟨dB, 0, none⟩), .string pre] w fun e w' => ∃ a n k, e = .returned (.slice a n k) ∧ OwnS w' w.heap.size (.slice a n k) n (lsP d.fs pre) ∧ Below w.heap.size w w' := by
  obtain ⟨ok, mb, fl, hM, hfl⟩ := hD
  have := list_any hM pre (by have := ok.cnt; rw [← hfl, List.length_map] at this; exact this)
  rw [hfl] at this
  exact this
end Go.Proofs.Ytbheifelfeekmaa
