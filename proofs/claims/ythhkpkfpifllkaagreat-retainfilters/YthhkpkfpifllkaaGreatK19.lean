import Derived.Test.YthhkpkfpifllkaaGreatK18
namespace Go.Proofs.YthhkpkfpifllkaaGreat
open Go.RowKit Go.Maps
set_option linter.unusedVariables false

set_option maxRecDepth 100000 in
set_option maxHeartbeats 2000000 in
theorem refOut_any {w : World} (v : Int) : Calls Tryz.prog 87 #[.int .i64 v] w fun r w' => r = .returned (.bool (badT v)) ∧ w' = w := by
  obtain ⟨q, hq⟩ : ∃ q, q = badT v := ⟨_, rfl⟩
  rw [← hq]
  have HQ : Hid (q = (decide (v < 0) || decide (1099511627776 < v))) := by
    unfold Hid
    rw [hq]
    rfl
  clear hq
  go_enter Tryz.func87, Tryz.ntmps87
  by_cases c1 : v < 0
  · have d1 : decide (v < 0) = true := decide_eq_true c1
    have q' : Hid (q = true) := by unfold Hid; rw [HQ.out]; simp [c1]
    clear HQ
    go_wp2
    go_ret
    exact ⟨by rw [q'.out]; rfl, rfl⟩
  · by_cases c2 : 1099511627776 < v
    · have d1 : decide (1099511627776 < v) = true := decide_eq_true c2
      have q' : Hid (q = true) := by unfold Hid; rw [HQ.out]; simp [c2]
      clear HQ
      go_wp2
      go_ret
      exact ⟨by rw [q'.out]; rfl, rfl⟩
    · have d1 : decide (1099511627776 < v) = false := decide_eq_false c2
      have q' : Hid (q = false) := by unfold Hid; rw [HQ.out]; simp [c1, c2]
      clear HQ
      go_wp2
      go_ret
      exact ⟨by rw [q'.out]; rfl, rfl⟩
def askE (C : Nat) (fs : List FamD) (clock low t n : Int) (l : List EntD) : Int := if C ≠ 0 then (C : Int) else if (badT clock || badT low || badT t || decide (n < 1) || decide (16 < n)) = true then 32 else inOrderE (check3S fs.length) l
set_option maxRecDepth 100000 in
set_option maxHeartbeats 8000000 in
theorem refAsked_any {w : World} {fa a : Option Addr} {fc cap : Nat} {fs : List FamD} {l : List EntD} (hr : RdF w (.slice fa fs.length fc) fs) (C : Nat) (hC : (C = 0 ↔ SchemaOk fs) ∧ (C = 0 ∨ C = 28)) (clock low t n : Int) (hl : RdL3 w a cap l) (hn : l.length ≤ 1353245080300) :
    Calls Tryz.prog 52 #[.agg #[.slice fa fs.length fc], .int .i64 clock, .int .i64 low, .int .i64 t, .int .i64 n, .slice a l.length cap] w fun r w' => r = .returned (.int .i64 (askE C fs clock low t n l)) ∧ Below w.heap.size w w' := by
  obtain ⟨W, hW, A, hb⟩ := sch_box w fa fs.length fc
  have HS := Lib.hid (refCheckSchema_is (hr.later A) C hC)
  have HK := Lib.hid (fun (Z : World) (b : Below W.heap.size W Z) => refChecked_any (fs.length : Int) (hl.later (A.trans (b.mono A.size))) hn)
  have eK : inOrderE (chkF (fs.length : Int)) l = inOrderE (check3S fs.length) l := by
    congr 1
    funext x
    exact chkF_k _ x
  obtain ⟨E, hE⟩ : ∃ E, E = inOrderE (check3S fs.length) l := ⟨_, rfl⟩
  rw [eK, ← hE] at HK
  obtain ⟨R, hR⟩ : ∃ R, R = askE C fs clock low t n l := ⟨_, rfl⟩
  rw [← hR]
  have HR : Hid (R = if C ≠ 0 then (C : Int) else if (badT clock || badT low || badT t || decide (n < 1) || decide (16 < n)) = true then 32 else E) := by
    unfold Hid
    rw [hR, hE]
    rfl
  obtain ⟨N, hN⟩ : ∃ N, N = l.length := ⟨_, rfl⟩
  obtain ⟨K, hK⟩ : ∃ K, K = fs.length := ⟨_, rfl⟩
  rw [← hN, ← hK] at HK
  rw [← hK] at HS hb hW
  rw [← hN, ← hK]
  have HW := Lib.hid hW
  have HA := Lib.hid A
  have HB := Lib.hid hb
  have HO : Hid (∀ (v : Int) (Z : World), Calls Tryz.prog 87 #[.int .i64 v] Z fun r w' => r = .returned (.bool (badT v)) ∧ w' = Z) := fun v Z => refOut_any v
  obtain ⟨bt, hbt⟩ : ∃ f : Int → Bool, f = badT := ⟨_, rfl⟩
  rw [← hbt] at HO HR
  clear hW A hb hN hK hl hr hR hE eK hbt hC hn
  go_enter Tryz.func52, Tryz.ntmps52
  go_upto_region 1 with fail
  rw [← HW.out]
  clear HW
  have s0 := HB.out _ (Below.refl _ _)
  go_wp2_with fail
  refine Calls.mono HS.out ?_
  rintro r w1 ⟨rfl, b1⟩
  have B1 := Lib.hid b1
  have s1 := HB.out _ b1
  clear s0 b1
  by_cases c0 : C = 0
  · subst c0
    rw [if_neg (by simp)] at HR
    have H1 := Lib.hid (fun (Z : World) => HO.out clock Z)
    have H2 := Lib.hid (fun (Z : World) => HO.out low Z)
    have H3 := Lib.hid (fun (Z : World) => HO.out t Z)
    cases e1 : bt clock with
    | true =>
      rw [e1] at H1 HR
      have q : Hid (R = 32) := by unfold Hid; rw [HR.out]; simp []
      clear HR
      go_wp2_with (first | (have hq := T2; clear hq; (go_at_call 87; refine Calls.mono (H3.out _) ?_; rintro r w' ⟨rfl, rfl⟩)) | (have hq := T1; clear hq; (go_at_call 87; refine Calls.mono (H2.out _) ?_; rintro r w' ⟨rfl, rfl⟩; have T2 : True := trivial)) | (go_at_call 87; refine Calls.mono (H1.out _) ?_; rintro r w' ⟨rfl, rfl⟩; have T1 : True := trivial))
      go_ret
      exact ⟨by rw [q.out]; rfl, HA.out.trans (B1.out.mono HA.out.size)⟩
    | false =>
      rw [e1] at H1 HR
      cases e2 : bt low with
      | true =>
        rw [e2] at H2 HR
        have q : Hid (R = 32) := by unfold Hid; rw [HR.out]; simp []
        clear HR
        go_wp2_with (first | (have hq := T2; clear hq; (go_at_call 87; refine Calls.mono (H3.out _) ?_; rintro r w' ⟨rfl, rfl⟩)) | (have hq := T1; clear hq; (go_at_call 87; refine Calls.mono (H2.out _) ?_; rintro r w' ⟨rfl, rfl⟩; have T2 : True := trivial)) | (go_at_call 87; refine Calls.mono (H1.out _) ?_; rintro r w' ⟨rfl, rfl⟩; have T1 : True := trivial))
        go_ret
        exact ⟨by rw [q.out]; rfl, HA.out.trans (B1.out.mono HA.out.size)⟩
      | false =>
        rw [e2] at H2 HR
        cases e3 : bt t with
        | true =>
          rw [e3] at H3 HR
          have q : Hid (R = 32) := by unfold Hid; rw [HR.out]; simp []
          clear HR
          go_wp2_with (first | (have hq := T2; clear hq; (go_at_call 87; refine Calls.mono (H3.out _) ?_; rintro r w' ⟨rfl, rfl⟩)) | (have hq := T1; clear hq; (go_at_call 87; refine Calls.mono (H2.out _) ?_; rintro r w' ⟨rfl, rfl⟩; have T2 : True := trivial)) | (go_at_call 87; refine Calls.mono (H1.out _) ?_; rintro r w' ⟨rfl, rfl⟩; have T1 : True := trivial))
          go_ret
          exact ⟨by rw [q.out]; rfl, HA.out.trans (B1.out.mono HA.out.size)⟩
        | false =>
          rw [e3] at H3 HR
          by_cases c4 : n < 1
          · have d4 : decide (n < 1) = true := decide_eq_true c4
            have q : Hid (R = 32) := by unfold Hid; rw [HR.out]; simp [c4]
            clear HR
            go_wp2_with (first | (have hq := T2; clear hq; (go_at_call 87; refine Calls.mono (H3.out _) ?_; rintro r w' ⟨rfl, rfl⟩)) | (have hq := T1; clear hq; (go_at_call 87; refine Calls.mono (H2.out _) ?_; rintro r w' ⟨rfl, rfl⟩; have T2 : True := trivial)) | (go_at_call 87; refine Calls.mono (H1.out _) ?_; rintro r w' ⟨rfl, rfl⟩; have T1 : True := trivial))
            go_ret
            exact ⟨by rw [q.out]; rfl, HA.out.trans (B1.out.mono HA.out.size)⟩
          · have d4 : decide (n < 1) = false := decide_eq_false c4
            by_cases c5 : 16 < n
            · have d5 : decide (16 < n) = true := decide_eq_true c5
              have q : Hid (R = 32) := by unfold Hid; rw [HR.out]; simp [c5]
              clear HR
              go_wp2_with (first | (have hq := T2; clear hq; (go_at_call 87; refine Calls.mono (H3.out _) ?_; rintro r w' ⟨rfl, rfl⟩)) | (have hq := T1; clear hq; (go_at_call 87; refine Calls.mono (H2.out _) ?_; rintro r w' ⟨rfl, rfl⟩; have T2 : True := trivial)) | (go_at_call 87; refine Calls.mono (H1.out _) ?_; rintro r w' ⟨rfl, rfl⟩; have T1 : True := trivial))
              go_ret
              exact ⟨by rw [q.out]; rfl, HA.out.trans (B1.out.mono HA.out.size)⟩
            · have d5 : decide (16 < n) = false := decide_eq_false c5
              have q : Hid (R = E) := by unfold Hid; rw [HR.out]; simp [c4, c5]
              clear HR
              go_wp2_with (first | (have hq := T2; clear hq; (go_at_call 87; refine Calls.mono (H3.out _) ?_; rintro r w' ⟨rfl, rfl⟩)) | (have hq := T1; clear hq; (go_at_call 87; refine Calls.mono (H2.out _) ?_; rintro r w' ⟨rfl, rfl⟩; have T2 : True := trivial)) | (go_at_call 87; refine Calls.mono (H1.out _) ?_; rintro r w' ⟨rfl, rfl⟩; have T1 : True := trivial))
              refine Calls.mono (HK.out _ B1.out) ?_
              rintro r w2 ⟨rfl, b2⟩
              have B2 := Lib.hid (B1.out.trans (b2.mono B1.out.size))
              clear b2
              go_wp2
              go_ret
              exact ⟨by rw [q.out]; rfl, HA.out.trans (B2.out.mono HA.out.size)⟩
  · have q : Hid (R = C) := by unfold Hid; rw [HR.out, if_pos c0]
    have n1 : ((C : Int) != 0) = true := by simpa using c0
    go_wp2
    go_ret
    exact ⟨by rw [q.out]; rfl, HA.out.trans (B1.out.mono HA.out.size)⟩
end Go.Proofs.YthhkpkfpifllkaaGreat

namespace Go.Proofs.YthhkpkfpifllkaaGreat
open Go.RowKit Go.Maps
set_option linter.unusedVariables false

theorem lu_of {fs : List FamD} {l : List En} {zs : List EntD} (hS : SchemaOk fs) (h : IsOrd fs.length l (zs.map EntD.dat)) : LU fs zs := by
  refine ⟨h.va, fun x hx => ?_, fun f hf => ?_⟩
  · have ck : check3S fs.length x = 0 := by rw [check_dat]; exact h.ck x.dat (List.mem_map_of_mem hx)
    have := check_zero.1 ck
    exact ⟨by omega, by omega, by omega, by omega⟩
  · obtain ⟨i, hi⟩ := List.mem_iff_getElem?.1 hf
    exact (hS.2 i f hi).1.2.2
theorem shrt_ord {k : Nat} {l : List En} {zs : List EntD} (h : IsOrd k l (zs.map EntD.dat)) : ∀ x ∈ zs, Shrt x := fun x hx => shrt_check (k := k) (by rw [check_dat]; exact h.ck x.dat (List.mem_map_of_mem hx))
theorem askE_ok {C : Nat} {fs : List FamD} {clock low t n : Int} {l : List EntD} (h : askE C fs clock low t n l = 0) : C = 0 ∧ inOrderE (check3S fs.length) l = 0 := by
  unfold askE at h
  by_cases c : C = 0
  · rw [if_neg (by simpa using c)] at h
    split at h
    · cases h
    · exact ⟨c, h⟩
  · rw [if_pos c] at h
    omega
theorem ordered_ok {W : World} {a : Option Addr} {cap : Nat} {fs : List FamD} {l : List EntD} (hl : RdL3 W a cap l) (hn : l.length ≤ 1353245080300) (hio : inOrderE (check3S fs.length) l = 0) (hS : SchemaOk fs) :
    Calls Tryz.prog 51 #[.slice a l.length cap] W fun r W' => ∃ (zs : List EntD) (a' : Option Addr) (c' : Nat), r = .returned (.slice a' zs.length c') ∧ Below W.heap.size W W' ∧ IsOrd fs.length (l.map EntD.dat) (zs.map EntD.dat) ∧ LU fs zs ∧ (∀ x ∈ zs, Shrt x) ∧ RdL3 W' a' c' zs ∧ zs.length ≤ l.length := by
  obtain ⟨hall, xs, hx⟩ := inOrder_ok hio
  refine Calls.mono (refOrdered_any hl (fun x hx => shrt_check (hall x hx)) ((oneS_once l).2 (by rw [hx]; simp)) hn) ?_
  rintro r W' ⟨v, zs, rfl, hod, hle⟩
  have ho := hod.ord hio
  obtain ⟨a', c', rfl, -, -, hrd⟩ := hod.rd
  exact ⟨zs, a', c', rfl, hod.below, ho, lu_of hS ho, shrt_ord ho, hrd, hle⟩
theorem Vw.low {W W1 W' : World} {zs : List EntD} {v : Value} {p : List En} (h : Vw W1 W' zs v p) (b : Below W.heap.size W W1) : Vw W W' zs v p :=
  ⟨row_low h.row b.size, fun x hx => (h.ents x hx).low b.size, b.trans (h.below.mono b.size), h.dat, h.by_⟩
end Go.Proofs.YthhkpkfpifllkaaGreat

namespace Go.Proofs.YthhkpkfpifllkaaGreat
open Go.RowKit Go.Maps
set_option linter.unusedVariables false

end Go.Proofs.YthhkpkfpifllkaaGreat

namespace Go.Proofs.YthhkpkfpifllkaaGreat
open Go.RowKit Go.Maps
set_option linter.unusedVariables false

end Go.Proofs.YthhkpkfpifllkaaGreat

namespace Go.Proofs.YthhkpkfpifllkaaGreat
open Go.RowKit Go.Maps
set_option linter.unusedVariables false

def wideL : List Nat := [91, 92, 93, 94, 95]
set_option maxRecDepth 100000 in
set_option maxHeartbeats 1000000 in
theorem wide3_any {v : Value} {L : List Nat} {w : World} (hr : Rd w v L) (hl : L.length ≤ 140737488351232) :
    Calls Tryz.prog 46 #[v] w fun e w' => ∃ a m c, e = .returned (.slice a m c) ∧ Own w' w.heap.size (.slice a m c) m (L ++ wideL) ∧ Below w.heap.size w w' := by
  have HC := Lib.hid (copied3_any hr (by omega))
  have HL := Lib.hid hl
  clear hr hl
  go_enter Tryz.func46, Tryz.ntmps46
  go_wp2_with fail
  refine Calls.mono HC.out ?_
  rintro z w1 ⟨a1, m1, c1, rfl, own1, b1⟩
  have hm1 : m1 ≤ 140737488351232 := by have := own1.1; have := HL.out; omega
  go_wp2_with (at_builtin; refine wpList_append_new rfl _ _ rfl w.heap.size _ _ _ _ rfl own1 _ 5 rfl wideL (by simp [bv, wideL]) rfl (by omega) b1.size ?_; intro a2 m2 c2 w2 own2 b2)
  go_ret
  exact ⟨a2, m2, c2, rfl, by simpa using own2, b1.trans b2⟩
theorem rd_lit {w : World} {g n : Nat} {bs : List Nat} (hn : n = bs.length) (hb : Bys bs) (hl : bs.length ≤ 1000) (h : ∀ i, i < bs.length → w.cell? ⟨g, i, none⟩ = some (.int .u8 ((bs.getD i 0 : Nat) : Int))) : Rd w (.slice (some ⟨g, 0, none⟩) n n) bs := by
  subst hn
  exact ⟨hb, _, _, rfl, Nat.le_refl _, by unfold maxLen; omega, by omega, .inr ⟨g, 0, rfl⟩, .inr ⟨g, 0, rfl, fun i hi => by rw [Nat.zero_add]; exact h i hi⟩⟩
theorem wide_bys : Bys wideL := by intro x hx; simp [wideL] at hx; omega
set_option maxRecDepth 100000 in
set_option maxHeartbeats 1000000 in
theorem kept3_any {g off n c : Nat} {a0 : Option Addr} {c0 : Nat} {L : List Nat} {w : World} (hw : Rd w (.slice (some ⟨g, off, none⟩) (n + 5) c) (L ++ wideL)) (hr : Rd w (.slice a0 n c0) L) :
    Calls Tryz.prog 64 #[.slice (some ⟨g, off, none⟩) (n + 5) c, .slice a0 n c0] w fun e w' => e = .returned (.bool true) ∧ Below w.heap.size w w' := by
  obtain ⟨hn, hle0, hc0, hl0⟩ := rd_lens hr
  obtain ⟨hn5, hle5, hc5, hl5⟩ := rd_lens hw
  have RU := hw.upto n (by omega)
  rw [show (L ++ wideL).take n = L by rw [hn]; simp] at RU
  have hcm : c ≤ 9223372036854775807 := hc5
  have H1 : Hid (∀ wx, Below w.heap.size w wx → Calls Tryz.prog 78 #[.slice (some ⟨g, off, none⟩) n c, .slice a0 n c0] wx fun e w' => e = .returned (.bool true) ∧ w' = wx) := by
    have h : ∀ wx, Below w.heap.size w wx → Calls Tryz.prog 78 #[.slice (some ⟨g, off, none⟩) n c, .slice a0 n c0] wx fun e w' => e = .returned (.bool true) ∧ w' = wx := fun wx hx =>
      (alike_any (RU.later hx) (hr.later hx)).mono fun e w' h => ⟨by rw [h.1]; simp, h.2⟩
    exact h
  have HW : Hid (Rd w (.slice (some ⟨g, off, none⟩) (n + 5) c) (L ++ wideL)) := hw
  have HN : Hid (n = L.length) := hn
  clear hw hr hn RU hn5
  go_enter Tryz.func64, Tryz.ntmps64
  go_wp2_with (go_at_call_of 78 (Value.slice (some ⟨g, off, none⟩) n c); refine Calls.mono (H1.out _ (Below.refl _ _)) ?_; rintro e1 w1 ⟨rfl, rfl⟩)
  have bm : Below w1.heap.size w1 (w1.alloc (.cells #[.int .u8 91, .int .u8 92, .int .u8 93, .int .u8 94, .int .u8 95] 5)) := (Below.refl _ _).alloc (Nat.le_refl _) _
  have RP := (HW.out.past n (by omega) (off' := off + n) (n' := 5) (cap' := c - n) rfl (by omega) rfl).later bm
  rw [show (L ++ wideL).drop n = wideL by rw [HN.out]; simp] at RP
  have RM : Rd (w1.alloc (.cells #[.int .u8 91, .int .u8 92, .int .u8 93, .int .u8 94, .int .u8 95] 5)) (.slice (some ⟨w1.heap.size, 0, none⟩) 5 5) wideL := by
    refine rd_lit rfl wide_bys (by decide) fun i hi => ?_
    have h5 : i < 5 := hi
    match i, h5 with
    | 0, _ => exact cell_at9 (heap_new9 _ _ rfl) rfl
    | 1, _ => exact cell_at9 (heap_new9 _ _ rfl) rfl
    | 2, _ => exact cell_at9 (heap_new9 _ _ rfl) rfl
    | 3, _ => exact cell_at9 (heap_new9 _ _ rfl) rfl
    | 4, _ => exact cell_at9 (heap_new9 _ _ rfl) rfl
  refine Calls.mono (alike_any RP RM) ?_
  rintro e2 w2 ⟨rfl, rfl⟩
  rw [show decide (wideL = wideL) = true by simp]
  go_wp2
  go_ret
  exact ⟨rfl, bm⟩
end Go.Proofs.YthhkpkfpifllkaaGreat

namespace Go.Proofs.YthhkpkfpifllkaaGreat
open Go.RowKit Go.Maps
set_option linter.unusedVariables false

def ShrtW (e : EntD) : Prop := e.row.length ≤ 140737488351232 ∧ e.qual.length ≤ 140737488351232 ∧ e.val.length ≤ 140737488351232
theorem ShrtW.sh {e : EntD} (h : ShrtW e) : Shrt e := ⟨by have := h.1; omega, by have := h.2.1; omega, by have := h.2.2; omega⟩
theorem rd_none (w : World) : Rd w (.slice none 0 0) [] := Own.rd (B := 0) ⟨rfl, World.ownsRow_nil w 0 5 1⟩ (fun x hx => by cases hx) (by simp)
def Tyd (w : World) (g : Nat) (ty : TypeId) : Prop := ∃ cur fr, w.heap[g]? = some (.cells cur ty fr)
theorem row_tyd {w : World} {B n s g : Nat} {e : TypeId} {v : Value} {xs : List Value} (h : w.ownsRow B e s v n xs) (hg : v.ownBlock = some g) : Tyd w g e := by
  rcases h.2 with ⟨rfl, _⟩ | ⟨g1, cap, cur, rfl, _, hh, _⟩
  · simp [Value.ownBlock] at hg
  · simp only [Value.ownBlock, Option.some.injEq] at hg
    subst hg
    exact ⟨cur, _, hh⟩
theorem Tyd.ne {w : World} {g g' : Nat} {e e' : TypeId} (h : Tyd w g e) (h' : Tyd w g' e') (hne : e ≠ e') : g ≠ g' := fun z => by
  subst z
  obtain ⟨c, f, h⟩ := h
  obtain ⟨c', f', h'⟩ := h'
  rw [h] at h'
  simp only [Option.some.injEq, Obj.cells.injEq] at h'
  exact hne h'.2.1
theorem Tyd.lt {w : World} {g : Nat} {e : TypeId} (h : Tyd w g e) : g < w.heap.size := by
  obtain ⟨c, f, h⟩ := h
  exact (Array.getElem?_eq_some_iff.1 h).1
structure Wd (w : World) (B : Nat) (v u : Value) (bs : List Nat) : Prop where
  form : ∃ g c, v = .slice (some ⟨g, 0, none⟩) bs.length c ∧ u = .slice (some ⟨g, 0, none⟩) (bs.length + 5) c
  own : Own w B u (bs.length + 5) (bs ++ wideL)
theorem Wd.keep {w w' : World} {B : Nat} {v u : Value} {bs : List Nat} (h : Wd w B v u bs) (k : ∀ g, u.ownBlock = some g → w'.heap[g]? = w.heap[g]?) : Wd w' B v u bs := ⟨h.form, own_same h.own k⟩
theorem Wd.rdu {w : World} {B : Nat} {v u : Value} {bs : List Nat} (h : Wd w B v u bs) (hb : Bys bs) (hl : bs.length ≤ 140737488351232) : Rd w u (bs ++ wideL) :=
  h.own.rd (fun x hx => (List.mem_append.1 hx).elim (hb x) (wide_bys x)) (by omega)
theorem Wd.rd {w : World} {B : Nat} {v u : Value} {bs : List Nat} (h : Wd w B v u bs) (hb : Bys bs) (hl : bs.length ≤ 140737488351232) : Rd w v bs := by
  have r := h.rdu hb hl
  obtain ⟨g, c, rfl, rfl⟩ := h.form
  have := r.upto bs.length (by omega)
  rwa [show (bs ++ wideL).take bs.length = bs by simp] at this
structure Re (w : World) (B : Nat) (x y : EntD) (u1 u2 u3 : Value) : Prop where
  dat : y.dat = x.dat
  r : Wd w B y.vr u1 x.row
  q : Wd w B y.vq u2 x.qual
  v : Wd w B y.vv u3 x.val
theorem Re.keep {w w' : World} {B : Nat} {x y : EntD} {u1 u2 u3 : Value} (h : Re w B x y u1 u2 u3) (k : ∀ g, Tyd w g 5 → w'.heap[g]? = w.heap[g]?) : Re w' B x y u1 u2 u3 :=
  ⟨h.dat, h.r.keep (fun g hg => k g (row_tyd h.r.own.2 hg)), h.q.keep (fun g hg => k g (row_tyd h.q.own.2 hg)), h.v.keep (fun g hg => k g (row_tyd h.v.own.2 hg))⟩
theorem Re.ok {w : World} {B : Nat} {x y : EntD} {u1 u2 u3 : Value} (h : Re w B x y u1 u2 u3) (hb : ByE x.dat) (hs : ShrtW x) : EntD.Ok w y := by
  obtain ⟨yr, yf, yq, yt, ys, yk, yv, yrow, yqual, yval⟩ := y
  have e1 : yrow = x.row := congrArg En.row h.dat
  have e2 : yqual = x.qual := congrArg En.qual h.dat
  have e3 : yval = x.val := congrArg En.val h.dat
  subst e1 e2 e3
  exact ⟨h.r.rd hb.1.1 hs.1, h.q.rd hb.1.2.1 hs.2.1, h.v.rd hb.1.2.2 hs.2.2⟩
theorem Re.one {w : World} {B : Nat} {x y : EntD} {u1 u2 u3 : Value} (h : Re w B x y u1 u2 u3) : ∀ u ∈ y.cells.toList, u.oneCell' = true := by
  obtain ⟨g1, c1, e1, _⟩ := h.r.form
  obtain ⟨g2, c2, e2, _⟩ := h.q.form
  obtain ⟨g3, c3, e3, _⟩ := h.v.form
  unfold EntD.cells
  rw [e1, e2, e3]
  intro u hu
  simp at hu
  rcases hu with rfl | rfl | rfl | rfl | rfl | rfl | rfl <;> rfl
def RBx (w : World) (g : Nat) (vL vW : Value) : Prop := w.heap[g]? = some (.cells #[vL, vW] 37 (0, 0))
theorem RBx.c0 {w : World} {g : Nat} {vL vW : Value} (h : RBx w g vL vW) : w.cell? ⟨g, 0, none⟩ = some vL := by unfold RBx at h; simp [World.cell?, h]
theorem RBx.c1 {w : World} {g : Nat} {vL vW : Value} (h : RBx w g vL vW) : w.cell? ⟨g, 1, none⟩ = some vW := by unfold RBx at h; simp [World.cell?, h]
theorem RBx.fz {w : World} {g : Nat} {vL vW : Value} (h : RBx w g vL vW) (i : Nat) : w.frozen? ⟨g, i, none⟩ = false := by unfold RBx at h; simp [World.frozen?, h]
theorem RBx.set0 {w : World} {g : Nat} {vL vW : Value} (h : RBx w g vL vW) (u : Value) : RBx (w.setCell ⟨g, 0, none⟩ u) g u vW := by
  unfold RBx at *
  simp [World.setCell, Array.getElem?_modify, h]
theorem RBx.set1 {w : World} {g : Nat} {vL vW : Value} (h : RBx w g vL vW) (u : Value) : RBx (w.setCell ⟨g, 1, none⟩ u) g vL u := by
  unfold RBx at *
  simp [World.setCell, Array.getElem?_modify, h]
theorem RBx.tyd {w : World} {g : Nat} {vL vW : Value} (h : RBx w g vL vW) : Tyd w g 37 := ⟨_, _, h⟩
def Apt (u v : Value) : Prop := ∀ g, u.ownBlock = some g → v.ownBlock ≠ some g
theorem ap3 {us : List Value} {u1 u2 u3 : Value} {s0 s1 s2 : Nat} (h : us.Pairwise Apt) (h0 : ∀ u ∈ us, ∀ g, u.ownBlock = some g → g < s0) (h1 : ∀ g, u1.ownBlock = some g → s0 ≤ g ∧ g < s1) (h2 : ∀ g, u2.ownBlock = some g → s1 ≤ g ∧ g < s2) (h3 : ∀ g, u3.ownBlock = some g → s2 ≤ g) (k1 : s0 ≤ s1) (k2 : s1 ≤ s2) : (us ++ [u1, u2, u3]).Pairwise Apt := by
  rw [List.pairwise_append]
  refine ⟨h, ?_, fun u hu v hv g e1 e2 => ?_⟩
  · refine List.Pairwise.cons (fun v hv g e1 e2 => ?_) (List.Pairwise.cons (fun v hv g e1 e2 => ?_) (List.pairwise_singleton _ _))
    · have a1 := h1 g e1
      simp only [List.mem_cons, List.not_mem_nil, or_false] at hv
      rcases hv with rfl | rfl
      · have := h2 g e2; omega
      · have := h3 g e2; omega
    · have a1 := h2 g e1
      simp only [List.mem_cons, List.not_mem_nil, or_false] at hv
      subst hv
      have := h3 g e2; omega
  · have a1 := h0 u hu g e1
    simp only [List.mem_cons, List.not_mem_nil, or_false] at hv
    rcases hv with rfl | rfl | rfl
    · have := h1 g e2; omega
    · have := h2 g e2; omega
    · have := h3 g e2; omega
structure Rm (B : Nat) (w : World) (g : Nat) (l : List EntD) (t : Nat) (ys : List EntD) (us : List Value) (vL vW : Value) : Prop where
  box : RBx w g vL vW
  gB : B ≤ g
  rL : w.ownsRow B 84 7 vL ys.length (evals ys)
  rW : w.ownsRow B 82 1 vW us.length us
  ul : us.length = 3 * t
  yl : t ≤ ys.length
  el : ∀ i, i < t → ∃ x y u1 u2 u3, l[i]? = some x ∧ ys[i]? = some y ∧ us[3 * i]? = some u1 ∧ us[3 * i + 1]? = some u2 ∧ us[3 * i + 2]? = some u3 ∧ Re w B x y u1 u2 u3
  ap : us.Pairwise Apt
theorem Rm.later {B : Nat} {w w' : World} {g t : Nat} {l ys : List EntD} {us : List Value} {vL vW : Value} (h : Rm B w g l t ys us vL vW) (k : ∀ i, i < w.heap.size → w'.heap[i]? = w.heap[i]?) : Rm B w' g l t ys us vL vW :=
  ⟨(k g h.box.tyd.lt).trans h.box, h.gB, row_same h.rL (fun g hg => k g (h.rL.lt g hg).2), row_same h.rW (fun g hg => k g (h.rW.lt g hg).2), h.ul, h.yl, fun i hi => by
    obtain ⟨x, y, u1, u2, u3, a1, a2, a3, a4, a5, a6⟩ := h.el i hi
    exact ⟨x, y, u1, u2, u3, a1, a2, a3, a4, a5, a6.keep (fun g hg => k g hg.lt)⟩, h.ap⟩
theorem Rm.ulow {B : Nat} {w : World} {g t : Nat} {l ys : List EntD} {us : List Value} {vL vW : Value} (h : Rm B w g l t ys us vL vW) : ∀ u ∈ us, ∀ g, u.ownBlock = some g → g < w.heap.size := by
  intro u hu g hg
  obtain ⟨j, hj⟩ := List.getElem?_of_mem hu
  have hjl : j < us.length := (List.getElem?_eq_some_iff.1 hj).1
  have hl := h.ul
  obtain ⟨x, y, u1, u2, u3, a1, _, a3, a4, a5, a6⟩ := h.el (j / 3) (by omega)
  have m3 := Nat.mod_lt j (show 0 < 3 by decide)
  match hm : j % 3, m3 with
  | 0, _ =>
    rw [show 3 * (j / 3) = j by omega, hj] at a3
    cases a3
    exact (a6.r.own.2.lt g hg).2
  | 1, _ =>
    rw [show 3 * (j / 3) + 1 = j by omega, hj] at a4
    cases a4
    exact (a6.q.own.2.lt g hg).2
  | 2, _ =>
    rw [show 3 * (j / 3) + 2 = j by omega, hj] at a5
    cases a5
    exact (a6.v.own.2.lt g hg).2
theorem Rm.boxW {B : Nat} {w w1 : World} {g t : Nat} {l ys : List EntD} {us : List Value} {vL vW : Value} (h : Rm B w g l t ys us vL vW) (hg : w.grownBy w1 vW.ownBlock) : RBx w1 g vL vW :=
  (hg.block g h.box.tyd.lt (fun z => (row_tyd h.rW z.symm).ne h.box.tyd (by decide) rfl)).trans h.box
theorem Rm.putW {B : Nat} {w w1 : World} {g t : Nat} {l ys : List EntD} {us : List Value} {vL vW vW' u1 u2 u3 : Value} (h : Rm B w g l t ys us vL vW) (hg : w.grownBy w1 vW.ownBlock) (hr : w1.ownsRow B 82 1 vW' (us.length + 3) (us ++ [u1, u2, u3])) :
    RBx (w1.setCell ⟨g, 1, none⟩ vW') g vL vW' ∧ (w1.setCell ⟨g, 1, none⟩ vW').ownsRow B 84 7 vL ys.length (evals ys) ∧ (w1.setCell ⟨g, 1, none⟩ vW').ownsRow B 82 1 vW' (us.length + 3) (us ++ [u1, u2, u3]) ∧ (∀ i, Tyd w i 5 → (w1.setCell ⟨g, 1, none⟩ vW').heap[i]? = w.heap[i]?) ∧ (∀ i, i < w.heap.size → i < B → (w1.setCell ⟨g, 1, none⟩ vW').heap[i]? = w.heap[i]?) := by
  have bx1 : RBx w1 g vL vW := (hg.block g h.box.tyd.lt (fun z => (row_tyd h.rW z.symm).ne h.box.tyd (by decide) rfl)).trans h.box
  have k : ∀ (i : Nat) (ty : TypeId), Tyd w i ty → ty ≠ 82 → ty ≠ 37 → (w1.setCell ⟨g, 1, none⟩ vW').heap[i]? = w.heap[i]? := fun i ty hi n1 n2 => by
    rw [Below.heap_setCell _ _ _ _ (fun z => hi.ne h.box.tyd n2 z)]
    exact hg.block i hi.lt (fun z => hi.ne (row_tyd h.rW z.symm) n1 rfl)
  refine ⟨bx1.set1 _, row_same h.rL (fun i hi => k i _ (row_tyd h.rL hi) (by decide) (by decide)), row_same hr (fun i hi => Below.heap_setCell _ _ _ _ (fun z => (row_tyd hr hi).ne bx1.tyd (by decide) z)), fun i hi => k i _ hi (by decide) (by decide), fun i hi hB => ?_⟩
  rw [Below.heap_setCell _ _ _ _ (fun z => by have := h.gB; have : i = g := z; omega)]
  exact hg.block i hi (fun z => by have := (h.rW.lt i z.symm).1; omega)
theorem Rm.putL {B : Nat} {w w1 : World} {g t : Nat} {l ys : List EntD} {us : List Value} {vL vW vL' u1 u2 u3 : Value} {x y : EntD} (hb : RBx w g vL vW) (gB : B ≤ g) (hL : w.ownsRow B 84 7 vL ys.length (evals ys)) (hW : w.ownsRow B 82 1 vW (us.length + 3) (us ++ [u1, u2, u3])) (ul : us.length = 3 * t) (yl : ys.length = t) (el : ∀ i, i < t → ∃ x y u1 u2 u3, l[i]? = some x ∧ ys[i]? = some y ∧ us[3 * i]? = some u1 ∧ us[3 * i + 1]? = some u2 ∧ us[3 * i + 2]? = some u3 ∧ Re w B x y u1 u2 u3)
    (hap : (us ++ [u1, u2, u3]).Pairwise Apt) (hx : l[t]? = some x) (hre : Re w B x y u1 u2 u3) (hg : w.grownBy w1 vL.ownBlock) (hr : w1.ownsRow B 84 7 vL' (ys ++ [y]).length (evals (ys ++ [y]))) :
    Rm B (w1.setCell ⟨g, 0, none⟩ vL') g l (t + 1) (ys ++ [y]) (us ++ [u1, u2, u3]) vL' vW ∧ (∀ i, i < w.heap.size → i < B → (w1.setCell ⟨g, 0, none⟩ vL').heap[i]? = w.heap[i]?) := by
  have bx1 : RBx w1 g vL vW := (hg.block g hb.tyd.lt (fun z => (row_tyd hL z.symm).ne hb.tyd (by decide) rfl)).trans hb
  have k : ∀ (i : Nat) (ty : TypeId), Tyd w i ty → ty ≠ 84 → ty ≠ 37 → (w1.setCell ⟨g, 0, none⟩ vL').heap[i]? = w.heap[i]? := fun i ty hi n1 n2 => by
    rw [Below.heap_setCell _ _ _ _ (fun z => hi.ne hb.tyd n2 z)]
    exact hg.block i hi.lt (fun z => hi.ne (row_tyd hL z.symm) n1 rfl)
  have kb : ∀ i, Tyd w i 5 → (w1.setCell ⟨g, 0, none⟩ vL').heap[i]? = w.heap[i]? := fun i hi => k i _ hi (by decide) (by decide)
  refine ⟨⟨bx1.set0 _, gB, row_same hr (fun i hi => Below.heap_setCell _ _ _ _ (fun z => (row_tyd hr hi).ne bx1.tyd (by decide) z)), ?_, by simp; omega, by simp; omega, fun i hi => ?_, hap⟩, fun i hi hB => ?_⟩
  · have := row_same hW (fun i hi => k i _ (row_tyd hW hi) (by decide) (by decide))
    simpa using this
  · by_cases hit : i < t
    · obtain ⟨x', y', v1, v2, v3, a1, a2, a3, a4, a5, a6⟩ := el i hit
      exact ⟨x', y', v1, v2, v3, a1, by rw [List.getElem?_append_left (by omega)]; exact a2, by rw [List.getElem?_append_left (by omega)]; exact a3, by rw [List.getElem?_append_left (by omega)]; exact a4, by rw [List.getElem?_append_left (by omega)]; exact a5, a6.keep kb⟩
    · obtain rfl : i = t := by omega
      exact ⟨x, y, u1, u2, u3, hx, by rw [List.getElem?_append_right (by omega), yl]; simp, by rw [List.getElem?_append_right (by omega), ul]; simp, by rw [List.getElem?_append_right (by omega), ul, show 3 * i + 1 - 3 * i = 1 by omega]; simp, by rw [List.getElem?_append_right (by omega), ul, show 3 * i + 2 - 3 * i = 2 by omega]; simp, hre.keep kb⟩
  · rw [Below.heap_setCell _ _ _ _ (fun z => by have : i = g := z; omega)]
    exact hg.block i hi (fun z => by have := (hL.lt i z.symm).1; omega)
theorem Rm.putE {B : Nat} {w w1 : World} {g t : Nat} {l ys : List EntD} {us : List Value} {vL vW vL' : Value} {y : EntD} (h : Rm B w g l t ys us vL vW) (hg : w.grownBy w1 vL.ownBlock) (hr : w1.ownsRow B 84 7 vL' (ys ++ [y]).length (evals (ys ++ [y]))) :
    Rm B (w1.setCell ⟨g, 0, none⟩ vL') g l t (ys ++ [y]) us vL' vW ∧ (∀ i, i < w.heap.size → i < B → (w1.setCell ⟨g, 0, none⟩ vL').heap[i]? = w.heap[i]?) := by
  have hb := h.box
  have hL := h.rL
  have hW := h.rW
  have bx1 : RBx w1 g vL vW := (hg.block g hb.tyd.lt (fun z => (row_tyd hL z.symm).ne hb.tyd (by decide) rfl)).trans hb
  have k : ∀ (i : Nat) (ty : TypeId), Tyd w i ty → ty ≠ 84 → ty ≠ 37 → (w1.setCell ⟨g, 0, none⟩ vL').heap[i]? = w.heap[i]? := fun i ty hi n1 n2 => by
    rw [Below.heap_setCell _ _ _ _ (fun z => hi.ne hb.tyd n2 z)]
    exact hg.block i hi.lt (fun z => hi.ne (row_tyd hL z.symm) n1 rfl)
  refine ⟨⟨bx1.set0 _, h.gB, row_same hr (fun i hi => Below.heap_setCell _ _ _ _ (fun z => (row_tyd hr hi).ne bx1.tyd (by decide) z)), row_same hW (fun i hi => k i _ (row_tyd hW hi) (by decide) (by decide)), h.ul, by have := h.yl; simp; omega, fun i hi => ?_, h.ap⟩, fun i hi hB => ?_⟩
  · obtain ⟨x', y', v1, v2, v3, a1, a2, a3, a4, a5, a6⟩ := h.el i hi
    exact ⟨x', y', v1, v2, v3, a1, by rw [List.getElem?_append_left (by have := h.yl; omega)]; exact a2, a3, a4, a5, a6.keep (fun g hg => k g _ hg (by decide) (by decide))⟩
  · rw [Below.heap_setCell _ _ _ _ (fun z => by have := h.gB; have : i = g := z; omega)]
    exact hg.block i hi (fun z => by have := (hL.lt i z.symm).1; omega)
end Go.Proofs.YthhkpkfpifllkaaGreat

namespace Go.Proofs.YthhkpkfpifllkaaGreat
open Go.RowKit Go.Maps
set_option linter.unusedVariables false

theorem box_fate (w : World) (fa : Option Addr) (K fc : Nat) (e : EntD) : ∃ X1 W, X1 = (w.alloc (.cells #[.slice fa K fc] 27)).alloc (.cells #[.slice none 0 0, .int .i64 0, .slice none 0 0, .int .i64 0, .int .i64 0, .int .i64 0, .slice none 0 0] 84) ∧ W = X1.alloc (.cells e.cells 84) ∧ X1.heap.size = w.heap.size + 1 + 1 ∧ Below w.heap.size w X1 ∧ Below w.heap.size w W ∧ (∀ Z, Below W.heap.size W Z → Z.cell? ⟨w.heap.size, 0, none⟩ = some (.slice fa K fc) ∧ Z.heap[w.heap.size + 1]? = some (.cells #[.slice none 0 0, .int .i64 0, .slice none 0 0, .int .i64 0, .int .i64 0, .int .i64 0, .slice none 0 0] 84 (0, 0)) ∧ EBox Z X1.heap.size e) := by
  obtain ⟨X0, hX0, A1, hc⟩ := sch_box w fa K fc
  obtain ⟨zc, hz⟩ : ∃ zc : Array Value, zc = #[.slice none 0 0, .int .i64 0, .slice none 0 0, .int .i64 0, .int .i64 0, .int .i64 0, .slice none 0 0] := ⟨_, rfl⟩
  rw [← hz]
  have A2 := (Below.refl X0.heap.size X0).alloc (Nat.le_refl _) (.cells zc 84)
  have rz : (X0.alloc (.cells zc 84)).heap[X0.heap.size]? = some (.cells zc 84 (0, 0)) := heap_new X0 (.cells zc 84)
  obtain ⟨X1, hX1⟩ : ∃ X1, X1 = X0.alloc (.cells zc 84) := ⟨_, rfl⟩
  rw [← hX1] at A2 rz
  obtain ⟨W, hW, A3, hb, -⟩ := box1 X1 e
  have s0 : X0.heap.size = w.heap.size + 1 := by rw [hX0]; simp
  have s1 : X1.heap.size = w.heap.size + 1 + 1 := by rw [hX1, World.size_alloc, s0]
  refine ⟨X1, W, by rw [hX1, hX0], hW, s1, A1.trans (A2.mono A1.size), A1.trans ((A2.trans (A3.mono A2.size)).mono A1.size), fun Z k => ⟨hc Z (A2.trans ((A3.trans (k.mono A3.size)).mono A2.size)), ?_, hb Z k⟩⟩
  rw [← s0, (A3.trans (k.mono A3.size)).block _ (by omega)]
  exact rz
structure FK (Z : World) (gs gr ge : Nat) (v : Value) (e : EntD) : Prop where
  sc : Z.cell? ⟨gs, 0, none⟩ = some v
  rz : Z.heap[gr]? = some (.cells #[.slice none 0 0, .int .i64 0, .slice none 0 0, .int .i64 0, .int .i64 0, .int .i64 0, .slice none 0 0] 84 (0, 0))
  be : EBox Z ge e
theorem FK.z {Z : World} {gs gr ge : Nat} {v : Value} {e : EntD} (h : FK Z gs gr ge v e) : Z.cell? ⟨gr, 0, none⟩ = some (.slice none 0 0) ∧ Z.cell? ⟨gr, 1, none⟩ = some (.int .i64 0) ∧ Z.cell? ⟨gr, 2, none⟩ = some (.slice none 0 0) ∧ Z.cell? ⟨gr, 3, none⟩ = some (.int .i64 0) ∧ Z.cell? ⟨gr, 4, none⟩ = some (.int .i64 0) ∧ Z.cell? ⟨gr, 5, none⟩ = some (.int .i64 0) ∧ Z.cell? ⟨gr, 6, none⟩ = some (.slice none 0 0) := by
  have := h.rz
  simp [World.cell?, this]
theorem FK.f {Z : World} {gs gr ge : Nat} {v : Value} {e : EntD} (h : FK Z gs gr ge v e) : Z.frozen? ⟨gr, 0, none⟩ = false ∧ Z.frozen? ⟨gr, 1, none⟩ = false ∧ Z.frozen? ⟨gr, 2, none⟩ = false ∧ Z.frozen? ⟨gr, 3, none⟩ = false ∧ Z.frozen? ⟨gr, 4, none⟩ = false ∧ Z.frozen? ⟨gr, 5, none⟩ = false ∧ Z.frozen? ⟨gr, 6, none⟩ = false := by
  have := h.rz
  simp [World.frozen?, this]
theorem below7 {w Z : World} {B gr : Nat} (h : Below B w Z) (hg : B ≤ gr) (a b c d e f g : Value) : Below B w (((((((Z.setCell ⟨gr, 0, none⟩ a).setCell ⟨gr, 1, none⟩ b).setCell ⟨gr, 2, none⟩ c).setCell ⟨gr, 3, none⟩ d).setCell ⟨gr, 4, none⟩ e).setCell ⟨gr, 5, none⟩ f).setCell ⟨gr, 6, none⟩ g) :=
  ((((((h.setCell hg _).setCell hg _).setCell hg _).setCell hg _).setCell hg _).setCell hg _).setCell hg _
theorem husk_dat {e : EntD} (hv : Va e.dat) (h2 : (hk e.dat).kind = 2) : (⟨e.vr, e.fam, e.vq, e.ts, e.seq, 2, .slice none 0 0, e.row, e.qual, []⟩ : EntD).dat = hk e.dat := by
  have hval : e.val = [] := hv.val (fun z => by
    rcases (hk_eq e.dat).2.2.2.2.2.2 with ⟨q, _⟩ | ⟨_, q⟩ <;> omega)
  unfold hk at h2 ⊢
  by_cases k : e.dat.kind = 3
  · rw [if_pos k]
    simp only [EntD.dat, hval]
  · rw [if_neg k] at h2 ⊢
    have h3 : e.kind = 2 := h2
    simp only [EntD.dat, hval, h3]
def FateP (fs : List FamD) (clock : Int) (major : Bool) (low : Int) (m : List En) (W0 : World) (e : EntD) (N : Int) (y : EntD) (W' : World) : Prop :=
  N = fateN (mt fs) clock major low m e.dat ∧ EntD.Ok W' y ∧ (y.row = e.row ∧ y.qual = e.qual ∧ (y.val = e.val ∨ y.val = [])) ∧ (N = 0 → y.dat = fateE m e.dat) ∧ Below W0.heap.size W0 W'
theorem FateP.same {fs : List FamD} {clock : Int} {major : Bool} {low : Int} {m : List En} {W0 : World} {e : EntD} {N : Int} {W' : World} (hN : N = fateN (mt fs) clock major low m e.dat) (he : EntD.Ok W0 e) (b : Below W0.heap.size W0 W') (h : N = 0 → e.dat = fateE m e.dat) : FateP fs clock major low m W0 e N e W' :=
  ⟨hN, he.later b, ⟨rfl, rfl, .inl rfl⟩, h, b⟩
end Go.Proofs.YthhkpkfpifllkaaGreat

namespace Go.Proofs.YthhkpkfpifllkaaGreat
open Go.RowKit Go.Maps
set_option linter.unusedVariables false

set_option maxRecDepth 100000 in
set_option maxHeartbeats 16000000 in
theorem refFate_mark {W0 : World} {fa a : Option Addr} {fc cap : Nat} {fs : List FamD} {l : List EntD} {i : Nat} {e : EntD} (clock low : Int) (major : Bool) (hr : RdF W0 (.slice fa fs.length fc) fs) (hU : LU fs l) (hl : RdL3 W0 a cap l) (hn : l.length ≤ 1353245080300) (hi : l[i]? = some e) (hne : (l.map EntD.dat).Pairwise (fun a b => a.seq ≠ b.seq)) (k4 : 4 ≤ e.kind) :
    Calls Tryz.prog 56 #[.agg #[.slice fa fs.length fc], .int .i64 clock, .bool major, .int .i64 low, .slice a l.length cap, .int .i64 (i : Int)] W0 fun r W' => ∃ (N : Int) (y : EntD), r = .returned (.tuple #[.agg y.cells, .int .i64 N]) ∧ FateP fs clock major low (l.map EntD.dat) W0 e N y W' := by
  have em := List.mem_of_getElem? hi
  have hil : i < l.length := (List.getElem?_eq_some_iff.1 hi).1
  have he := hl.ok e em
  obtain ⟨X1, W, hX1, hW, hs1, A1, A, hb⟩ := box_fate W0 fa fs.length fc e
  obtain ⟨N, hN⟩ : ∃ N, N = l.length := ⟨_, rfl⟩
  obtain ⟨K, hK⟩ : ∃ K, K = fs.length := ⟨_, rfl⟩
  obtain ⟨m, hm⟩ : ∃ m, m = l.map EntD.dat := ⟨_, rfl⟩
  have up : ∀ Z, Below W.heap.size W Z → Below W0.heap.size W0 Z := fun Z b => A.trans (b.mono A.size)
  have hc := hl.cap
  obtain ⟨kf, hkf⟩ : ∃ kf : Nat, e.fam = (kf : Int) := ⟨e.fam.toNat, by have := (hU.un e em).f0; omega⟩
  have hkl : kf < fs.length := by have := (hU.un e em).fK; omega
  obtain ⟨bf, of, fd, rfl, hfd, hcf⟩ := fam_cell hr hkl
  have HFm : Hid (famAt (mt fs) e.dat.fam = (fd.mx, fd.tl)) := by
    show famAt (mt fs) e.fam = _
    rw [hkf, fam_mt hfd]
  have HL := Lib.hid (fun (Z : World) (b : Below W.heap.size W Z) => hl.later (up Z b))
  have HOk := Lib.hid (fun (Z : World) (b : Below W.heap.size W Z) => he.later (up Z b))
  have HGr := Lib.hid (fun (h3 : e.kind ≤ 3) (Z : World) (b : Below W.heap.size W Z) => group_in (fa := some ⟨bf, of, none⟩) (fc := fc) clock hU (hl.later (up Z b)) em h3 hn)
  have HMk := Lib.hid (fun (h3 : e.kind ≤ 3) (Z : World) (b : Below W.heap.size W Z) => refMask_any (hl.later (up Z b)) (he.later (up Z b)) h3 hn)
  have HEx := Lib.hid (fun (Z : World) (b : Below W.heap.size W Z) => refExpired_any clock (hr.later (up Z b)) (hU.un e em) hU.tl)
  have HRk := Lib.hid (fun (Z : World) (b : Below W.heap.size W Z) => refRank_any clock (hr.later (up Z b)) hU (hl.later (up Z b)) (he.later (up Z b)) hn)
  have HCf : Hid (∀ Z, Below W.heap.size W Z → Z.cell? ⟨bf, of + kf * 3 + 1, none⟩ = some (.int .i64 fd.mx)) := fun Z b => (hcf Z (up Z b)).1
  have HMi : Hid (m[i]? = some e.dat) := by unfold Hid; rw [hm, List.getElem?_map, hi]; rfl
  have HVa : Hid (Va e.dat) := hU.va e.dat (List.mem_map_of_mem em)
  have hat := hl.at_
  rcases hat with h0 | ⟨bl, ol, rfl, -⟩
  · rw [h0] at hi; simp at hi
  have hcl := fun j u hj => (hl.later A1).cells (Below.refl _ _) hi j u hj
  have d0 := hcl 0 _ rfl
  have d1 := hcl 1 _ rfl
  have d2 := hcl 2 _ rfl
  have d3 := hcl 3 _ rfl
  have d4 := hcl 4 _ rfl
  have d5 := hcl 5 _ rfl
  have d6 := hcl 6 _ rfl
  simp only [Nat.add_zero] at d0
  obtain ⟨_, a1, n1, e1, -⟩ := id he.1
  obtain ⟨_, a2, n2, e2, -⟩ := id he.2.1
  obtain ⟨_, a3, n3, e3, -⟩ := id he.2.2
  rw [← hN, ← hm] at HGr HMk
  rw [← hK] at HEx
  rw [← hN, ← hK, ← hm] at HRk
  rw [← hK] at hb hX1 hkl
  rw [← hN] at hn hc hil
  rw [← hm] at hne ⊢
  rw [← hN, ← hK]
  have HFk : Hid (∀ Z, Below W.heap.size W Z → FK Z W0.heap.size (W0.heap.size + 1) X1.heap.size (.slice (some ⟨bf, of, none⟩) K fc) e) := fun Z b => ⟨(hb Z b).1, (hb Z b).2.1, (hb Z b).2.2⟩
  have HC : Hid (∀ Z, Below W.heap.size W Z → Z.cell? ⟨X1.heap.size, 0, none⟩ = some (.slice a1 e.row.length n1) ∧ Z.cell? ⟨X1.heap.size, 1, none⟩ = some (.int .i64 e.fam) ∧ Z.cell? ⟨X1.heap.size, 2, none⟩ = some (.slice a2 e.qual.length n2) ∧ Z.cell? ⟨X1.heap.size, 3, none⟩ = some (.int .i64 e.ts) ∧ Z.cell? ⟨X1.heap.size, 4, none⟩ = some (.int .i64 e.seq) ∧ Z.cell? ⟨X1.heap.size, 5, none⟩ = some (.int .i64 e.kind) ∧ Z.cell? ⟨X1.heap.size, 6, none⟩ = some (.slice a3 e.val.length n3)) := fun Z b => by
    have h := (HFk.out Z b).be.cells7
    rw [e1, e2, e3] at h
    exact h
  unfold EntD.cells at hW HGr HMk HEx HRk
  simp only [e1, e2, e3] at HGr HMk HEx HRk
  rw [e1, e2, e3] at hW
  rw [e1] at d0
  rw [e2] at d2
  rw [e3] at d6
  have HEe := Lib.hid (And.intro e1 (And.intro e2 e3))
  have HW := Lib.hid hW
  have HX1 := Lib.hid hX1
  have HS1 := Lib.hid hs1
  have HA := Lib.hid A
  have HN := Lib.hid hN
  have HM := Lib.hid hm
  have HUp := Lib.hid up
  have HE := Lib.hid he
  have HNe := Lib.hid hne
  have HPt := Lib.hid hi
  have hi0 : (0 : Int) ≤ (i : Int) := by omega
  have hiN : (i : Int) < (N : Int) := by omega
  have k0 : (0 : Int) ≤ (kf : Int) := by omega
  have kK : (kf : Int) < (K : Int) := by omega
  have HKf := Lib.hid hkf
  clear hX1 hs1 A1 hW A hb hN hl hr hU up hm hK he hne hi hfd hcf hkf e1 e2 e3 hcl em
  go_enter Tryz.func56, Tryz.ntmps56
  go_upto_region 1 with fail
  rw [← HX1.out]
  clear HX1
  go_upto_region 2 with fail
  rw [← HW.out]
  clear HW d0 d1 d2 d3 d4 d5 d6
  have HV : Hid (Calls Tryz.prog 61 #[.agg e.cells] W fun r w' => r = .returned (.bool (decide (e.kind ≤ 3))) ∧ Below W.heap.size W w') := version_any
  unfold EntD.cells at HV
  rw [HEe.out.1, HEe.out.2.1, HEe.out.2.2] at HV
  obtain ⟨y0, y1, y2, y3, y4, y5, y6⟩ := HC.out W (Below.refl _ _)
  go_wp2_with fail
  refine Calls.mono HV.out ?_
  rintro r w1 ⟨rfl, b1⟩
  have B1 := Lib.hid b1
  clear b1 y0 y1 y2 y3 y4 y5 y6 HV
  have k3 : ¬ e.kind ≤ 3 := by omega
  rw [decide_eq_false k3]
  have HK4 : Hid (4 ≤ e.dat.kind ∧ e.dat.kind ≤ 5) := ⟨k4, HVa.out.k5⟩
  have HSame : Hid (e.dat = fateE m e.dat) := by unfold Hid fateE; rw [if_pos HK4.out.1]
  clear k3 k4
  go_wp2
  go_loopw [15, 16, 17] (fun kv _ _ wr => ∃ t : Nat, t ≤ N ∧ kv = .int .i64 (t : Int) ∧ Hid (∀ (k : Nat) (x : En), k < t → m[k]? = some x → k ≠ i → ovr x e.dat = true → upT x e.dat = false) ∧ Hid (Below W.heap.size W wr)) (fun kv _ _ _ => N - (intOf kv).toNat)
  case atStart => exact ⟨0, Nat.zero_le _, rfl, fun k x h => absurd h (by omega), B1.out⟩
  case round =>
    obtain ⟨t, ht, rfl, HNo, HBw⟩ := hrel
    have t0 : (0 : Int) ≤ (t : Int) := by omega
    by_cases hlt : t < N
    · have hlt2 : (t : Int) < (N : Int) := by omega
      obtain ⟨x, hx⟩ : ∃ x, l[t]? = some x := ⟨l[t]'(by rw [← HN.out]; exact hlt), List.getElem?_eq_getElem _⟩
      have hrd := HL.out _ HBw.out
      have hok := hrd.ok x (List.mem_of_getElem? hx)
      have d0 := (hrd.cells (Below.refl _ _) hx) 0 _ rfl
      have d1 := (hrd.cells (Below.refl _ _) hx) 1 _ rfl
      have d2 := (hrd.cells (Below.refl _ _) hx) 2 _ rfl
      have d3 := (hrd.cells (Below.refl _ _) hx) 3 _ rfl
      have d4 := (hrd.cells (Below.refl _ _) hx) 4 _ rfl
      have d5 := (hrd.cells (Below.refl _ _) hx) 5 _ rfl
      have d6 := (hrd.cells (Below.refl _ _) hx) 6 _ rfl
      simp only [Nat.add_zero] at d0
      obtain ⟨_, b1, m1, e1, -⟩ := id hok.1
      obtain ⟨_, b2, m2, e2, -⟩ := id hok.2.1
      obtain ⟨_, b3, m3, e3, -⟩ := id hok.2.2
      obtain ⟨X, hX, AX, hbx, -⟩ := box1 wr x
      have HXb := Lib.hid (And.intro AX (And.intro hbx (And.intro hok HBw.out)))
      unfold EntD.cells at hX
      rw [e1, e2, e3] at hX
      rw [e1] at d0
      rw [e2] at d2
      rw [e3] at d6
      have HX := Lib.hid hX
      have HMx : Hid (m[t]? = some x.dat) := by unfold Hid; rw [HM.out, List.getElem?_map, hx]; rfl
      clear hrd hok hx hX AX hbx e1 e2 e3
      go_upto_region 7 with fail
      rw [← HX.out]
      clear HX d0 d1 d2 d3 d4 d5 d6
      obtain ⟨AX, hbx, hok, hbw⟩ := HXb.out
      have hBX : Below W.heap.size W X := hbw.trans (AX.mono hbw.size)
      have KS : Hid (∀ Z, Below X.heap.size X Z → EBox Z wr.heap.size x ∧ EBox Z X1.heap.size e ∧ EntD.Ok Z x ∧ EntD.Ok Z e ∧ Below W.heap.size W Z) := fun Z k => ⟨hbx Z k, (HFk.out Z (hBX.trans (k.mono hBX.size))).be, (hok.later AX).later k, HOk.out Z (hBX.trans (k.mono hBX.size)), hBX.trans (k.mono hBX.size)⟩
      clear AX hbx hok hbw hBX
      obtain ⟨cv, hcv⟩ : ∃ cv, cv = ovr x.dat e.dat := ⟨_, rfl⟩
      have HCv : Hid (cv = ((decide (x.kind = 5) && decide (x.fam = e.fam) && decide (x.row = e.row)) || (decide (x.kind = e.kind) && mates x.dat e.dat))) := hcv
      have HCc := Lib.hid hcv
      clear hcv
      go_cut [17] from 28 to 66 (fun s wx => s = .bool cv ∧ Hid (Below X.heap.size X wx))
      case first =>
        obtain ⟨b1, b2, o1, o2, hB0⟩ := KS.out _ (Below.refl _ _)
        obtain ⟨x0, x1, x2, x3, x4, x5, x6⟩ := b1.cells7
        obtain ⟨y0, y1, y2, y3, y4, y5, y6⟩ := HC.out _ hB0
        have HAr : Hid (Calls Tryz.prog 78 #[x.vr, e.vr] X fun r w' => r = .returned (.bool (decide (x.row = e.row))) ∧ w' = X) := alike_any o1.1 o2.1
        have HMt : Hid (Calls Tryz.prog 55 #[.agg x.cells, .agg e.cells] X fun r w' => r = .returned (.bool (mates x.dat e.dat)) ∧ Below X.heap.size X w') := mates_any o1 o2
        unfold EntD.cells at HMt
        rw [HEe.out.1] at HAr
        rw [HEe.out.1, HEe.out.2.1, HEe.out.2.2] at HMt
        obtain ⟨mm, hmm⟩ : ∃ mm, mm = mates x.dat e.dat := ⟨_, rfl⟩
        rw [← hmm] at HMt HCv
        clear b1 b2 o1 o2 hmm hB0
        by_cases k5 : x.kind = 5
        · have q5 : (x.kind == 5) = true := by simpa using k5
          by_cases cf : x.fam = e.fam
          · have qf : (x.fam == e.fam) = true := by simpa using cf
            by_cases cr : x.row = e.row
            · rw [decide_eq_true cr] at HAr
              have q : Hid (cv = true) := by unfold Hid; rw [HCv.out]; simp [k5, cf, cr]
              clear k5 cf cr HCv
              go_wp2_with (go_at_call 78; refine Calls.mono HAr.out ?_; rintro r w' ⟨rfl, rfl⟩)
              go_meet
              case rel => exact ⟨by rw [q.out], Below.refl _ _⟩
            · rw [decide_eq_false cr] at HAr
              have hq : Hid (cv = (decide (x.kind = e.kind) && mm)) := by unfold Hid; rw [HCv.out]; simp [k5, cf, cr]
              by_cases ce : x.kind = e.kind
              · have qe : (x.kind == e.kind) = true := by simpa using ce
                have q : Hid (cv = mm) := by unfold Hid; rw [hq.out]; simp [ce]
                clear k5 cf cr HCv hq ce
                go_wp2_with (first | (go_at_call 78; refine Calls.mono HAr.out ?_; rintro r w' ⟨rfl, rfl⟩) | (go_at_call 55; refine Calls.mono HMt.out ?_; rintro r w' ⟨rfl, b9⟩))
                go_meet
                case rel => exact ⟨by rw [q.out], b9⟩
              · have qe : (x.kind == e.kind) = false := by simpa using ce
                have q : Hid (cv = false) := by unfold Hid; rw [hq.out]; simp [ce]
                clear k5 cf cr HCv hq ce
                go_wp2_with (go_at_call 78; refine Calls.mono HAr.out ?_; rintro r w' ⟨rfl, rfl⟩)
                go_meet
                case rel => exact ⟨by rw [q.out], Below.refl _ _⟩
          · have qf : (x.fam == e.fam) = false := by simpa using cf
            have hq : Hid (cv = (decide (x.kind = e.kind) && mm)) := by unfold Hid; rw [HCv.out]; simp [cf]
            by_cases ce : x.kind = e.kind
            · have qe : (x.kind == e.kind) = true := by simpa using ce
              have q : Hid (cv = mm) := by unfold Hid; rw [hq.out]; simp [ce]
              clear k5 cf HCv hq ce
              go_wp2_with fail
              refine Calls.mono HMt.out ?_
              rintro r w' ⟨rfl, b9⟩
              have B9 := Lib.hid b9
              clear b9
              go_wp2
              go_meet
              case rel => exact ⟨by rw [q.out], B9.out⟩
            · have qe : (x.kind == e.kind) = false := by simpa using ce
              have q : Hid (cv = false) := by unfold Hid; rw [hq.out]; simp [ce]
              clear k5 cf HCv hq ce
              go_wp2_with fail
              go_meet
              case rel => exact ⟨by rw [q.out], Below.refl _ _⟩
        · have q5 : (x.kind == 5) = false := by simpa using k5
          have hq : Hid (cv = (decide (x.kind = e.kind) && mm)) := by unfold Hid; rw [HCv.out]; simp [k5]
          by_cases ce : x.kind = e.kind
          · have qe : (x.kind == e.kind) = true := by simpa using ce
            have q : Hid (cv = mm) := by unfold Hid; rw [hq.out]; simp [ce]
            clear k5 HCv hq ce
            go_wp2_with fail
            refine Calls.mono HMt.out ?_
            rintro r w' ⟨rfl, b9⟩
            have B9 := Lib.hid b9
            clear b9
            go_wp2
            go_meet
            case rel => exact ⟨by rw [q.out], B9.out⟩
          · have qe : (x.kind == e.kind) = false := by simpa using ce
            have q : Hid (cv = false) := by unfold Hid; rw [hq.out]; simp [ce]
            clear k5 HCv hq ce
            go_wp2_with fail
            go_meet
            case rel => exact ⟨by rw [q.out], Below.refl _ _⟩
      case rest =>
        obtain ⟨rfl, HBc⟩ := hcut
        obtain ⟨b1, b2, o1, o2, hBc⟩ := KS.out _ HBc.out
        have HBr2 := Lib.hid hBc
        obtain ⟨-, -, -, x3, x4, x5, -⟩ := b1.cells7
        obtain ⟨-, -, -, y3, y4, y5, -⟩ := b2.cells7
        have HMore : Hid ((t ≠ i → ovr x.dat e.dat = true → upT x.dat e.dat = false) → ∀ (k : Nat) (z : En), k < t + 1 → m[k]? = some z → k ≠ i → ovr z e.dat = true → upT z e.dat = false) := fun h k z hk hz hn ho => by
          by_cases q : k < t
          · exact HNo.out k z q hz hn ho
          · obtain rfl : k = t := by omega
            rw [HMx.out] at hz
            cases hz
            exact h hn ho
        have HYes : Hid (t ≠ i → ovr x.dat e.dat = true → upT x.dat e.dat = true → (5 : Int) = fateN (mt fs) clock major low m e.dat) := fun hn ho hu => by
          rw [fateN_mark HK4.out.1, (shadow_at HMi.out HK4.out.1 HK4.out.2).2 ⟨t, x.dat, HMx.out, hn, ho, hu⟩]
          simp
        rw [← HCc.out] at HMore HYes
        clear b1 b2 o1 o2 hBc
        obtain ⟨cc, hcc⟩ : ∃ cc, cc = (cv && (decide (t ≠ i) && upT x.dat e.dat)) := ⟨_, rfl⟩
        have HCC := Lib.hid hcc
        have HUp2 : Hid (upT x.dat e.dat = (decide (e.ts < x.ts) || (decide (x.ts = e.ts) && (decide (e.kind < x.kind) || decide (e.seq < x.seq))))) := rfl
        clear hcc
        go_upto_region 8 with fail
        go_cut [100] from 67 to 99 (fun s wx => s = .bool cc ∧ Hid (Below X.heap.size X wx))
        case first =>
          cases cv with
          | false =>
            have q : Hid (cc = false) := by unfold Hid; rw [HCC.out]; rfl
            clear HCC HMore HYes
            go_wp2_with fail
            go_meet
            case rel => exact ⟨by rw [q.out], HBc.out⟩
          | true =>
            by_cases hti : (t : Int) = (i : Int)
            · have qti : ((t : Int) != (i : Int)) = false := by simpa using hti
              have q : Hid (cc = false) := by unfold Hid; rw [HCC.out]; simp; intro z; exact absurd (by omega) z
              clear HCC HMore HYes hti
              go_wp2_with fail
              go_meet
              case rel => exact ⟨by rw [q.out], HBc.out⟩
            · have qti : ((t : Int) != (i : Int)) = true := by simpa using hti
              have hcc : Hid (cc = (decide (e.ts < x.ts) || (decide (x.ts = e.ts) && (decide (e.kind < x.kind) || decide (e.seq < x.seq))))) := by
                unfold Hid
                rw [HCC.out, HUp2.out, decide_eq_true (show t ≠ i from fun z => hti (by rw [z]))]
                rfl
              clear HCC HMore HYes hti
              by_cases ct : e.ts < x.ts
              · have qt : decide (e.ts < x.ts) = true := decide_eq_true ct
                have q : Hid (cc = true) := by unfold Hid; rw [hcc.out]; simp [ct]
                clear ct hcc
                go_wp2_with fail
                go_meet
                case rel => exact ⟨by rw [q.out], HBc.out⟩
              · have qt : decide (e.ts < x.ts) = false := decide_eq_false ct
                by_cases cq : x.ts = e.ts
                · have qq : (x.ts == e.ts) = true := by simpa using cq
                  by_cases ck : e.kind < x.kind
                  · have qk : decide (e.kind < x.kind) = true := decide_eq_true ck
                    have q : Hid (cc = true) := by unfold Hid; rw [hcc.out]; simp [cq, ck]
                    clear ct cq ck hcc
                    go_wp2_with fail
                    go_meet
                    case rel => exact ⟨by rw [q.out], HBc.out⟩
                  · have qk : decide (e.kind < x.kind) = false := decide_eq_false ck
                    have q : Hid (cc = decide (e.seq < x.seq)) := by unfold Hid; rw [hcc.out]; simp [cq, ck]
                    clear ct cq ck hcc
                    go_wp2_with fail
                    go_meet
                    case rel => exact ⟨by rw [q.out], HBc.out⟩
                · have qq : (x.ts == e.ts) = false := by simpa using cq
                  have q : Hid (cc = false) := by unfold Hid; rw [hcc.out]; simp [ct, cq]
                  clear ct cq hcc
                  go_wp2_with fail
                  go_meet
                  case rel => exact ⟨by rw [q.out], HBc.out⟩
        case rest =>
          obtain ⟨rfl, HBd⟩ := hcut
          have HBr3 := Lib.hid (KS.out _ HBd.out).2.2.2.2
          clear x3 x4 x5 y3 y4 y5 HBr2
          cases cc with
          | false =>
            have HMo := Lib.hid (HMore.out (fun hn ho => by
              have := HCC.out
              rw [ho, decide_eq_true hn] at this
              simpa using this.symm))
            go_wp2
            go_roundw
            case rel => exact ⟨t + 1, by omega, by go_num, HMo.out, HBr3.out⟩
            case measure => simp only [intOf]; omega
          | true =>
            have HF5 : Hid ((5 : Int) = fateN (mt fs) clock major low m e.dat) := by
              have := HCC.out.symm
              simp only [Bool.and_eq_true, decide_eq_true_eq] at this
              exact HYes.out this.2.1 this.1 this.2.2

            obtain ⟨y0, y1, y2, y3, y4, y5, y6⟩ := HC.out _ HBr3.out
            obtain ⟨z0, z1, z2, z3, z4, z5, z6⟩ := (HFk.out _ HBr3.out).z
            obtain ⟨f0, f1, f2, f3, f4, f5, f6⟩ := (HFk.out _ HBr3.out).f
            have HBr := Lib.hid (HUp.out _ HBr3.out)
            go_wp2
            refine bodyPost_ret (v := .tuple #[.agg #[.slice a1 e.row.length n1, .int .i64 e.fam, .slice a2 e.qual.length n2, .int .i64 e.ts, .int .i64 e.seq, .int .i64 e.kind, .slice a3 e.val.length n3], .int .i64 5]) ?_ rfl ?_
            · simp [results, Tryz.results56, go_sem, z0, z1, z2, z3, z4, z5, z6]
            · exact ⟨_, e, by simp only [EntD.cells, HEe.out.1, HEe.out.2.1, HEe.out.2.2], FateP.same (HF5.out) HE.out (below7 HBr.out (by omega) _ _ _ _ _ _ _) (fun z => absurd z (by decide))⟩
    · have hge : ¬ (t : Int) < (N : Int) := by omega
      have HSh : Hid (shadow m e.dat = false) := shadow_no HMi.out HK4.out.1 HK4.out.2 fun k x hx hn ho => HNo.out k x (by
        have hk : k < m.length := (List.getElem?_eq_some_iff.1 hx).1
        rw [HM.out, List.length_map, ← HN.out] at hk
        omega) hx hn ho
      have HFn : Hid (fateN (mt fs) clock major low m e.dat = if (major && decide (e.ts ≤ low)) then 5 else 0) := by unfold Hid; rw [fateN_mark HK4.out.1, HSh.out]; rfl
      obtain ⟨y0, y1, y2, y3, y4, y5, y6⟩ := HC.out _ HBw.out
      obtain ⟨z0, z1, z2, z3, z4, z5, z6⟩ := (HFk.out _ HBw.out).z
      obtain ⟨f0, f1, f2, f3, f4, f5, f6⟩ := (HFk.out _ HBw.out).f
      cases major with
      | true =>
        by_cases cl : e.ts ≤ low
        · have ql : decide (e.ts ≤ low) = true := decide_eq_true cl
          have HF5 : Hid ((5 : Int) = fateN (mt fs) clock true low m e.dat) := by unfold Hid; rw [HFn.out]; simp [cl]

          have HBr := Lib.hid (HUp.out _ HBw.out)
          go_wp2
          refine bodyPost_ret (v := .tuple #[.agg #[.slice a1 e.row.length n1, .int .i64 e.fam, .slice a2 e.qual.length n2, .int .i64 e.ts, .int .i64 e.seq, .int .i64 e.kind, .slice a3 e.val.length n3], .int .i64 5]) ?_ rfl ?_
          · simp [results, Tryz.results56, go_sem, z0, z1, z2, z3, z4, z5, z6]
          · exact ⟨_, e, by simp only [EntD.cells, HEe.out.1, HEe.out.2.1, HEe.out.2.2], FateP.same (HF5.out) HE.out (below7 HBr.out (by omega) _ _ _ _ _ _ _) (fun z => absurd z (by decide))⟩
        · have ql : decide (e.ts ≤ low) = false := decide_eq_false cl
          have HF5 : Hid ((0 : Int) = fateN (mt fs) clock true low m e.dat) := by unfold Hid; rw [HFn.out]; simp [cl]

          have HBr := Lib.hid (HUp.out _ HBw.out)
          go_wp2
          refine bodyPost_ret (v := .tuple #[.agg #[.slice a1 e.row.length n1, .int .i64 e.fam, .slice a2 e.qual.length n2, .int .i64 e.ts, .int .i64 e.seq, .int .i64 e.kind, .slice a3 e.val.length n3], .int .i64 0]) ?_ rfl ?_
          · simp [results, Tryz.results56, go_sem, z0, z1, z2, z3, z4, z5, z6]
          · exact ⟨_, e, by simp only [EntD.cells, HEe.out.1, HEe.out.2.1, HEe.out.2.2], FateP.same (HF5.out) HE.out (below7 HBr.out (by omega) _ _ _ _ _ _ _) (fun _ => HSame.out)⟩
      | false =>
        have HF5 : Hid ((0 : Int) = fateN (mt fs) clock false low m e.dat) := by unfold Hid; rw [HFn.out]; simp
        have HBr := Lib.hid (HUp.out _ HBw.out)
        go_wp2
        refine bodyPost_ret (v := .tuple #[.agg #[.slice a1 e.row.length n1, .int .i64 e.fam, .slice a2 e.qual.length n2, .int .i64 e.ts, .int .i64 e.seq, .int .i64 e.kind, .slice a3 e.val.length n3], .int .i64 0]) ?_ rfl ?_
        · simp [results, Tryz.results56, go_sem, z0, z1, z2, z3, z4, z5, z6]
        · exact ⟨_, e, by simp only [EntD.cells, HEe.out.1, HEe.out.2.1, HEe.out.2.2], FateP.same (HF5.out) HE.out (below7 HBr.out (by omega) _ _ _ _ _ _ _) (fun _ => HSame.out)⟩
end Go.Proofs.YthhkpkfpifllkaaGreat
