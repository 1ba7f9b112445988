import Derived.Test.YtcangaoamhaagaaJ07
namespace Go.Proofs.Ytcangaoamhaagaa
open Go.RowKit
set_option linter.unusedVariables false

/-- Turned round and doubled. -/
def dblL (ks : List (List Nat)) (j : Nat) : List (List Nat) := (ks.reverse.take j).flatMap fun k => [k, k]
theorem dblL_zero (ks : List (List Nat)) : dblL ks 0 = [] := rfl
theorem dblL_succ (ks : List (List Nat)) (j : Nat) (hj : j < ks.length) : dblL ks (j + 1) = dblL ks j ++ [ks.getD (ks.length - 1 - j) [], ks.getD (ks.length - 1 - j) []] := by
  unfold dblL
  rw [List.take_succ_eq_append_getElem (by simpa using hj), List.flatMap_append, List.getElem_reverse]
  simp [List.getD, show ks.length - 1 - j < ks.length by omega]
theorem dblL_len (ks : List (List Nat)) (j : Nat) (hj : j ≤ ks.length) : (dblL ks j).length = 2 * j := by
  induction j with
  | zero => rfl
  | succ j ih => rw [dblL_succ ks j (by omega), List.length_append, ih (by omega)]; simp; omega
theorem mem_dblL (ks : List (List Nat)) (x : List Nat) : x ∈ dblL ks ks.length ↔ x ∈ ks := by
  unfold dblL
  rw [List.take_of_length_le (by simp)]
  simp

set_option maxRecDepth 100000 in
theorem wp_build2 {a : Act} {w : World} {K : Act → World → Prop} {Q : Exit → Act → World → Prop} {p q : Nat} {va : Option Addr} {vm vc : Nat} {d : Option Nat} {ps : String} {af : Array Edge} (hp : a.tmps[p]?.getD undef = .slice va vm vc) (hq : a.tmps[q]?.getD undef = .slice va vm vc) (hk : K (a.put d (.slice (some ⟨w.heap.size, 0, none⟩) 2 2)) (w.alloc (.cells #[.slice va vm vc, .slice va vm vc] 24))) :
    Oper.wp Try.prog { dst := d, op := Op.buildSlice 22 2 #[(0, Operand.tmp p), (1, Operand.tmp q)], type := 22, pos := ps, after := af, guard := none } a w K Q := by
  go_simp
  exact hk
set_option maxRecDepth 100000 in
theorem wp_append2 {a : Act} {w : World} {K : Act → World → Prop} {Q : Exit → Act → World → Prop} {p q B n cW vm vc : Nat} {aW va : Option Addr} {ws : List Value} {d : Option Nat} {ps : String} {af : Array Edge} (hp : a.tmps[p]?.getD undef = .slice aW n cW) (hq : a.tmps[q]?.getD undef = .slice (some ⟨w.heap.size, 0, none⟩) 2 2) (hr : w.ownsRow B 24 1 (.slice aW n cW) n ws) (hn : n + 2 ≤ 100000000) (hB : B ≤ w.heap.size)
    (hk : ∀ a' c' w', w'.ownsRow B 24 1 (.slice a' (n + 2) c') (n + 2) (ws ++ [.slice va vm vc, .slice va vm vc]) → Below B w w' → K (a.put d (.slice a' (n + 2) c')) w') :
    Oper.wp Try.prog { dst := d, op := Op.call { callee := Callee.builtin Builtin.append, args := #[Operand.tmp p, Operand.tmp q], argTypes := #[22, 22] }, type := 22, pos := ps, after := af, guard := none } a (w.alloc (.cells #[.slice va vm vc, .slice va vm vc] 24)) K Q := by
  obtain ⟨i0, hi, hz0, hz1, hz2⟩ := info_parts info_bytes
  have hnew : ∀ j u, ([.slice va vm vc, .slice va vm vc] : List Value)[j]? = some u → (w.alloc (.cells #[.slice va vm vc, .slice va vm vc] 24)).cell? ((⟨w.heap.size, 0, none⟩ : Addr).add j) = some u := by
    intro j u hj
    have e : (⟨w.heap.size, 0, none⟩ : Addr).add j = ⟨w.heap.size, j, none⟩ := by unfold Addr.add; split <;> simp_all
    rw [e, Joins.cell_of_block (World.alloc_heap_new w _)]
    simpa using hj
  obtain ⟨v', w', hrn, h1, h2, _⟩ := run_append_own (P := Try.prog) (w.alloc (.cells #[.slice va vm vc, .slice va vm vc] 24)) B 22 22 24 i0 (.slice none 0 0) 1 24 und_parts hi hz0 hz1 hz2 rfl (by decide) (.slice aW n cW) n ws (hr.alloc _) ⟨w.heap.size, 0, none⟩ 2 2 [.slice va vm vc, .slice va vm vc] rfl hnew (fun u hu => by simp at hu; subst hu; rfl) (by unfold maxLen; omega) (by omega) (by simp; omega)
  obtain ⟨a', c', rfl⟩ := rowForm h1
  have e1 : a.eval (Operand.tmp p) = .slice aW n cW := by simpa [Act.eval] using hp
  have e2 : a.eval (Operand.tmp q) = .slice (some ⟨w.heap.size, 0, none⟩) 2 2 := by simpa [Act.eval] using hq
  unfold Oper.wp execOp
  simp only [resolve, invoke, builtin, Sem.run_bind, Sem.run_pure, Result.andThen_ok, List.map_toArray, List.map_cons, List.map_nil, e1, e2, hrn]
  exact hk a' c' w' h1 (((Below.refl B w).alloc hB _).grown h2 (by simp; omega) (fun k hk => (hr.lt k hk).1))

theorem own_some {w : World} {B m c : Nat} {a : Option Addr} {xs : List Nat} (h : Own w B (.slice a m c) m xs) (hm : 0 < m) : ∃ g, a = some ⟨g, 0, none⟩ := by
  rcases h.2.2 with ⟨_, h0⟩ | ⟨g, cap, cur, h', _⟩
  · omega
  · simp only [Value.slice.injEq] at h'
    exact ⟨g, h'.1⟩
theorem rd_cell0 {w : World} {b n cap : Nat} {bs : List Nat} (h : Rd w (.slice (some ⟨b, 0, none⟩) n cap) bs) (i : Nat) (hi : i < n) : w.cell? ⟨b, i, none⟩ = some (.int .u8 ((bs.getD i 0 : Nat) : Int)) ∧ bs.getD i 0 < 256 := by
  obtain ⟨h1, a0, cap0, h2, h3, h4, h5, h6, h7⟩ := h
  simp only [Value.slice.injEq] at h2
  obtain ⟨rfl, rfl, rfl⟩ := h2
  rcases h7 with rfl | ⟨b', off', h8, hcell⟩
  · simp at hi
  · cases h8
    have := hcell i hi
    rw [Nat.zero_add] at this
    exact ⟨this, h1.get i⟩
set_option maxRecDepth 100000 in
set_option maxHeartbeats 8000000 in
theorem sets_walk {v1 : Value} {ks : List (List Nat)} {w : World} (b : Int) (ix : Int) (hix : -9223372036854775808 ≤ ix ∧ ix ≤ 9223372036854775807) (h1 : RdP w v1 ks) (hcap : ∀ a n c, v1 = .slice a n c → n ≤ c ∧ c ≤ maxLen) :
    Calls Try.prog 4 #[.int .i64 b, v1, .int .i64 ix] w fun e w' => e = .returned (.bool true) ∧ Below w.heap.size w w' := by
  have H1 : Hid (RdP w v1 ks) := h1
  obtain ⟨a1, c1, rfl⟩ := own_rdp_len h1
  have hcc := hcap _ _ _ rfl
  clear hcap
  have HS : Hid (∀ wx : World, Calls Try.prog 12 #[] wx fun e w' => e = .returned (.bool true) ∧ Below wx.heap.size wx w') := started_any
  have HN : Hid (∀ (z : Int) (wx : World), Calls Try.prog 14 #[.int .i64 z] wx fun e w' => e = .returned (.int .i64 z) ∧ w' = wx) := num_any
  have HB1 : Hid (∀ wx : World, Below w.heap.size w wx → Calls Try.prog 13 #[.int .i64 b, .slice a1 ks.length c1] wx fun e w' => ∃ a m c, e = .returned (.tuple #[.slice a m c, .int .i64 ((bldE b ks.length : Nat) : Int)]) ∧ Own w' wx.heap.size (.slice a m c) m (bldL b ks) ∧ Below wx.heap.size wx w') := fun wx hx => build_any b (H1.out.later hx)
  obtain ⟨nk, hnk⟩ : ∃ nk, nk = ks.length := ⟨_, rfl⟩
  have HNK : Hid (nk = ks.length) := hnk
  rw [← hnk] at HB1 hcc H1 ⊢
  obtain ⟨E, hE⟩ : ∃ E, E = bldE b nk := ⟨_, rfl⟩
  rw [← hE] at HB1
  have HE : Hid (E = bldE b nk) := hE
  clear hE hnk h1
  by_cases hgo : E = 0 ∧ nk ≠ 0 ∧ nk ≤ 524288
  · obtain ⟨rfl, hn0, hnl⟩ := hgo
    rcases build_cases b ks with hx | ⟨_, bn, rfl, hb20, hk20, hF⟩
    · rw [← HNK.out, ← HE.out] at hx; omega
    rw [hF] at HB1
    have hne : ks ≠ [] := fun e => hn0 (by rw [HNK.out, e]; rfl)
    have hkey0 : nk = ks.length := HNK.out
    have HDB : Hid (buildL bn (dblL ks nk) = buildL bn ks ∧ (dblL ks nk).length = 2 * nk) := by rw [hkey0]; exact ⟨build_same bn (mem_dblL ks), dblL_len ks _ (Nat.le_refl _)⟩
    have HPU : Hid (∀ i, i < nk → (ks.take i ++ ks.drop (i + 1)).length ≤ 1048576 ∧ ∀ x ∈ ks.take i ++ ks.drop (i + 1), x ∈ ks) := fun i hi => ⟨by simp; omega, fun x hx => by
      rcases List.mem_append.1 hx with h | h
      · exact List.mem_of_mem_take h
      · exact List.mem_of_mem_drop h⟩
    have HBY : Hid (Bys (buildL bn ks)) := build_bys hb20 hk20
    have hlF := build_len hb20 hk20
    have HBX : Hid (∀ (wx : World) (v : Value) (ls : List (List Nat)), RdP wx v ls → ls.length ≤ 1048576 → Calls Try.prog 13 #[.int .i64 (bn : Int), v] wx fun e w' => ∃ a m c, e = .returned (.tuple #[.slice a m c, .int .i64 0]) ∧ Own w' wx.heap.size (.slice a m c) m (buildL bn ls) ∧ Below wx.heap.size wx w') := fun wx v ls hv hl => by
      have h0 := HE.out
      have hz : bldE (bn : Int) ls.length = 0 := by
        unfold bldE at h0 ⊢
        split at h0
        · cases h0
        · rename_i hb
          rw [if_neg hb, if_neg (by omega)]
      have := build_any (bn : Int) hv
      unfold bldL at this
      rw [hz, if_pos rfl, Int.toNat_natCast] at this
      exact this
    obtain ⟨bk, fk, _, rfl, _, _⟩ := rdp_at H1.out 0 (by omega)
    have HKL : Hid (∀ wx : World, Below w.heap.size w wx → ∀ k, k < nk → ∃ au nu cu, wx.cell? ⟨bk, fk + k, none⟩ = some (.slice au nu cu) ∧ Rd wx (.slice au nu cu) (ks.getD k [])) := fun wx hx k hk => by
      obtain ⟨b', off', u, e1, e2, e3⟩ := rdp_at (H1.out.later hx) k hk
      cases e1
      obtain ⟨a1, n1, c1, rfl⟩ : ∃ a n cap, u = .slice a n cap := by obtain ⟨_, a1, c1, h2, _⟩ := e3; exact ⟨_, _, _, h2⟩
      exact ⟨_, _, _, e2, e3⟩
    clear hkey0
    have hb0 : ((nk : Int) == 0) = false := by rw [beq_eq_false_iff_ne]; omega
    have hb1 : decide ((524288 : Int) < (nk : Int)) = false := by rw [decide_eq_false_iff_not]; omega
    go_enter Try.func4, Try.ntmps4
    go_wp2_with (first | (go_at_call 12; refine Calls.mono (HS.out _) ?_; rintro e1 w1 ⟨rfl, b1⟩) | (go_at_call 13; refine Calls.mono (HB1.out _ b1) ?_; rintro e2 w2 ⟨a3, m3, c3, rfl, own3, b2⟩; have bb : Below w.heap.size w w2 := b1.trans (b2.mono b1.size); have rF : Hid (Rd w2 (.slice a3 m3 c3) (buildL bn ks) ∧ m3 = (buildL bn ks).length) := ⟨own3.rd HBY.out (by rw [own3.1]; omega), own3.1⟩; have hg3 := own_some own3 (by rw [own3.1]; have := hlF; omega); clear own3 b2) | (go_at_call 14; refine Calls.mono (HN.out _ _) ?_; rintro e4 w4 ⟨rfl, rfl⟩))
    obtain ⟨w0, hw0⟩ : ∃ w0, w0 = w4 := ⟨_, rfl⟩
    rw [← hw0] at bb rF ⊢
    clear hw0
    have BB0 : Hid (Below w.heap.size w w0) := bb
    go_loopw [10, 11] (fun l i wr => ∃ (j : Nat) (z : Int) (al : Option Addr) (cl : Nat), j ≤ nk ∧ i = .int .i64 z ∧ z = (nk : Int) - 1 - j ∧ l = .slice al (2 * j) cl ∧ Hid (∃ vs, wr.ownsRow w0.heap.size 24 1 (.slice al (2 * j) cl) (2 * j) vs ∧ (∀ wx : World, Below w0.heap.size w0 wx → Row wx vs (dblL ks j)) ∧ Below w0.heap.size w0 wr)) (fun _ i _ => (intOf i + 1).toNat)
    case atStart => exact ⟨0, _, none, 0, Nat.zero_le _, rfl, by simp, rfl, [], World.ownsRow_nil _ _ _ _, fun _ _ => Row.nil _, Below.refl _ _⟩
    case round =>
      obtain ⟨j, z, al, cl, hj, rfl, hz, rfl, HI⟩ := hrel
      by_cases hlt : j < nk
      · obtain ⟨kk, hkk⟩ : ∃ kk : Nat, kk = nk - 1 - j := ⟨_, rfl⟩
        have hzk : z = (kk : Int) := by omega
        subst hzk
        have hkn : kk < nk := by omega
        have hkn2 : (kk : Int) < (nk : Int) := by omega
        obtain ⟨vs, hown, hrow, hbw⟩ := HI.out
        have bwr : Below w.heap.size w wr := BB0.out.trans (hbw.mono BB0.out.size)
        obtain ⟨au, nu, cu, hcu, hru⟩ := HKL.out wr bwr kk hkn
        have HO : Hid (wr.ownsRow w0.heap.size 24 1 (.slice al (2 * j) cl) (2 * j) vs ∧ (∀ wx : World, Below w0.heap.size w0 wx → Row wx vs (dblL ks j)) ∧ Below w0.heap.size w0 wr ∧ Rd wr (.slice au nu cu) (ks.getD kk []) ∧ kk = nk - 1 - j) := ⟨hown, hrow, hbw, hru, hkk⟩
        have HRW : Hid (∀ wx : World, Below w0.heap.size w0 wx → Row wx vs (dblL ks j)) := hrow
        have HCU : Hid (∀ wx : World, Below w0.heap.size w0 wx → wx.cell? ⟨bk, fk + kk, none⟩ = some (.slice au nu cu)) := fun wx hx => by
          have hlt0 : bk < w.heap.size := by
            obtain ⟨_, _, _, hc0, _⟩ := HKL.out w (Below.refl _ _) kk hkn
            exact World.block_lt_of_cell? _ _ hc0
          exact ((BB0.out.trans (hx.mono BB0.out.size)).cell (p := ⟨bk, fk + kk, none⟩) hlt0).trans ((bwr.cell (p := ⟨bk, fk + kk, none⟩) hlt0).symm.trans hcu)
        have D0 : Below w0.heap.size w0 wr.drew := hbw.drew
        have hS0 := HCU.out _ D0
        clear HI hown hrow hbw bwr hru hkk hz
        have z0 : (0 : Int) ≤ (kk : Int) := by omega
        go_wp2
        refine wp_region_noPanic ?_
        refine wp_region_held_drew (S := fun wx => wx.cell? ⟨bk, fk + kk, none⟩ = some (.slice au nu cu)) (by kernel_rfl) hS0 (fun hHeld => ?_)
        refine wpAnyH_take (i := 0) (oi := { dst := some 48, op := _, type := _, pos := _, after := _, guard := _ }) (v := .slice al (2 * j) cl) rfl (by kernel_rfl) (by kernel_rfl) (by kernel_rfl) (fun _ _ _ h => h) (Or.inl ⟨by kernel_rfl, fun wy hy => by go_simp⟩) (by assumption) ?_
        try simp only [Act.put, List.setIfInBounds_toArray, List.set_cons_zero, List.set_cons_succ]
        refine wpAnyH_take (i := 1) (oi := { dst := some 49, op := _, type := _, pos := _, after := _, guard := _ }) (v := .slice (some ⟨bk, fk, none⟩) nk c1) rfl (by kernel_rfl) (by kernel_rfl) (by kernel_rfl) (fun _ _ _ h => h) (Or.inl ⟨by kernel_rfl, fun wy hy => by go_simp⟩) (by assumption) ?_
        try simp only [Act.put, List.setIfInBounds_toArray, List.set_cons_zero, List.set_cons_succ]
        refine wpAnyH_take (i := 2) (oi := { dst := some 50, op := _, type := _, pos := _, after := _, guard := _ }) (v := .int .i64 (kk : Int)) rfl (by kernel_rfl) (by kernel_rfl) (by kernel_rfl) (fun _ _ _ h => h) (Or.inl ⟨by kernel_rfl, fun wy hy => by go_simp⟩) (by assumption) ?_
        try simp only [Act.put, List.setIfInBounds_toArray, List.set_cons_zero, List.set_cons_succ]
        refine wpAnyH_take (i := 3) (oi := { dst := some 51, op := _, type := _, pos := _, after := _, guard := _ }) (v := .pointer (some ⟨bk, fk + kk, none⟩)) rfl (by kernel_rfl) (by kernel_rfl) (by kernel_rfl) (fun _ _ _ h => h) (Or.inl ⟨by kernel_rfl, fun wy hy => by go_simp⟩) (by assumption) ?_
        try simp only [Act.put, List.setIfInBounds_toArray, List.set_cons_zero, List.set_cons_succ]
        refine wpAnyH_take (i := 4) (oi := { dst := some 52, op := _, type := _, pos := _, after := _, guard := _ }) (v := .slice au nu cu) rfl (by kernel_rfl) (by kernel_rfl) (by kernel_rfl) (fun _ _ _ h => h) (Or.inl ⟨by kernel_rfl, fun wy hy => by go_simp⟩) (by assumption) ?_
        try simp only [Act.put, List.setIfInBounds_toArray, List.set_cons_zero, List.set_cons_succ]
        refine wpAnyH_take (i := 5) (oi := { dst := some 53, op := _, type := _, pos := _, after := _, guard := _ }) (v := .slice (some ⟨bk, fk, none⟩) nk c1) rfl (by kernel_rfl) (by kernel_rfl) (by kernel_rfl) (fun _ _ _ h => h) (Or.inl ⟨by kernel_rfl, fun wy hy => by go_simp⟩) (by assumption) ?_
        try simp only [Act.put, List.setIfInBounds_toArray, List.set_cons_zero, List.set_cons_succ]
        refine wpAnyH_take (i := 6) (oi := { dst := some 54, op := _, type := _, pos := _, after := _, guard := _ }) (v := .int .i64 (kk : Int)) rfl (by kernel_rfl) (by kernel_rfl) (by kernel_rfl) (fun _ _ _ h => h) (Or.inl ⟨by kernel_rfl, fun wy hy => by go_simp⟩) (by assumption) ?_
        try simp only [Act.put, List.setIfInBounds_toArray, List.set_cons_zero, List.set_cons_succ]
        refine wpAnyH_take (i := 7) (oi := { dst := some 55, op := _, type := _, pos := _, after := _, guard := _ }) (v := .pointer (some ⟨bk, fk + kk, none⟩)) rfl (by kernel_rfl) (by kernel_rfl) (by kernel_rfl) (fun _ _ _ h => h) (Or.inl ⟨by kernel_rfl, fun wy hy => by go_simp⟩) (by assumption) ?_
        try simp only [Act.put, List.setIfInBounds_toArray, List.set_cons_zero, List.set_cons_succ]
        refine wpAnyH_take (i := 8) (oi := { dst := some 56, op := _, type := _, pos := _, after := _, guard := _ }) (v := .slice au nu cu) rfl (by kernel_rfl) (by kernel_rfl) (by kernel_rfl) (fun _ _ _ h => h) (Or.inl ⟨by kernel_rfl, fun wy hy => by go_simp⟩) (by assumption) ?_
        try simp only [Act.put, List.setIfInBounds_toArray, List.set_cons_zero, List.set_cons_succ]
        refine wpAnyH_ready (rs := [9]) (by kernel_rfl) (by simp) ?_
        refine AllReadyH.cons (o := { dst := some 57, op := _, type := _, pos := _, after := _, guard := _ }) rfl (fun K hK => ?_) AllReadyH.nil
        refine wp_build2 (va := au) (vm := nu) (vc := cu) rfl rfl ?_
        refine hK.out _ _ (HCU.out _ (D0.alloc D0.size _)) (fun hHeld => ?_)
        clear hK K
        try simp only [Act.put, List.setIfInBounds_toArray, List.set_cons_zero, List.set_cons_succ]
        refine wpAnyH_ready (rs := [10]) (by kernel_rfl) (by simp) ?_
        refine AllReadyH.cons (o := { dst := some 58, op := _, type := _, pos := _, after := _, guard := _ }) rfl (fun K hK => ?_) AllReadyH.nil
        refine wp_append2 (w := wr.drew) (va := au) (vm := nu) (vc := cu) (ws := vs) (B := w0.heap.size) rfl rfl HO.out.1 (by omega) D0.size ?_
        intro a' c' w9 own9 b9
        have bw9 : Below w0.heap.size w0 w9 := D0.trans b9
        refine hK.out _ _ (HCU.out _ bw9) (fun hHeld => ?_)
        clear hK K
        try simp only [Act.put, List.setIfInBounds_toArray, List.set_cons_zero, List.set_cons_succ]
        refine wpAnyH_take (i := 11) (oi := { dst := some 10, op := _, type := _, pos := _, after := _, guard := _ }) (v := (.slice a' (2 * j + 2) c')) rfl (by kernel_rfl) (by kernel_rfl) (by kernel_rfl) (fun _ _ _ h => h) (Or.inl ⟨by kernel_rfl, fun wy hy => by go_simp⟩) (by assumption) ?_
        try simp only [Act.put, List.setIfInBounds_toArray, List.set_cons_zero, List.set_cons_succ]
        refine wpAnyH_done (by kernel_rfl) ?_ _
        refine NoPanic.normal ?_
        go_wp2
        refine ⟨⟨j + 1, (kk : Int) - 1, a', c', by omega, rfl, by have := HO.out.2.2.2.2; omega, rfl, vs ++ [.slice au nu cu, .slice au nu cu], own9, ?_, bw9⟩, by simp [intOf]⟩
        have hkl : j < ks.length := by rw [← HNK.out]; exact hlt
        rw [dblL_succ ks j hkl, ← HNK.out, ← HO.out.2.2.2.2]
        intro wx hx
        have rK : Rd wx (.slice au nu cu) (ks.getD kk []) := by
          obtain ⟨au', nu', cu', hc2, hr2⟩ := HKL.out wx (BB0.out.trans (hx.mono BB0.out.size)) kk hkn
          rw [HCU.out _ hx] at hc2
          cases hc2
          exact hr2
        exact (HRW.out wx hx).append ⟨rfl, fun i hi => by
          match i, hi with
          | 0, _ => exact ⟨_, rfl, rK⟩
          | 1, _ => exact ⟨_, rfl, rK⟩⟩
      · have hz1 : z = -1 := by omega
        subst hz1
        have hjn : j = nk := by omega
        subst hjn
        obtain ⟨vs, hown, hrow, hbw⟩ := HI.out
        have bwr : Below w.heap.size w wr := BB0.out.trans (hbw.mono BB0.out.size)
        have RL : Hid (RdP wr (.slice al (2 * j) cl) (dblL ks j)) := rdp_own hown (hrow wr hbw) (by rw [HDB.out.2]) (by omega)
        have RFr : Hid (Rd wr (.slice a3 m3 c3) (buildL bn ks) ∧ Below w.heap.size w wr) := ⟨rF.out.1.later hbw, bwr⟩
        clear HI hown hrow hbw bwr
        have hj0 : (0 : Int) < (j : Int) := by omega
        have ht1 := Int.tmod_lt_of_pos ix hj0
        have ht2 : -(j : Int) < ix.tmod (j : Int) := by
          have := Int.tmod_lt_of_pos (-ix) hj0
          rw [Int.neg_tmod] at this
          omega
        obtain ⟨g3, rfl⟩ := hg3
        obtain ⟨ii, hii, hit⟩ : ∃ ii : Nat, ii < j ∧ ((0 ≤ ix.tmod (j : Int) ∧ ix.tmod (j : Int) = (ii : Int)) ∨ (ix.tmod (j : Int) < 0 ∧ ix.tmod (j : Int) + (j : Int) = (ii : Int))) := by
          by_cases h : 0 ≤ ix.tmod (j : Int)
          · exact ⟨(ix.tmod (j : Int)).toNat, by omega, .inl ⟨h, by omega⟩⟩
          · exact ⟨(ix.tmod (j : Int) + j).toNat, by omega, .inr ⟨by omega, by omega⟩⟩
        obtain ⟨Hl, hHl⟩ : ∃ Hl, Hl = ks.take ii ++ ks.drop (ii + 1) := ⟨_, rfl⟩
        have HHl : Hid (Hl = ks.take ii ++ ks.drop (ii + 1)) := hHl
        have hpu := HPU.out ii hii
        rw [← hHl] at hpu
        have HLH : Hid (Hl.length ≤ 1048576) := hpu.1
        obtain ⟨s1, s2, s3, s4, s5, s6⟩ := sets_pure (b := bn) (ks := ks) (hs := Hl) hb20 hk20 hpu.1 hpu.2 hne
        have hlH := build_len (b := bn) (ks := Hl) hb20 hpu.1
        have HBH : Hid (Bys (buildL bn Hl)) := build_bys hb20 hpu.1
        obtain ⟨lH, hlHe⟩ : ∃ lH, lH = (buildL bn Hl).length := ⟨_, rfl⟩
        have HlH : Hid (lH = (buildL bn Hl).length) := hlHe
        have hm3 : m3 = (buildL bn ks).length := rF.out.2
        have hFl := hlF.1
        obtain ⟨o1, ho1⟩ : ∃ o, o = onesL (buildL bn ks) := ⟨_, rfl⟩
        obtain ⟨o2, ho2⟩ : ∃ o, o = onesL (buildL bn Hl) := ⟨_, rfl⟩
        obtain ⟨p1, hp1⟩ : ∃ p, p = (buildL bn ks).getD 1 0 := ⟨_, rfl⟩
        obtain ⟨pj, hpj⟩ : ∃ pj, pj = p1 * j := ⟨_, rfl⟩
        have hp1l : p1 < 256 := by rw [hp1]; exact HBY.out.get 1
        have hpjl : pj ≤ 256 * 524288 := by rw [hpj]; exact Nat.mul_le_mul (by omega) (by omega)
        have hmul : (p1 : Int) * (j : Int) = (pj : Int) := by rw [hpj]; simp
        have HO1 : Hid (∀ (wx : World) (va : Value), Rd wx va (buildL bn ks) → Calls Try.prog 20 #[va] wx fun e w' => e = .returned (.int .i64 (o1 : Int)) ∧ Below wx.heap.size wx w') := fun wx va h => by rw [ho1]; exact ones_any h
        have HO2 : Hid (∀ (wx : World) (va : Value), Rd wx va (buildL bn Hl) → Calls Try.prog 20 #[va] wx fun e w' => e = .returned (.int .i64 (o2 : Int)) ∧ Below wx.heap.size wx w') := fun wx va h => by rw [ho2]; exact ones_any h
        have Hp1 : Hid (p1 = (buildL bn ks).getD 1 0) := hp1
        rw [← ho1] at s3 s4 s5 s6
        rw [← ho2] at s5
        rw [← hp1, ← HNK.out, ← hpj] at s4
        rw [← hm3] at s1 s2 s5 hlF
        rw [← hlHe] at s1 s2 s5 hlH
        have HS2 : Hid (lH = m3 → ∀ k, k < m3 → (6 ≤ k → (buildL bn Hl).getD k 0 &&& (buildL bn ks).getD k 0 = (buildL bn Hl).getD k 0) ∧ (k < 6 → (buildL bn Hl).getD k 0 = (buildL bn ks).getD k 0)) := s2
        have q1 : (1 : Int) ≤ (o1 : Int) := by omega
        have q2 : (o1 : Int) ≤ (pj : Int) := by omega
        have q3 : (14 : Int) ≤ (m3 : Int) := by omega
        have q4 : (14 : Int) ≤ (lH : Int) := by omega
        have HLT : Hid (lH = m3 → o2 ≤ o1) := s5
        clear hHl hpu hlHe ho1 ho2 hp1 hpj s2 s5 hm3
        rcases hit with ⟨hp0, hp2⟩ | ⟨hp0, hp2⟩
        · have hp3 : decide (ix.tmod (j : Int) < 0) = false := by rw [decide_eq_false_iff_not]; omega
          have hp4 : ¬ (ii : Int) < 0 := by omega
          by_cases hlm : lH = m3
          · subst hlm
            have hoo : (o2 : Int) ≤ (o1 : Int) := by have := HLT.out rfl; omega
            go_wp2_with (first | (have RRR := RL; go_at_call 13; refine Calls.mono (HBX.out _ _ _ RL.out (by rw [HDB.out.2]; omega)) ?_; rintro e5 w5 ⟨a5, m5, c5, rfl, own5, b5⟩; have r5 : Hid (Rd w5 (.slice (some ⟨g3, 0, none⟩) _ c3) (buildL bn ks) ∧ Rd w5 (.slice a5 m5 c5) (buildL bn ks) ∧ Below w.heap.size w w5) := ⟨RFr.out.1.later b5, (by have := own5; rw [HDB.out.1] at this; exact this.rd HBY.out (by rw [this.1]; omega)), RFr.out.2.trans (b5.mono RFr.out.2.size)⟩; clear RL RRR own5) | (have RR6 := r6; go_at_call 13; refine Calls.mono (HBX.out _ _ _ r6.out.1 HLH.out) ?_; rintro e7 w7 ⟨a7, m7, c7, rfl, own7, b7⟩; obtain ⟨g7, rfl⟩ := own_some own7 (by have h1 := own7.1; have h2 := HlH.out; omega); have em7 : m7 = lH := own7.1.trans HlH.out.symm; subst em7; have r7 : Hid (Rd w7 (.slice (some ⟨g3, 0, none⟩) _ c3) (buildL bn ks) ∧ Rd w7 (.slice (some ⟨g7, 0, none⟩) _ c7) (buildL bn Hl) ∧ Below w.heap.size w w7) := ⟨r6.out.2.1.later b7, own7.rd HBH.out (by have h2 := HlH.out; omega), r6.out.2.2.trans (b7.mono r6.out.2.2.size)⟩; clear r6 RR6 own7) | (go_at_call 14; refine Calls.mono (HN.out _ _) ?_; rintro e4 w4 ⟨rfl, rfl⟩) | (go_at_call 18; refine Calls.mono (alike_any r5.out.1 r5.out.2.1) ?_; rintro ea wa ⟨rfl, rfl⟩; rw [show decide (buildL bn ks = buildL bn ks) = true by simp]) | (go_at_call 19; refine Calls.mono (without_any (H1.out.later r5.out.2.2) hcc.1 hcc.2 (by omega) ii hii) ?_; rintro e6 w6 ⟨a6, m6, c6, rfl, rp6, b6⟩; have r6 : Hid (RdP w6 (.slice a6 m6 c6) Hl ∧ Rd w6 (.slice (some ⟨g3, 0, none⟩) _ c3) (buildL bn ks) ∧ Below w.heap.size w w6) := ⟨by rw [HHl.out]; exact rp6, r5.out.1.later b6, r5.out.2.2.trans (b6.mono r5.out.2.2.size)⟩; clear rp6) | (have RR8 := r8; go_at_call 20; refine Calls.mono (HO2.out _ _ r8.out.2.1) ?_; rintro e9 w9 ⟨rfl, b9⟩; have b10 : Below w.heap.size w w9 := r8.out.2.2.trans (b9.mono r8.out.2.2.size)) | (go_at_call 20; refine Calls.mono (HO1.out _ _ r7.out.1) ?_; rintro e8 w8 ⟨rfl, b8⟩; have r8 : Hid (Rd w8 (.slice (some ⟨g3, 0, none⟩) _ c3) (buildL bn ks) ∧ Rd w8 (.slice (some ⟨g7, 0, none⟩) _ c7) (buildL bn Hl) ∧ Below w.heap.size w w8) := ⟨r7.out.1.later b8, r7.out.2.1.later b8, r7.out.2.2.trans (b8.mono r7.out.2.2.size)⟩; have cp : w8.cell? ⟨g3, 1, none⟩ = some (.int .u8 (p1 : Int)) := (by have := (rd_cell0 r8.out.1 1 (by omega)).1; rw [← Hp1.out] at this; exact this)))
            have HF7 : Hid (∀ k, k < m7 → (6 ≤ k → (buildL bn Hl).getD k 0 &&& (buildL bn ks).getD k 0 = (buildL bn Hl).getD k 0) ∧ (k < 6 → (buildL bn Hl).getD k 0 = (buildL bn ks).getD k 0)) := HS2.out (by first | rfl | trivial)
            clear HS2 RFr rF r5 b5 b6 b7 BB0 bb
            go_loopw [14] (fun i wy => ∃ k : Nat, k ≤ m7 ∧ i = .int .i64 (k : Int) ∧ Hid (Rd wy (.slice (some ⟨g3, 0, none⟩) m7 c3) (buildL bn ks) ∧ Rd wy (.slice (some ⟨g7, 0, none⟩) m7 c7) (buildL bn Hl) ∧ Below w.heap.size w wy)) (fun i _ => m7 - (intOf i).toNat)
            case atStart => exact ⟨0, Nat.zero_le _, rfl, r7.out⟩
            case round =>
              obtain ⟨k, hk, rfl, HJ⟩ := hrel
              clear r7
              by_cases hlt : k < m7
              · have hlt2 : (k : Int) < (m7 : Int) := by omega
                have hlt3 : (0 : Int) ≤ (k : Int) := by omega
                obtain ⟨cx, lx⟩ := rd_cell0 HJ.out.2.1 k hlt
                obtain ⟨cy, ly⟩ := rd_cell0 HJ.out.1 k hlt
                have hf := HF7.out k hlt
                generalize (buildL bn Hl).getD k 0 = x at *
                generalize (buildL bn ks).getD k 0 = y at *
                have HEND : Hid (∀ wz : World, Below wr.heap.size wr wz → Rd wz (.slice (some ⟨g3, 0, none⟩) m7 c3) (buildL bn ks) ∧ Rd wz (.slice (some ⟨g7, 0, none⟩) m7 c7) (buildL bn Hl) ∧ Below w.heap.size w wz) := fun wz hz => ⟨HJ.out.1.later hz, HJ.out.2.1.later hz, HJ.out.2.2.trans (hz.mono HJ.out.2.2.size)⟩
                by_cases h6 : 6 ≤ k
                · have ha : bits .and .u8 (x : Int) (y : Int) = (x : Int) := by rw [u8_and_nat x y lx ly, hf.1 h6]
                  have h6i : (6 : Int) ≤ (k : Int) := by omega
                  have h6d : decide ((k : Int) < 6) = false := by rw [decide_eq_false_iff_not]; omega
                  clear hf
                  go_wp2
                  go_quiet (fail)
                  go_wp2
                  refine ⟨⟨k + 1, by omega, by go_num, HEND.out _ (below_drewN (Below.refl _ _) _)⟩, by simp [intOf]; omega⟩
                · have hxy := hf.2 (by omega)
                  subst hxy
                  have h6i : (k : Int) < 6 := by omega
                  have h6d : decide ((6 : Int) ≤ (k : Int)) = false := by rw [decide_eq_false_iff_not]; omega
                  clear hf
                  go_wp2
                  go_quiet (fail)
                  go_wp2
                  refine ⟨⟨k + 1, by omega, by go_num, HEND.out _ (below_drewN (Below.refl _ _) _)⟩, by simp [intOf]; omega⟩
              · have r7 := HJ
                go_wp2_with (first | (have RRR := RL; go_at_call 13; refine Calls.mono (HBX.out _ _ _ RL.out (by rw [HDB.out.2]; omega)) ?_; rintro e5 w5 ⟨a5, m5, c5, rfl, own5, b5⟩; have r5 : Hid (Rd w5 (.slice (some ⟨g3, 0, none⟩) _ c3) (buildL bn ks) ∧ Rd w5 (.slice a5 m5 c5) (buildL bn ks) ∧ Below w.heap.size w w5) := ⟨RFr.out.1.later b5, (by have := own5; rw [HDB.out.1] at this; exact this.rd HBY.out (by rw [this.1]; omega)), RFr.out.2.trans (b5.mono RFr.out.2.size)⟩; clear RL RRR own5) | (have RR6 := r6; go_at_call 13; refine Calls.mono (HBX.out _ _ _ r6.out.1 HLH.out) ?_; rintro e7 w7 ⟨a7, m7, c7, rfl, own7, b7⟩; obtain ⟨g7, rfl⟩ := own_some own7 (by have h1 := own7.1; have h2 := HlH.out; omega); have em7 : m7 = lH := own7.1.trans HlH.out.symm; subst em7; have r7 : Hid (Rd w7 (.slice (some ⟨g3, 0, none⟩) _ c3) (buildL bn ks) ∧ Rd w7 (.slice (some ⟨g7, 0, none⟩) _ c7) (buildL bn Hl) ∧ Below w.heap.size w w7) := ⟨r6.out.2.1.later b7, own7.rd HBH.out (by have h2 := HlH.out; omega), r6.out.2.2.trans (b7.mono r6.out.2.2.size)⟩; clear r6 RR6 own7) | (go_at_call 14; refine Calls.mono (HN.out _ _) ?_; rintro e4 w4 ⟨rfl, rfl⟩) | (go_at_call 18; refine Calls.mono (alike_any r5.out.1 r5.out.2.1) ?_; rintro ea wa ⟨rfl, rfl⟩; rw [show decide (buildL bn ks = buildL bn ks) = true by simp]) | (go_at_call 19; refine Calls.mono (without_any (H1.out.later r5.out.2.2) hcc.1 hcc.2 (by omega) ii hii) ?_; rintro e6 w6 ⟨a6, m6, c6, rfl, rp6, b6⟩; have r6 : Hid (RdP w6 (.slice a6 m6 c6) Hl ∧ Rd w6 (.slice (some ⟨g3, 0, none⟩) _ c3) (buildL bn ks) ∧ Below w.heap.size w w6) := ⟨by rw [HHl.out]; exact rp6, r5.out.1.later b6, r5.out.2.2.trans (b6.mono r5.out.2.2.size)⟩; clear rp6) | (have RR8 := r8; go_at_call 20; refine Calls.mono (HO2.out _ _ r8.out.2.1) ?_; rintro e9 w9 ⟨rfl, b9⟩; have b10 : Below w.heap.size w w9 := r8.out.2.2.trans (b9.mono r8.out.2.2.size)) | (go_at_call 20; refine Calls.mono (HO1.out _ _ r7.out.1) ?_; rintro e8 w8 ⟨rfl, b8⟩; have r8 : Hid (Rd w8 (.slice (some ⟨g3, 0, none⟩) _ c3) (buildL bn ks) ∧ Rd w8 (.slice (some ⟨g7, 0, none⟩) _ c7) (buildL bn Hl) ∧ Below w.heap.size w w8) := ⟨r7.out.1.later b8, r7.out.2.1.later b8, r7.out.2.2.trans (b8.mono r7.out.2.2.size)⟩; have cp : w8.cell? ⟨g3, 1, none⟩ = some (.int .u8 (p1 : Int)) := (by have := (rd_cell0 r8.out.1 1 (by omega)).1; rw [← Hp1.out] at this; exact this)))
                go_ret
                exact ⟨rfl, b10⟩
          · have hlm1 : ((lH : Int) == (m3 : Int)) = false := by rw [beq_eq_false_iff_ne]; omega
            have hlm2 : (lH : Int) < (m3 : Int) := by omega
            have hlm3 : ¬ ((lH : Int) = (m3 : Int)) := by omega
            go_wp2_with (first | (have RRR := RL; go_at_call 13; refine Calls.mono (HBX.out _ _ _ RL.out (by rw [HDB.out.2]; omega)) ?_; rintro e5 w5 ⟨a5, m5, c5, rfl, own5, b5⟩; have r5 : Hid (Rd w5 (.slice (some ⟨g3, 0, none⟩) _ c3) (buildL bn ks) ∧ Rd w5 (.slice a5 m5 c5) (buildL bn ks) ∧ Below w.heap.size w w5) := ⟨RFr.out.1.later b5, (by have := own5; rw [HDB.out.1] at this; exact this.rd HBY.out (by rw [this.1]; omega)), RFr.out.2.trans (b5.mono RFr.out.2.size)⟩; clear RL RRR own5) | (have RR6 := r6; go_at_call 13; refine Calls.mono (HBX.out _ _ _ r6.out.1 HLH.out) ?_; rintro e7 w7 ⟨a7, m7, c7, rfl, own7, b7⟩; obtain ⟨g7, rfl⟩ := own_some own7 (by have h1 := own7.1; have h2 := HlH.out; omega); have em7 : m7 = lH := own7.1.trans HlH.out.symm; subst em7; have r7 : Hid (Rd w7 (.slice (some ⟨g3, 0, none⟩) _ c3) (buildL bn ks) ∧ Rd w7 (.slice (some ⟨g7, 0, none⟩) _ c7) (buildL bn Hl) ∧ Below w.heap.size w w7) := ⟨r6.out.2.1.later b7, own7.rd HBH.out (by have h2 := HlH.out; omega), r6.out.2.2.trans (b7.mono r6.out.2.2.size)⟩; clear r6 RR6 own7) | (go_at_call 14; refine Calls.mono (HN.out _ _) ?_; rintro e4 w4 ⟨rfl, rfl⟩) | (go_at_call 18; refine Calls.mono (alike_any r5.out.1 r5.out.2.1) ?_; rintro ea wa ⟨rfl, rfl⟩; rw [show decide (buildL bn ks = buildL bn ks) = true by simp]) | (go_at_call 19; refine Calls.mono (without_any (H1.out.later r5.out.2.2) hcc.1 hcc.2 (by omega) ii hii) ?_; rintro e6 w6 ⟨a6, m6, c6, rfl, rp6, b6⟩; have r6 : Hid (RdP w6 (.slice a6 m6 c6) Hl ∧ Rd w6 (.slice (some ⟨g3, 0, none⟩) _ c3) (buildL bn ks) ∧ Below w.heap.size w w6) := ⟨by rw [HHl.out]; exact rp6, r5.out.1.later b6, r5.out.2.2.trans (b6.mono r5.out.2.2.size)⟩; clear rp6) | (have RR8 := r8; go_at_call 20; refine Calls.mono (HO2.out _ _ r8.out.2.1) ?_; rintro e9 w9 ⟨rfl, b9⟩; have b10 : Below w.heap.size w w9 := r8.out.2.2.trans (b9.mono r8.out.2.2.size)) | (go_at_call 20; refine Calls.mono (HO1.out _ _ r7.out.1) ?_; rintro e8 w8 ⟨rfl, b8⟩; have r8 : Hid (Rd w8 (.slice (some ⟨g3, 0, none⟩) _ c3) (buildL bn ks) ∧ Rd w8 (.slice (some ⟨g7, 0, none⟩) _ c7) (buildL bn Hl) ∧ Below w.heap.size w w8) := ⟨r7.out.1.later b8, r7.out.2.1.later b8, r7.out.2.2.trans (b8.mono r7.out.2.2.size)⟩; have cp : w8.cell? ⟨g3, 1, none⟩ = some (.int .u8 (p1 : Int)) := (by have := (rd_cell0 r8.out.1 1 (by omega)).1; rw [← Hp1.out] at this; exact this)))
            go_ret
            exact ⟨rfl, r8.out.2.2⟩
        · have hp3 : decide (ix.tmod (j : Int) < 0) = true := by rw [decide_eq_true_iff]; omega
          by_cases hlm : lH = m3
          · subst hlm
            have hoo : (o2 : Int) ≤ (o1 : Int) := by have := HLT.out rfl; omega
            go_wp2_with (first | (have RRR := RL; go_at_call 13; refine Calls.mono (HBX.out _ _ _ RL.out (by rw [HDB.out.2]; omega)) ?_; rintro e5 w5 ⟨a5, m5, c5, rfl, own5, b5⟩; have r5 : Hid (Rd w5 (.slice (some ⟨g3, 0, none⟩) _ c3) (buildL bn ks) ∧ Rd w5 (.slice a5 m5 c5) (buildL bn ks) ∧ Below w.heap.size w w5) := ⟨RFr.out.1.later b5, (by have := own5; rw [HDB.out.1] at this; exact this.rd HBY.out (by rw [this.1]; omega)), RFr.out.2.trans (b5.mono RFr.out.2.size)⟩; clear RL RRR own5) | (have RR6 := r6; go_at_call 13; refine Calls.mono (HBX.out _ _ _ r6.out.1 HLH.out) ?_; rintro e7 w7 ⟨a7, m7, c7, rfl, own7, b7⟩; obtain ⟨g7, rfl⟩ := own_some own7 (by have h1 := own7.1; have h2 := HlH.out; omega); have em7 : m7 = lH := own7.1.trans HlH.out.symm; subst em7; have r7 : Hid (Rd w7 (.slice (some ⟨g3, 0, none⟩) _ c3) (buildL bn ks) ∧ Rd w7 (.slice (some ⟨g7, 0, none⟩) _ c7) (buildL bn Hl) ∧ Below w.heap.size w w7) := ⟨r6.out.2.1.later b7, own7.rd HBH.out (by have h2 := HlH.out; omega), r6.out.2.2.trans (b7.mono r6.out.2.2.size)⟩; clear r6 RR6 own7) | (go_at_call 14; refine Calls.mono (HN.out _ _) ?_; rintro e4 w4 ⟨rfl, rfl⟩) | (go_at_call 18; refine Calls.mono (alike_any r5.out.1 r5.out.2.1) ?_; rintro ea wa ⟨rfl, rfl⟩; rw [show decide (buildL bn ks = buildL bn ks) = true by simp]) | (go_at_call 19; refine Calls.mono (without_any (H1.out.later r5.out.2.2) hcc.1 hcc.2 (by omega) ii hii) ?_; rintro e6 w6 ⟨a6, m6, c6, rfl, rp6, b6⟩; have r6 : Hid (RdP w6 (.slice a6 m6 c6) Hl ∧ Rd w6 (.slice (some ⟨g3, 0, none⟩) _ c3) (buildL bn ks) ∧ Below w.heap.size w w6) := ⟨by rw [HHl.out]; exact rp6, r5.out.1.later b6, r5.out.2.2.trans (b6.mono r5.out.2.2.size)⟩; clear rp6) | (have RR8 := r8; go_at_call 20; refine Calls.mono (HO2.out _ _ r8.out.2.1) ?_; rintro e9 w9 ⟨rfl, b9⟩; have b10 : Below w.heap.size w w9 := r8.out.2.2.trans (b9.mono r8.out.2.2.size)) | (go_at_call 20; refine Calls.mono (HO1.out _ _ r7.out.1) ?_; rintro e8 w8 ⟨rfl, b8⟩; have r8 : Hid (Rd w8 (.slice (some ⟨g3, 0, none⟩) _ c3) (buildL bn ks) ∧ Rd w8 (.slice (some ⟨g7, 0, none⟩) _ c7) (buildL bn Hl) ∧ Below w.heap.size w w8) := ⟨r7.out.1.later b8, r7.out.2.1.later b8, r7.out.2.2.trans (b8.mono r7.out.2.2.size)⟩; have cp : w8.cell? ⟨g3, 1, none⟩ = some (.int .u8 (p1 : Int)) := (by have := (rd_cell0 r8.out.1 1 (by omega)).1; rw [← Hp1.out] at this; exact this)))
            have HF7 : Hid (∀ k, k < m7 → (6 ≤ k → (buildL bn Hl).getD k 0 &&& (buildL bn ks).getD k 0 = (buildL bn Hl).getD k 0) ∧ (k < 6 → (buildL bn Hl).getD k 0 = (buildL bn ks).getD k 0)) := HS2.out (by first | rfl | trivial)
            clear HS2 RFr rF r5 b5 b6 b7 BB0 bb
            go_loopw [14] (fun i wy => ∃ k : Nat, k ≤ m7 ∧ i = .int .i64 (k : Int) ∧ Hid (Rd wy (.slice (some ⟨g3, 0, none⟩) m7 c3) (buildL bn ks) ∧ Rd wy (.slice (some ⟨g7, 0, none⟩) m7 c7) (buildL bn Hl) ∧ Below w.heap.size w wy)) (fun i _ => m7 - (intOf i).toNat)
            case atStart => exact ⟨0, Nat.zero_le _, rfl, r7.out⟩
            case round =>
              obtain ⟨k, hk, rfl, HJ⟩ := hrel
              clear r7
              by_cases hlt : k < m7
              · have hlt2 : (k : Int) < (m7 : Int) := by omega
                have hlt3 : (0 : Int) ≤ (k : Int) := by omega
                obtain ⟨cx, lx⟩ := rd_cell0 HJ.out.2.1 k hlt
                obtain ⟨cy, ly⟩ := rd_cell0 HJ.out.1 k hlt
                have hf := HF7.out k hlt
                generalize (buildL bn Hl).getD k 0 = x at *
                generalize (buildL bn ks).getD k 0 = y at *
                have HEND : Hid (∀ wz : World, Below wr.heap.size wr wz → Rd wz (.slice (some ⟨g3, 0, none⟩) m7 c3) (buildL bn ks) ∧ Rd wz (.slice (some ⟨g7, 0, none⟩) m7 c7) (buildL bn Hl) ∧ Below w.heap.size w wz) := fun wz hz => ⟨HJ.out.1.later hz, HJ.out.2.1.later hz, HJ.out.2.2.trans (hz.mono HJ.out.2.2.size)⟩
                by_cases h6 : 6 ≤ k
                · have ha : bits .and .u8 (x : Int) (y : Int) = (x : Int) := by rw [u8_and_nat x y lx ly, hf.1 h6]
                  have h6i : (6 : Int) ≤ (k : Int) := by omega
                  have h6d : decide ((k : Int) < 6) = false := by rw [decide_eq_false_iff_not]; omega
                  clear hf
                  go_wp2
                  go_quiet (fail)
                  go_wp2
                  refine ⟨⟨k + 1, by omega, by go_num, HEND.out _ (below_drewN (Below.refl _ _) _)⟩, by simp [intOf]; omega⟩
                · have hxy := hf.2 (by omega)
                  subst hxy
                  have h6i : (k : Int) < 6 := by omega
                  have h6d : decide ((6 : Int) ≤ (k : Int)) = false := by rw [decide_eq_false_iff_not]; omega
                  clear hf
                  go_wp2
                  go_quiet (fail)
                  go_wp2
                  refine ⟨⟨k + 1, by omega, by go_num, HEND.out _ (below_drewN (Below.refl _ _) _)⟩, by simp [intOf]; omega⟩
              · have r7 := HJ
                go_wp2_with (first | (have RRR := RL; go_at_call 13; refine Calls.mono (HBX.out _ _ _ RL.out (by rw [HDB.out.2]; omega)) ?_; rintro e5 w5 ⟨a5, m5, c5, rfl, own5, b5⟩; have r5 : Hid (Rd w5 (.slice (some ⟨g3, 0, none⟩) _ c3) (buildL bn ks) ∧ Rd w5 (.slice a5 m5 c5) (buildL bn ks) ∧ Below w.heap.size w w5) := ⟨RFr.out.1.later b5, (by have := own5; rw [HDB.out.1] at this; exact this.rd HBY.out (by rw [this.1]; omega)), RFr.out.2.trans (b5.mono RFr.out.2.size)⟩; clear RL RRR own5) | (have RR6 := r6; go_at_call 13; refine Calls.mono (HBX.out _ _ _ r6.out.1 HLH.out) ?_; rintro e7 w7 ⟨a7, m7, c7, rfl, own7, b7⟩; obtain ⟨g7, rfl⟩ := own_some own7 (by have h1 := own7.1; have h2 := HlH.out; omega); have em7 : m7 = lH := own7.1.trans HlH.out.symm; subst em7; have r7 : Hid (Rd w7 (.slice (some ⟨g3, 0, none⟩) _ c3) (buildL bn ks) ∧ Rd w7 (.slice (some ⟨g7, 0, none⟩) _ c7) (buildL bn Hl) ∧ Below w.heap.size w w7) := ⟨r6.out.2.1.later b7, own7.rd HBH.out (by have h2 := HlH.out; omega), r6.out.2.2.trans (b7.mono r6.out.2.2.size)⟩; clear r6 RR6 own7) | (go_at_call 14; refine Calls.mono (HN.out _ _) ?_; rintro e4 w4 ⟨rfl, rfl⟩) | (go_at_call 18; refine Calls.mono (alike_any r5.out.1 r5.out.2.1) ?_; rintro ea wa ⟨rfl, rfl⟩; rw [show decide (buildL bn ks = buildL bn ks) = true by simp]) | (go_at_call 19; refine Calls.mono (without_any (H1.out.later r5.out.2.2) hcc.1 hcc.2 (by omega) ii hii) ?_; rintro e6 w6 ⟨a6, m6, c6, rfl, rp6, b6⟩; have r6 : Hid (RdP w6 (.slice a6 m6 c6) Hl ∧ Rd w6 (.slice (some ⟨g3, 0, none⟩) _ c3) (buildL bn ks) ∧ Below w.heap.size w w6) := ⟨by rw [HHl.out]; exact rp6, r5.out.1.later b6, r5.out.2.2.trans (b6.mono r5.out.2.2.size)⟩; clear rp6) | (have RR8 := r8; go_at_call 20; refine Calls.mono (HO2.out _ _ r8.out.2.1) ?_; rintro e9 w9 ⟨rfl, b9⟩; have b10 : Below w.heap.size w w9 := r8.out.2.2.trans (b9.mono r8.out.2.2.size)) | (go_at_call 20; refine Calls.mono (HO1.out _ _ r7.out.1) ?_; rintro e8 w8 ⟨rfl, b8⟩; have r8 : Hid (Rd w8 (.slice (some ⟨g3, 0, none⟩) _ c3) (buildL bn ks) ∧ Rd w8 (.slice (some ⟨g7, 0, none⟩) _ c7) (buildL bn Hl) ∧ Below w.heap.size w w8) := ⟨r7.out.1.later b8, r7.out.2.1.later b8, r7.out.2.2.trans (b8.mono r7.out.2.2.size)⟩; have cp : w8.cell? ⟨g3, 1, none⟩ = some (.int .u8 (p1 : Int)) := (by have := (rd_cell0 r8.out.1 1 (by omega)).1; rw [← Hp1.out] at this; exact this)))
                go_ret
                exact ⟨rfl, b10⟩
          · have hlm1 : ((lH : Int) == (m3 : Int)) = false := by rw [beq_eq_false_iff_ne]; omega
            have hlm2 : (lH : Int) < (m3 : Int) := by omega
            have hlm3 : ¬ ((lH : Int) = (m3 : Int)) := by omega
            go_wp2_with (first | (have RRR := RL; go_at_call 13; refine Calls.mono (HBX.out _ _ _ RL.out (by rw [HDB.out.2]; omega)) ?_; rintro e5 w5 ⟨a5, m5, c5, rfl, own5, b5⟩; have r5 : Hid (Rd w5 (.slice (some ⟨g3, 0, none⟩) _ c3) (buildL bn ks) ∧ Rd w5 (.slice a5 m5 c5) (buildL bn ks) ∧ Below w.heap.size w w5) := ⟨RFr.out.1.later b5, (by have := own5; rw [HDB.out.1] at this; exact this.rd HBY.out (by rw [this.1]; omega)), RFr.out.2.trans (b5.mono RFr.out.2.size)⟩; clear RL RRR own5) | (have RR6 := r6; go_at_call 13; refine Calls.mono (HBX.out _ _ _ r6.out.1 HLH.out) ?_; rintro e7 w7 ⟨a7, m7, c7, rfl, own7, b7⟩; obtain ⟨g7, rfl⟩ := own_some own7 (by have h1 := own7.1; have h2 := HlH.out; omega); have em7 : m7 = lH := own7.1.trans HlH.out.symm; subst em7; have r7 : Hid (Rd w7 (.slice (some ⟨g3, 0, none⟩) _ c3) (buildL bn ks) ∧ Rd w7 (.slice (some ⟨g7, 0, none⟩) _ c7) (buildL bn Hl) ∧ Below w.heap.size w w7) := ⟨r6.out.2.1.later b7, own7.rd HBH.out (by have h2 := HlH.out; omega), r6.out.2.2.trans (b7.mono r6.out.2.2.size)⟩; clear r6 RR6 own7) | (go_at_call 14; refine Calls.mono (HN.out _ _) ?_; rintro e4 w4 ⟨rfl, rfl⟩) | (go_at_call 18; refine Calls.mono (alike_any r5.out.1 r5.out.2.1) ?_; rintro ea wa ⟨rfl, rfl⟩; rw [show decide (buildL bn ks = buildL bn ks) = true by simp]) | (go_at_call 19; refine Calls.mono (without_any (H1.out.later r5.out.2.2) hcc.1 hcc.2 (by omega) ii hii) ?_; rintro e6 w6 ⟨a6, m6, c6, rfl, rp6, b6⟩; have r6 : Hid (RdP w6 (.slice a6 m6 c6) Hl ∧ Rd w6 (.slice (some ⟨g3, 0, none⟩) _ c3) (buildL bn ks) ∧ Below w.heap.size w w6) := ⟨by rw [HHl.out]; exact rp6, r5.out.1.later b6, r5.out.2.2.trans (b6.mono r5.out.2.2.size)⟩; clear rp6) | (have RR8 := r8; go_at_call 20; refine Calls.mono (HO2.out _ _ r8.out.2.1) ?_; rintro e9 w9 ⟨rfl, b9⟩; have b10 : Below w.heap.size w w9 := r8.out.2.2.trans (b9.mono r8.out.2.2.size)) | (go_at_call 20; refine Calls.mono (HO1.out _ _ r7.out.1) ?_; rintro e8 w8 ⟨rfl, b8⟩; have r8 : Hid (Rd w8 (.slice (some ⟨g3, 0, none⟩) _ c3) (buildL bn ks) ∧ Rd w8 (.slice (some ⟨g7, 0, none⟩) _ c7) (buildL bn Hl) ∧ Below w.heap.size w w8) := ⟨r7.out.1.later b8, r7.out.2.1.later b8, r7.out.2.2.trans (b8.mono r7.out.2.2.size)⟩; have cp : w8.cell? ⟨g3, 1, none⟩ = some (.int .u8 (p1 : Int)) := (by have := (rd_cell0 r8.out.1 1 (by omega)).1; rw [← Hp1.out] at this; exact this)))
            go_ret
            exact ⟨rfl, r8.out.2.2⟩
  · have HA : Hid (¬ (E = 0 ∧ nk ≠ 0 ∧ nk ≤ 524288)) := hgo
    clear hgo
    have hnl : nk ≤ 281474976710656 := by rw [HNK.out]; exact H1.out.1
    go_enter Try.func4, Try.ntmps4
    go_wp2_with (first | (go_at_call 12; refine Calls.mono (HS.out _) ?_; rintro e1 w1 ⟨rfl, b1⟩) | (go_at_call 13; refine Calls.mono (HB1.out _ b1) ?_; rintro e2 w2 ⟨a3, m3, c3, rfl, own3, b2⟩; have bb : Below w.heap.size w w2 := b1.trans (b2.mono b1.size)) | (go_at_call 14; refine Calls.mono (HN.out _ _) ?_; rintro e4 w4 ⟨rfl, rfl⟩))
    all_goals first
      | (go_ret; exact ⟨rfl, bb⟩)
      | (exfalso; have hz : ((nk : Int) == 0) = false ∧ (nk : Int) ≤ 524288 := (by assumption); exact HA.out ⟨by omega, by omega, by omega⟩)
end Go.Proofs.Ytcangaoamhaagaa
