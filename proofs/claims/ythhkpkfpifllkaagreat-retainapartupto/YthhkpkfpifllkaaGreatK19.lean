import Derived.Test.YthhkpkfpifllkaaGreatK18
namespace Go.Proofs.YthhkpkfpifllkaaGreat
open Go.RowKit
set_option linter.unusedVariables false

theorem eM_one (i : Nat) : ∀ u ∈ (eM i).cells.toList, u.oneCell' = true := by
  intro u hu
  simp only [eM, EntD.cells, List.mem_cons, List.not_mem_nil, or_false] at hu
  rcases hu with rfl | rfl | rfl | rfl | rfl | rfl | rfl <;> rfl
theorem mk3_lt (t : Nat) : mk3 t < 256 := by unfold mk3; omega
set_option maxRecDepth 100000 in
theorem op_fieldB3 {a : Act} {w : World} {x g : Nat} {d : Option Nat} {ps : String} {af : Array Edge} (hx : a.tmps[x]?.getD undef = .pointer (some ⟨g, 0, none⟩)) :
    (execOp a.eval { dst := d, op := Op.fieldAddr 69 (Operand.tmp x) 3, type := 0, pos := ps, after := af, guard := none }).run Tryz.prog w = .ok (.value (.pointer (some ⟨g, 3, none⟩))) w := by
  go_simp
set_option maxRecDepth 100000 in
theorem wp_fieldB3 {a : Act} {w : World} {K : Act → World → Prop} {Q : Exit → Act → World → Prop} {x g : Nat} {d : Option Nat} {ps : String} {af : Array Edge} (hx : a.tmps[x]?.getD undef = .pointer (some ⟨g, 0, none⟩)) (hk : K (a.put d (.pointer (some ⟨g, 3, none⟩))) w) :
    Oper.wp Tryz.prog { dst := d, op := Op.fieldAddr 69 (Operand.tmp x) 3, type := 0, pos := ps, after := af, guard := none } a w K Q := by
  go_simp
  exact hk
set_option maxRecDepth 100000 in
theorem op_indexP {a : Act} {w : World} {x y b n c t : Nat} {d : Option Nat} {ps : String} {af : Array Edge} (hx : a.tmps[x]?.getD undef = .slice (some ⟨b, 0, none⟩) n c) (hy : a.tmps[y]?.getD undef = .int .i64 (t : Int)) (ht : t < n) :
    (execOp a.eval { dst := d, op := Op.indexAddr 35 (Operand.tmp x) (Operand.tmp y), type := 0, pos := ps, after := af, guard := none }).run Tryz.prog w = .ok (.value (.pointer (some ⟨b, t, none⟩))) w := by
  have h1 : (t : Int) < (n : Int) := by omega
  have h0 : (0 : Int) ≤ (t : Int) := by omega
  go_simp
set_option maxRecDepth 100000 in
theorem op_rem250 {a : Act} {w : World} {x t : Nat} {d : Option Nat} {ps : String} {af : Array Edge} (hx : a.tmps[x]?.getD undef = .int .i64 (t : Int)) :
    (execOp a.eval { dst := d, op := Op.binOp BinOp.rem 3 (Operand.tmp x) (Operand.const (.int .i64 250)) 3, type := 3, pos := ps, after := af, guard := none }).run Tryz.prog w = .ok (.value (.int .i64 ((t : Int) % 250))) w := by
  have hw : IntKind.i64.wrap ((t : Int) % 250) = (t : Int) % 250 := by simp [IntKind.wrap, IntKind.bits, IntKind.signed]; omega
  have h0 : (0 : Int) ≤ (t : Int) := by omega
  go_simp
  exact Int.tmod_eq_emod_of_nonneg h0
set_option maxRecDepth 100000 in
theorem op_add1 {a : Act} {w : World} {x t : Nat} {d : Option Nat} {ps : String} {af : Array Edge} (hx : a.tmps[x]?.getD undef = .int .i64 ((t : Int) % 250)) :
    (execOp a.eval { dst := d, op := Op.binOp BinOp.add 3 (Operand.const (.int .i64 1)) (Operand.tmp x) 3, type := 3, pos := ps, after := af, guard := none }).run Tryz.prog w = .ok (.value (.int .i64 (1 + (t : Int) % 250))) w := by
  have hw : IntKind.i64.wrap (1 + (t : Int) % 250) = 1 + (t : Int) % 250 := by simp [IntKind.wrap, IntKind.bits, IntKind.signed]; omega
  go_simp
set_option maxRecDepth 100000 in
theorem op_conv8 {a : Act} {w : World} {x t : Nat} {d : Option Nat} {ps : String} {af : Array Edge} (hx : a.tmps[x]?.getD undef = .int .i64 (1 + (t : Int) % 250)) :
    (execOp a.eval { dst := d, op := Op.convert 3 5 (Operand.tmp x), type := 5, pos := ps, after := af, guard := none }).run Tryz.prog w = .ok (.value (.int .u8 ((mk3 t : Nat) : Int))) w := by
  have hw : IntKind.u8.wrap (1 + (t : Int) % 250) = 1 + (t : Int) % 250 := by simp [IntKind.wrap, IntKind.bits, IntKind.signed]; omega
  rw [mk3_int]
  go_simp
set_option maxRecDepth 100000 in
theorem wp_grownA {a : Act} {w : World} {K : Act → World → Prop} {Q : Exit → Act → World → Prop} {x y : Nat} {v u : Value} {d : Option Nat} {ty ts tu : TypeId} {ps : String} {af : Array Edge} {R : Ending → World → Prop} (hx : a.tmps[x]?.getD undef = v) (hy : a.tmps[y]?.getD undef = u) (hc : Calls Tryz.prog 76 #[v, u] w R) (hk : ∀ r w', R r w' → ∃ z, r = .returned z ∧ K (a.put d z) w') :
    Oper.wp Tryz.prog { dst := d, op := Op.call { callee := .value (.func 76), args := #[.tmp x, .tmp y], argTypes := #[ts, tu] }, type := ty, pos := ps, after := af, guard := none } a w K Q := by
  go_simp
  refine Calls.mono hc ?_
  intro r w' hr
  obtain ⟨z, rfl, hk⟩ := hk r w' hr
  exact hk
set_option maxRecDepth 100000 in
theorem wp_build1 {a : Act} {w : World} {K : Act → World → Prop} {Q : Exit → Act → World → Prop} {p n0 c0 : Nat} {a0 : Option Addr} {d : Option Nat} {ps : String} {af : Array Edge} (h0 : a.tmps[p]?.getD undef = .slice a0 n0 c0) (hk : K (a.put d (.slice (some ⟨w.heap.size, 0, none⟩) 1 1)) (w.alloc (.cells #[.slice a0 n0 c0] 82))) :
    Oper.wp Tryz.prog { dst := d, op := Op.buildSlice 35 1 #[(0, Operand.tmp p)], type := 35, pos := ps, after := af, guard := none } a w K Q := by
  go_simp
  exact hk
theorem wp_append_w1 {w : World} {N : Nat} {v u1 : Value} {us : List Value} {o : Oper} {a : Act} {K : Act → World → Prop} {Q : Exit → Act → World → Prop} (s y : Operand)
    (ho : o.op = .call { callee := .builtin .append, args := #[s, y], argTypes := #[35, 35] })
    (hs : a.eval s = v) (hr : w.ownsRow N 82 1 v us.length us) (h1 : u1.oneCell' = true) (hy : a.eval y = .slice (some ⟨w.heap.size, 0, none⟩) 1 1) (hn : us.length + 1 ≤ 5864062014805) (hN : N ≤ w.heap.size)
    (h : ∀ a' n' c' w', n' = (us ++ [u1]).length → w'.ownsRow N 82 1 (.slice a' n' c') (us ++ [u1]).length (us ++ [u1]) → (w.alloc (.cells #[u1] 82)).grownBy w' v.ownBlock → (∀ k, (Value.slice a' n' c').ownBlock = some k → v.ownBlock = some k ∨ w.heap.size + 1 ≤ k) → K (a.put o.dst (.slice a' n' c')) w') : Oper.wp Tryz.prog o a (w.alloc (.cells #[u1] 82)) K Q := by
  obtain ⟨i0, hi, hz0, hz1, hz2⟩ := info_parts (show (Tryz.prog.info? 82).map (fun i => (i.zero, i.size, i.bytes)) = some (some (.slice none 0 0), 1, 24) by kernel_rfl)
  obtain ⟨v', w', hrn, k1, k2, k3, k4⟩ := run_append_own_at (P := Tryz.prog) (w.alloc (.cells #[u1] 82)) N 35 o.type 82 i0 (.slice none 0 0) 1 24 (by kernel_rfl) hi hz0 hz1 hz2 rfl (by decide) v us.length us (hr.alloc _) ⟨w.heap.size, 0, none⟩ 1 1 [u1] rfl (fun j u hj => by
    have hn := heap_new w (.cells #[u1] 82)
    have e3 : ((⟨w.heap.size, 0, none⟩ : Addr).add j) = ⟨w.heap.size, j, none⟩ := by
      unfold Addr.add
      by_cases hj : j = 0 <;> simp [hj]
    rw [e3]
    have e2 : (w.alloc (.cells #[u1] 82)).heap[w.heap.size]? = some (.cells #[u1] 82 (0, 0)) := hn
    simp only [World.cell?, e2]
    simpa using hj) (fun u hu => by rw [List.mem_singleton.1 hu]; exact h1) (by unfold maxLen; omega) (by omega) (by rw [World.size_alloc]; omega)
  have k1' : w'.ownsRow N 82 1 v' (us ++ [u1]).length (us ++ [u1]) := by rw [List.length_append]; exact k1
  obtain ⟨a', c', rfl⟩ := row_formW k1'
  unfold Oper.wp execOp
  rw [ho]
  simp only [resolve, invoke, builtin, Sem.run_bind, Sem.run_pure, Result.andThen_ok, List.map_toArray, List.map_cons, List.map_nil, hs, hy, hrn]
  refine h a' _ c' w' rfl k1' k2 (fun k hk => ?_)
  rcases k4 with k4 | k4
  · rw [k4] at hk; exact .inl hk
  · rw [k4, World.size_alloc] at hk
    cases hk
    exact .inr (Nat.le_refl _)
section
variable {w wr : World} {N g : Nat} {aE aG aB aH : Option Addr} {cE cG cB cH : Nat} {tl : List Value} {ty : TypeId} {bi : List BI} {ei : List EI} {hs gs : List Value} {O O' : Nat → Prop}
theorem Bq.mono (h : Bq w N g aE aG aB aH cE cG cB cH tl ty bi ei hs gs O) (k : ∀ i, O i → O' i) : Bq w N g aE aG aB aH cE cG cB cH tl ty bi ei hs gs O' :=
  ⟨h.bp, h.rH, h.rG, h.apBH, h.apEG, h.oH, h.oG, h.apH, h.apHH, h.apG, h.apGG, h.dB, h.dE, ⟨k _ h.inR.1, fun x hx => k _ (h.inR.2.1 x hx), fun x hx => k _ (h.inR.2.2.1 x hx), fun x hx => k _ (h.inR.2.2.2.1 x hx), fun x hx => k _ (h.inR.2.2.2.2 x hx)⟩, fun i p hp x hx => k _ (h.inB i p hp x hx), fun i p hp x hx => k _ (h.inE i p hp x hx), fun i p hp x hx => k _ (h.inH i p hp x hx), fun i p hp x hx => k _ (h.inG i p hp x hx)⟩
theorem Bq.keep (h : Bq w N g aE aG aB aH cE cG cB cH tl ty bi ei hs gs O) (k : ∀ i, O i → wr.heap[i]? = w.heap[i]?) : Bq wr N g aE aG aB aH cE cG cB cH tl ty bi ei hs gs O :=
  ⟨⟨h.bp.box.keep (k _ h.inR.1), row_same h.bp.rB (fun x hx => k _ (h.inR.2.1 x hx)), row_same h.bp.rE (fun x hx => k _ (h.inR.2.2.1 x hx)), h.bp.tys, fun i p hp => own_same (h.bp.oB i p hp) (fun x hx => k _ (h.inB i p hp x hx)), fun i p hp => ⟨row_same (h.bp.oE i p hp).1 (fun x hx => k _ (h.inE i p hp x hx)), (h.bp.oE i p hp).2⟩, h.bp.apB, h.bp.apE, h.bp.len, h.bp.few⟩,
    row_same h.rH (fun x hx => k _ (h.inR.2.2.2.1 x hx)), row_same h.rG (fun x hx => k _ (h.inR.2.2.2.2 x hx)), h.apBH, h.apEG, fun i p v hp hv => own_same (h.oH i p v hp hv) (fun x hx => k _ (h.inH i v hv x hx)), fun i p v hp hv => row_same (h.oG i p v hp hv) (fun x hx => k _ (h.inG i v hv x hx)), h.apH, h.apHH, h.apG, h.apGG, h.dB, h.dE, h.inR, h.inB, h.inE, h.inH, h.inG⟩
end

set_option maxRecDepth 100000 in
set_option maxHeartbeats 16000000 in
theorem bspoils_any {w : World} {N g : Nat} {aE aG aB aH : Option Addr} {cE cG cB cH : Nat} {tl : List Value} {ty : TypeId} {bi : List BI} {ei : List EI} {hs gs : List Value} {O : Nat → Prop} (h : Bq w N g aE aG aB aH cE cG cB cH tl ty bi ei hs gs O) (hO : ∀ k, O k → k < w.heap.size) (hN : N ≤ w.heap.size) (hfb : bi.length + 1 ≤ 5864062014805) (hfe : ei.length + 1 ≤ 5864062014805) :
    Calls Tryz.prog 40 #[.pointer (some ⟨g, 0, none⟩)] w fun r w' => r = .returned (.tuple #[]) ∧ ∃ aG' aH' cG' cH' bi' ei' hs' gs', Bq w' N g aE aG' aB aH' cE cG' cB cH' tl ty bi' ei' hs' gs' (fun k => O k ∨ (w.heap.size ≤ k ∧ k < w'.heap.size)) ∧ hs'.length = bi'.length ∧ gs'.length = ei'.length ∧ bi'.length = bi.length ∧ ei'.length = ei.length ∧ SpF w w' O := by
  obtain ⟨nB, hnB⟩ : ∃ k, k = bi.length := ⟨_, rfl⟩
  obtain ⟨nE, hnE⟩ : ∃ k, k = ei.length := ⟨_, rfl⟩
  obtain ⟨sB, hsB⟩ : ∃ k, k = hs.length := ⟨_, rfl⟩
  obtain ⟨sE, hsE⟩ : ∃ k, k = gs.length := ⟨_, rfl⟩
  have HQ0 := Lib.hid h
  have HO := Lib.hid hO
  have HNw0 := Lib.hid hN
  have HFe := Lib.hid (And.intro hfb hfe)
  have hbp := h.bp
  rw [← hsB, ← hsE] at hbp
  have HP := Lib.hid hbp
  have HNb := Lib.hid hnB
  have HNe := Lib.hid hnE
  have HSb := Lib.hid hsB
  have HSe := Lib.hid hsE
  have hf := hbp.few
  have k2 := hbp.box.c2
  have k3 := hbp.box.c3
  have k1 := hbp.box.c1
  rw [← hnB, ← hnE] at hf
  rw [← hnB] at k2
  have HF0 : Hid (Fil w w N bi sB sB 0) := ⟨SpF.refl _ _, fun i p hp => by rw [fillB_start]; exact hbp.oB i p hp⟩
  clear h hnB hnE hsB hsE hbp hO hN hfb hfe
  go_enter Tryz.func40, Tryz.ntmps40
  go_wp2
  go_loopw [4, 5] (fun i j wr => ∃ t : Nat, sB ≤ t ∧ t ≤ nB ∧ i = .int .i64 (t : Int) ∧ Hid (Fil w wr N bi sB t 0)) (fun i _ _ => nB - (intOf i).toNat)
  case atStart => exact ⟨sB, Nat.le_refl _, hf.2.2.1, rfl, HF0.out⟩
  case round =>
    obtain ⟨t, hst, ht, rfl, HF⟩ := hrel
    have t0 : (0 : Int) ≤ (t : Int) := by omega
    clear k1 k2 k3
    have k2 := (HP.out.fil HF.out).1.c2
    rw [← HNb.out] at k2
    by_cases hlt : t < nB
    · have hlt2 : (t : Int) < (nB : Int) := by omega
      obtain ⟨p, hp⟩ : ∃ p, bi[t]? = some p := ⟨_, List.getElem?_eq_getElem (by have := HNb.out; omega)⟩
      obtain ⟨n, hn⟩ : ∃ k, k = p.n := ⟨_, rfl⟩
      obtain ⟨gB, ap, cp, eaB, hpv, hcp⟩ : ∃ gB ap cp, aB = some ⟨gB, 0, none⟩ ∧ p.v = .slice ap n cp ∧ ∀ Z, (∃ q, Fil w Z N bi sB t q) → Z.cell? ⟨gB, t, none⟩ = some (.slice ap n cp) := by
        obtain ⟨ap, cp, hv⟩ := own_form' (HP.out.oB t p hp)
        obtain ⟨gB, e1, -⟩ := row1_cell (u := p.v) HP.out.rB (by simp) (by rw [List.getElem?_map, hp]; rfl)
        have e0 := (HP.out.oB t p hp).1
        have hv' : p.v = .slice ap n cp := by rw [hv, hn, e0]
        refine ⟨gB, ap, cp, e1, hv', fun Z ⟨q, f⟩ => ?_⟩
        obtain ⟨gB', e2, c⟩ := row1_cell (u := p.v) (HP.out.fil f).2.1 (by simp) (by rw [List.getElem?_map, hp]; rfl)
        rw [e1] at e2
        cases e2
        rw [c, hv']
      subst eaB
      have HCp := Lib.hid hcp
      have c1 := hcp wr ⟨0, HF.out⟩
      have HPp := Lib.hid (And.intro hp (And.intro hn hpv))
      have hw1 : IntKind.i64.wrap (1 + (t : Int) % 250) = 1 + (t : Int) % 250 := by simp [IntKind.wrap, IntKind.bits, IntKind.signed]; omega
      have hw2 : IntKind.u8.wrap (1 + (t : Int) % 250) = 1 + (t : Int) % 250 := by simp [IntKind.wrap, IntKind.bits, IntKind.signed]; omega
      have hnb : n ≤ 3000000 := by rw [hn]; exact HP.out.len.1 t p hp
      clear hcp hp hn hpv
      go_wp2
      go_loopw [5] (fun j wr2 => ∃ q : Nat, q ≤ n ∧ j = .int .i64 (q : Int) ∧ Hid (Fil w wr2 N bi sB t q)) (fun j _ => n - (intOf j).toNat)
      case atStart => exact ⟨0, Nat.zero_le _, rfl, HF.out⟩
      case round =>
        obtain ⟨q, hq, rfl, HF2⟩ := hrel
        have q0 : (0 : Int) ≤ (q : Int) := by omega
        clear k2 c1
        have k2 := (HP.out.fil HF2.out).1.c2
        rw [← HNb.out] at k2
        have c1 := HCp.out _ ⟨q, HF2.out⟩
        by_cases hlq : q < n
        · have hlq2 : (q : Int) < (n : Int) := by omega
          have own := HF2.out.own t p HPp.out.1
          rw [HPp.out.2.2, ← HPp.out.2.1] at own
          obtain ⟨gp, rfl, ⟨bv, cb⟩, fzb⟩ := own_byte own hlq
          clear own
          go_wp2
          go_roundw
          case rel =>
            refine ⟨q + 1, by omega, by go_num, ?_⟩
            have := HF2.out.put (g := gp) (c := cp) HPp.out.1 hst (by rw [HPp.out.2.2, ← HPp.out.2.1]) (by rw [← HPp.out.2.1]; exact hlq) (fun i q' hq' hne hk => HP.out.apB i t q' p hq' HPp.out.1 hne gp hk (by rw [HPp.out.2.2]; rfl))
            rw [mk3_int] at this
            exact this
          case measure => simp only [intOf]; omega
        · have hge : ¬ (q : Int) < (n : Int) := by omega
          obtain rfl : q = n := by omega
          go_wp2
          go_roundw
          case rel => exact ⟨t + 1, by omega, by omega, by go_num, HF2.out.next HPp.out.1 hst HPp.out.2.1⟩
          case measure => simp only [intOf]; omega
    · have hge : ¬ (t : Int) < (nB : Int) := by omega
      obtain rfl : nB = t := by omega
      obtain ⟨W1, hW1⟩ : ∃ Y, Y = wr := ⟨_, rfl⟩
      subst hW1
      have HP2 : Hid (Bp W1 N g aE aG aB aH cE cG cB cH sE sB tl ty (fulB sB bi) ei) := HP.out.filled (by rw [← HNb.out]; exact HF.out)
      have HG0 : Hid (Fie W1 W1 N ei sE sE 0) := ⟨SpF.refl _ _, fun i p hp => by rw [fillE_start]; exact HP2.out.oE i p hp⟩
      go_wp2
      go_loopw [6, 7] (fun i j wz => ∃ u : Nat, sE ≤ u ∧ u ≤ nE ∧ i = .int .i64 (u : Int) ∧ Hid (Fie W1 wz N ei sE u 0)) (fun i _ _ => nE - (intOf i).toNat)
      case atStart => exact ⟨sE, Nat.le_refl _, hf.2.2.2, rfl, HG0.out⟩
      case round =>
        obtain ⟨u, hsu, hu, rfl, HG⟩ := hrel
        have u0 : (0 : Int) ≤ (u : Int) := by omega
        clear k2
        have k0 := (HP2.out.fie HG.out).1.c0
        rw [← HNe.out] at k0
        by_cases hlu : u < nE
        · have hlu2 : (u : Int) < (nE : Int) := by omega
          obtain ⟨p, hp⟩ : ∃ p, ei[u]? = some p := ⟨_, List.getElem?_eq_getElem (by have := HNe.out; omega)⟩
          obtain ⟨n, hn⟩ : ∃ k, k = p.n := ⟨_, rfl⟩
          obtain ⟨gE, ap, cp, eaE, hpv, hcp⟩ : ∃ gE ap cp, aE = some ⟨gE, 0, none⟩ ∧ p.v = .slice ap n cp ∧ ∀ Z, (∃ q, Fie W1 Z N ei sE u q) → Z.cell? ⟨gE, u, none⟩ = some (.slice ap n cp) := by
            obtain ⟨ap, cp, hv⟩ := rows_form3 (HP2.out.oE u p hp).1
            obtain ⟨gE, e1, -⟩ := row1_cell (u := p.v) HP2.out.rE (by simp) (by rw [List.getElem?_map, hp]; rfl)
            have hv' : p.v = .slice ap n cp := by rw [hv, hn]
            refine ⟨gE, ap, cp, e1, hv', fun Z ⟨q, f⟩ => ?_⟩
            obtain ⟨gE', e2, c⟩ := row1_cell (u := p.v) (HP2.out.fie f).2.2.1 (by simp) (by rw [List.getElem?_map, hp]; rfl)
            rw [e1] at e2
            cases e2
            rw [c, hv']
          subst eaE
          have HCp := Lib.hid hcp
          have c1 := hcp _ ⟨0, HG.out⟩
          have HPp := Lib.hid (And.intro hp (And.intro hn hpv))
          have hw1 : IntKind.i64.wrap (-10 - (u : Int)) = -10 - (u : Int) := by simp [IntKind.wrap, IntKind.bits, IntKind.signed]; omega
          have hnb : n ≤ 274877906944 := by rw [hn]; exact HP.out.len.2 u p hp
          clear hcp hp hn hpv
          go_wp2
          go_loopw [7] (fun j wz2 => ∃ q : Nat, q ≤ n ∧ j = .int .i64 (q : Int) ∧ Hid (Fie W1 wz2 N ei sE u q)) (fun j _ => n - (intOf j).toNat)
          case atStart => exact ⟨0, Nat.zero_le _, rfl, HG.out⟩
          case round =>
            obtain ⟨q, hq, rfl, HG2⟩ := hrel
            have q0 : (0 : Int) ≤ (q : Int) := by omega
            clear k0 c1
            have k0 := (HP2.out.fie HG2.out).1.c0
            rw [← HNe.out] at k0
            have c1 := HCp.out _ ⟨q, HG2.out⟩
            by_cases hlq : q < n
            · have hlq2 : (q : Int) < (n : Int) := by omega
              have own := HG2.out.own u p HPp.out.1
              rw [HPp.out.2.2, ← HPp.out.2.1] at own
              obtain ⟨gp, rfl, ⟨x0, y0⟩, ⟨x1, y1⟩, ⟨x2, y2⟩, ⟨x3, y3⟩, ⟨x4, y4⟩, ⟨x5, y5⟩, ⟨x6, y6⟩, fze⟩ := rowE_at own.1 own.2 hlq
              clear own
              obtain ⟨Y, hY, hFY⟩ := HG2.out.put (g := gp) (c := cp) HPp.out.1 hsu (by rw [HPp.out.2.2, ← HPp.out.2.1]) (by rw [← HPp.out.2.1]; exact hlq) (fun i q' hq' hne hk => HP2.out.apE i u q' p hq' HPp.out.1 hne gp hk (by rw [HPp.out.2.2]; rfl))
              have HFY := Lib.hid hFY
              dsimp only [eM] at hY
              go_wp2
              rw [← hY]
              go_roundw
              case rel => exact ⟨q + 1, by omega, by go_num, HFY.out⟩
              case measure => simp only [intOf]; omega
            · have hge2 : ¬ (q : Int) < (n : Int) := by omega
              obtain rfl : q = n := by omega
              go_wp2
              go_roundw
              case rel => exact ⟨u + 1, by omega, by omega, by go_num, HG2.out.next HPp.out.1 hsu HPp.out.2.1⟩
              case measure => simp only [intOf]; omega
        · have hge2 : ¬ (u : Int) < (nE : Int) := by omega
          obtain rfl : nE = u := by omega
          obtain ⟨W2, hW2⟩ : ∃ Y, Y = wr := ⟨_, rfl⟩
          subst hW2
          obtain ⟨b2, hb2⟩ : ∃ l, l = fulB sB bi := ⟨_, rfl⟩
          obtain ⟨e2, he2⟩ : ∃ l, l = fulE sE ei := ⟨_, rfl⟩
          have HQ2 : Hid (Bq W2 N g aE aG aB aH cE cG cB cH tl ty b2 e2 hs gs O ∧ SpF w W2 O ∧ (∀ (i : Nat) (p : BI), b2[i]? = some p → p.l = List.replicate p.n (mk3 i)) ∧ (∀ (i : Nat) (p : EI), e2[i]? = some p → p.zs = List.replicate p.n (eM i)) ∧ b2.length = nB ∧ e2.length = nE) := by
            have q1 := HQ0.out.filled (wr := W1) (by rw [← HSb.out, ← HNb.out]; exact HF.out)
            have q2 := q1.1.filledE (wr := W2) (by rw [← HSe.out, ← HNe.out]; exact HG.out)
            rw [← HSb.out] at q1 q2
            rw [← HSe.out] at q2
            subst hb2 he2
            exact ⟨q2.1, q1.2.1.trans q2.2.1, q1.2.2, q2.2.2, by rw [fulB_len]; exact HNb.out.symm, by rw [fulE_len]; exact HNe.out.symm⟩
          have HfS : Hid (sB ≤ nB ∧ sE ≤ nE) := ⟨hf.2.2.1, hf.2.2.2⟩
          clear HP2 HP HG HG0 HF HF0 hb2 he2 hf hge hsu hst HQ0
          go_wp2
          clear k0 hge2
          go_loopw [8] (fun i wy => ∃ (t : Nat) (hs2 : List Value) (aH2 : Option Addr) (cH2 : Nat), sB ≤ t ∧ t ≤ nB ∧ i = .int .i64 (t : Int) ∧ Hid (t = hs2.length ∧ Bq wy N g aE aG aB aH2 cE cG cB cH2 tl ty b2 e2 hs2 gs (fun k => O k ∨ (w.heap.size ≤ k ∧ k < wy.heap.size)) ∧ SpF w wy O)) (fun i _ => nB - (intOf i).toNat)
          case atStart => exact ⟨sB, hs, aH, cH, Nat.le_refl _, HfS.out.1, rfl, HSb.out, HQ2.out.1.mono (fun k hk => .inl hk), HQ2.out.2.1⟩
          case round =>
            obtain ⟨t, hs2, aH2, cH2, hst3, ht3, rfl, HB⟩ := hrel
            have t0 : (0 : Int) ≤ (t : Int) := by omega
            have k2 := HB.out.2.1.bp.box.c2
            rw [HQ2.out.2.2.2.2.1] at k2
            by_cases hlt : t < nB
            · have hlt2 : (t : Int) < (nB : Int) := by omega
              obtain ⟨p, hp⟩ : ∃ p, b2[t]? = some p := ⟨_, List.getElem?_eq_getElem (by have := HQ2.out.2.2.2.2.1; omega)⟩
              obtain ⟨n, hn⟩ : ∃ k, k = p.n := ⟨_, rfl⟩
              obtain ⟨gB, ap, cp, eaB, hpv, hcB⟩ : ∃ gB ap cp, aB = some ⟨gB, 0, none⟩ ∧ p.v = .slice ap n cp ∧ wr.cell? ⟨gB, t, none⟩ = some (.slice ap n cp) := by
                obtain ⟨ap, cp, hv⟩ := own_form' (HB.out.2.1.bp.oB t p hp)
                obtain ⟨gB, e1, c⟩ := row1_cell (u := p.v) HB.out.2.1.bp.rB (by simp) (by rw [List.getElem?_map, hp]; rfl)
                exact ⟨gB, ap, cp, e1, by rw [hv, hn], by rw [c, hv, hn]⟩
              subst eaB
              have hnb : n ≤ 3000000 := by rw [hn]; exact HB.out.2.1.bp.len.1 t p hp
              have HOp : Hid (Own wr.drew N (.slice ap n cp) n p.l) := by
                have := HB.out.2.1.bp.oB t p hp
                rw [hpv, ← hn] at this
                exact own_same this (fun _ _ => rfl)
              have HNw : Hid (N ≤ wr.drew.heap.size) := Nat.le_trans HNw0.out HB.out.2.2.size
              have tg : Tyd wr g ty := HB.out.2.1.bp.box.tyd
              have tB : Tyd wr gB 82 := row_tyd HB.out.2.1.bp.rB rfl
              have tp : ∀ k, (Value.slice ap n cp).ownBlock = some k → Tyd wr k 5 := fun k hk => row_tyd (HB.out.2.1.bp.oB t p hp).2 (by rw [hpv]; exact hk)
              have tH : ∀ k, (Value.slice aH2 t cH2).ownBlock = some k → Tyd wr k 82 ∧ gB ≠ k := fun k hk => by
                rw [HB.out.1] at hk
                exact ⟨row_tyd HB.out.2.1.rH hk, fun z => HB.out.2.1.apBH gB rfl (z ▸ hk)⟩
              have tys := HB.out.2.1.bp.tys
              have HlB : Hid (g < wr.drew.heap.size ∧ gB < wr.drew.heap.size) := ⟨tg.lt, tB.lt⟩
              have HS : Hid (∀ Z : World, Z.heap[g]? = wr.heap[g]? → Z.heap[gB]? = wr.heap[gB]? → Z.cell? ⟨g, 3, none⟩ = some (.slice aH2 t cH2) ∧ Z.cell? ⟨g, 2, none⟩ = some (.slice (some ⟨gB, 0, none⟩) nB cB) ∧ Z.cell? ⟨gB, t, none⟩ = some (.slice ap n cp)) := fun Z z1 z2 => by
                rw [cell_heap z1, cell_heap z1, cell_heap z2, hcB, k2, HB.out.2.1.bp.box.c3, ← HB.out.1]
                exact ⟨rfl, rfl, rfl⟩
              have HfB : Hid (∀ Z : World, wr.drew.grownBy Z (Value.slice ap n cp).ownBlock → Z.heap[g]? = wr.heap[g]? ∧ Z.heap[gB]? = wr.heap[gB]?) := fun Z gz => ⟨gz.block g tg.lt (fun z => (tp g z.symm).ne tg (fun y => tys.2.2.2 y.symm) rfl), gz.block gB tB.lt (fun z => (tp gB z.symm).ne tB (by decide) rfl)⟩
              have HfH : Hid (∀ X Z : World, X.grownBy Z (Value.slice aH2 t cH2).ownBlock → g < X.heap.size → gB < X.heap.size → Z.heap[g]? = X.heap[g]? ∧ Z.heap[gB]? = X.heap[gB]?) := fun X Z gz l1 l2 => ⟨gz.block g l1 (fun z => (tH g z.symm).1.ne tg (fun y => tys.1 y.symm) rfl), gz.block gB l2 (fun z => (tH gB z.symm).2 rfl)⟩
              have HFz : Hid (∀ Z : World, Z.heap[g]? = wr.heap[g]? → Z.frozen? ⟨g, 3, none⟩ = false) := fun Z z => (HB.out.2.1.bp.box.keep z).fz 3
              have HrH : Hid (∀ Z : World, wr.drew.grownBy Z (Value.slice ap n cp).ownBlock → Z.ownsRow N 82 1 (.slice aH2 t cH2) hs2.length hs2) := fun Z gz => by
                rw [HB.out.1]
                exact row_same HB.out.2.1.rH (fun k hk => gz.block k (HB.out.2.1.rH.lt k hk).2 (fun z => (tp k z.symm).ne (row_tyd HB.out.2.1.rH hk) (by decide) rfl))
              have HLen : Hid (hs2.length + 1 ≤ 5864062014805) := by
                unfold Hid
                rw [← HB.out.1]
                have := HFe.out.1
                rw [← HNb.out] at this
                omega
              have HPp := Lib.hid (And.intro hp (And.intro hn hpv))
              have hS := HS.out wr.drew rfl rfl
              clear hcB hn hpv hp tg tB tp tH tys
              go_upto_region 19 with fail
              clear k2
              refine wp_region_noPanic ?_
              refine wp_region_anyE (S := fun Z => Z.cell? ⟨g, 3, none⟩ = some (.slice aH2 t cH2) ∧ Z.cell? ⟨g, 2, none⟩ = some (.slice (some ⟨gB, 0, none⟩) nB cB) ∧ Z.cell? ⟨gB, t, none⟩ = some (.slice ap n cp)) (E := fun j => decide (j < 21)) (by kernel_rfl) ?_
              refine anyE_gen (fun A0 hA0 => ?_)
              have s0 : A0.tmps.size = 169 := by rw [hA0]; rfl
              have v0_0 : Tv A0 0 (.pointer (some ⟨g, 0, none⟩)) := by rw [hA0]; rfl
              have v0_8 : Tv A0 8 (.int .i64 (t : Int)) := by rw [hA0]; rfl
              refine AnyE.tk (i := 0) (.pointer (some ⟨g, 0, none⟩)) rfl (by kernel_rfl) (fun _ _ _ h => h) (by rfl) (fun wq hq => op_move v0_0) hS ?_
              refine anyE_gen (fun A1 hA1 => ?_)
              have s1 := tz hA1 s0
              have v1_0 := tn hA1 (by decide) v0_0
              have v1_8 := tn hA1 (by decide) v0_8
              have v1_101 := te hA1 s0 (by decide)
              refine AnyE.tk (i := 1) (.pointer (some ⟨g, 0, none⟩)) rfl (by kernel_rfl) (fun _ _ _ h => h) (by rfl) (fun wq hq => op_move v1_0) hS ?_
              refine anyE_gen (fun A2 hA2 => ?_)
              have s2 := tz hA2 s1
              have v2_0 := tn hA2 (by decide) v1_0
              have v2_8 := tn hA2 (by decide) v1_8
              have v2_101 := tn hA2 (by decide) v1_101
              have v2_102 := te hA2 s1 (by decide)
              refine AnyE.tk (i := 2) (.pointer (some ⟨g, 0, none⟩)) rfl (by kernel_rfl) (fun _ _ _ h => h) (by rfl) (fun wq hq => op_nil v2_102) hS ?_
              refine anyE_gen (fun A3 hA3 => ?_)
              have s3 := tz hA3 s2
              have v3_0 := tn hA3 (by decide) v2_0
              have v3_8 := tn hA3 (by decide) v2_8
              have v3_101 := tn hA3 (by decide) v2_101
              have v3_103 := te hA3 s2 (by decide)
              refine AnyE.tk (i := 3) (.pointer (some ⟨g, 3, none⟩)) rfl (by kernel_rfl) (fun _ _ _ h => h) (by rfl) (fun wq hq => op_fieldB3 v3_103) hS ?_
              refine anyE_gen (fun A4 hA4 => ?_)
              have s4 := tz hA4 s3
              have v4_0 := tn hA4 (by decide) v3_0
              have v4_8 := tn hA4 (by decide) v3_8
              have v4_101 := tn hA4 (by decide) v3_101
              have v4_104 := te hA4 s3 (by decide)
              refine AnyE.tk (i := 4) (.slice aH2 t cH2) rfl (by kernel_rfl) (fun _ _ _ h => h) (by rfl) (fun wq hq => op_loadP v4_104 hq.1) hS ?_
              refine anyE_gen (fun A5 hA5 => ?_)
              have s5 := tz hA5 s4
              have v5_0 := tn hA5 (by decide) v4_0
              have v5_8 := tn hA5 (by decide) v4_8
              have v5_101 := tn hA5 (by decide) v4_101
              have v5_105 := te hA5 s4 (by decide)
              refine AnyE.tk (i := 5) (.pointer (some ⟨g, 0, none⟩)) rfl (by kernel_rfl) (fun _ _ _ h => h) (by rfl) (fun wq hq => op_move v5_0) hS ?_
              refine anyE_gen (fun A6 hA6 => ?_)
              have s6 := tz hA6 s5
              have v6_8 := tn hA6 (by decide) v5_8
              have v6_101 := tn hA6 (by decide) v5_101
              have v6_105 := tn hA6 (by decide) v5_105
              have v6_106 := te hA6 s5 (by decide)
              refine AnyE.tk (i := 6) (.pointer (some ⟨g, 0, none⟩)) rfl (by kernel_rfl) (fun _ _ _ h => h) (by rfl) (fun wq hq => op_nil v6_106) hS ?_
              refine anyE_gen (fun A7 hA7 => ?_)
              have s7 := tz hA7 s6
              have v7_8 := tn hA7 (by decide) v6_8
              have v7_101 := tn hA7 (by decide) v6_101
              have v7_105 := tn hA7 (by decide) v6_105
              have v7_107 := te hA7 s6 (by decide)
              refine AnyE.tk (i := 7) (.pointer (some ⟨g, 2, none⟩)) rfl (by kernel_rfl) (fun _ _ _ h => h) (by rfl) (fun wq hq => op_fieldB2 v7_107) hS ?_
              refine anyE_gen (fun A8 hA8 => ?_)
              have s8 := tz hA8 s7
              have v8_8 := tn hA8 (by decide) v7_8
              have v8_101 := tn hA8 (by decide) v7_101
              have v8_105 := tn hA8 (by decide) v7_105
              have v8_108 := te hA8 s7 (by decide)
              refine AnyE.tk (i := 8) (.slice (some ⟨gB, 0, none⟩) nB cB) rfl (by kernel_rfl) (fun _ _ _ h => h) (by rfl) (fun wq hq => op_loadP v8_108 hq.2.1) hS ?_
              refine anyE_gen (fun A9 hA9 => ?_)
              have s9 := tz hA9 s8
              have v9_8 := tn hA9 (by decide) v8_8
              have v9_101 := tn hA9 (by decide) v8_101
              have v9_105 := tn hA9 (by decide) v8_105
              have v9_109 := te hA9 s8 (by decide)
              refine AnyE.tk (i := 9) (.int .i64 (t : Int)) rfl (by kernel_rfl) (fun _ _ _ h => h) (by rfl) (fun wq hq => op_move v9_8) hS ?_
              refine anyE_gen (fun A10 hA10 => ?_)
              have s10 := tz hA10 s9
              have v10_8 := tn hA10 (by decide) v9_8
              have v10_101 := tn hA10 (by decide) v9_101
              have v10_105 := tn hA10 (by decide) v9_105
              have v10_109 := tn hA10 (by decide) v9_109
              have v10_110 := te hA10 s9 (by decide)
              refine AnyE.tk (i := 10) (.pointer (some ⟨gB, t, none⟩)) rfl (by kernel_rfl) (fun _ _ _ h => h) (by rfl) (fun wq hq => op_indexP v10_109 v10_110 hlt) hS ?_
              refine anyE_gen (fun A11 hA11 => ?_)
              have s11 := tz hA11 s10
              have v11_8 := tn hA11 (by decide) v10_8
              have v11_101 := tn hA11 (by decide) v10_101
              have v11_105 := tn hA11 (by decide) v10_105
              have v11_111 := te hA11 s10 (by decide)
              refine AnyE.tk (i := 11) (.slice ap n cp) rfl (by kernel_rfl) (fun _ _ _ h => h) (by rfl) (fun wq hq => op_loadY v11_111 hq.2.2) hS ?_
              refine anyE_gen (fun A12 hA12 => ?_)
              have s12 := tz hA12 s11
              have v12_8 := tn hA12 (by decide) v11_8
              have v12_101 := tn hA12 (by decide) v11_101
              have v12_105 := tn hA12 (by decide) v11_105
              have v12_112 := te hA12 s11 (by decide)
              refine AnyE.tk (i := 12) (.int .i64 (t : Int)) rfl (by kernel_rfl) (fun _ _ _ h => h) (by rfl) (fun wq hq => op_move v12_8) hS ?_
              refine anyE_gen (fun A13 hA13 => ?_)
              have s13 := tz hA13 s12
              have v13_101 := tn hA13 (by decide) v12_101
              have v13_105 := tn hA13 (by decide) v12_105
              have v13_112 := tn hA13 (by decide) v12_112
              have v13_113 := te hA13 s12 (by decide)
              refine AnyE.tk (i := 13) (.int .i64 ((t : Int) % 250)) rfl (by kernel_rfl) (fun _ _ _ h => h) (by rfl) (fun wq hq => op_rem250 v13_113) hS ?_
              refine anyE_gen (fun A14 hA14 => ?_)
              have s14 := tz hA14 s13
              have v14_101 := tn hA14 (by decide) v13_101
              have v14_105 := tn hA14 (by decide) v13_105
              have v14_112 := tn hA14 (by decide) v13_112
              have v14_114 := te hA14 s13 (by decide)
              refine AnyE.tk (i := 14) (.int .i64 (1 + (t : Int) % 250)) rfl (by kernel_rfl) (fun _ _ _ h => h) (by rfl) (fun wq hq => op_add1 v14_114) hS ?_
              refine anyE_gen (fun A15 hA15 => ?_)
              have s15 := tz hA15 s14
              have v15_101 := tn hA15 (by decide) v14_101
              have v15_105 := tn hA15 (by decide) v14_105
              have v15_112 := tn hA15 (by decide) v14_112
              have v15_115 := te hA15 s14 (by decide)
              refine AnyE.tk (i := 15) (.int .u8 ((mk3 t : Nat) : Int)) rfl (by kernel_rfl) (fun _ _ _ h => h) (by rfl) (fun wq hq => op_conv8 v15_115) hS ?_
              refine anyE_gen (fun A16 hA16 => ?_)
              have s16 := tz hA16 s15
              have v16_101 := tn hA16 (by decide) v15_101
              have v16_105 := tn hA16 (by decide) v15_105
              have v16_112 := tn hA16 (by decide) v15_112
              have v16_116 := te hA16 s15 (by decide)
              refine AnyE.one (i := 16) rfl (by kernel_rfl) (by rfl) (fun K16 hK16 => ?_)
              refine wp_grownA v16_112 v16_116 (grown_any (B := N) (L := p.l) HOp.out HNw.out hnb (mk3_lt t)) ?_
              rintro r1 w1 ⟨a1, c1, rfl, o1, o2, g1, l1⟩
              obtain ⟨m1, hm1⟩ : ∃ m, m = n + (n + 70) := ⟨_, rfl⟩
              rw [← hm1] at o1 l1
              refine ⟨_, by rw [← hm1], ?_⟩
              have hS1 := HS.out w1 (HfB.out _ g1).1 (HfB.out _ g1).2
              refine hK16.out _ _ ⟨fun _ => hS1, ?_⟩
              clear hK16
              refine anyE_gen (fun A17 hA17 => ?_)
              have s17 := tz hA17 s16
              have v17_101 := tn hA17 (by decide) v16_101
              have v17_105 := tn hA17 (by decide) v16_105
              have v17_117 := te hA17 s16 (by decide)
              refine AnyE.one (i := 17) rfl (by kernel_rfl) (by rfl) (fun K17 hK17 => ?_)
              refine wp_build1 v17_117 ?_
              have B1 := (Below.refl w1.heap.size w1).alloc (Nat.le_refl _) (.cells #[.slice a1 m1 c1] 82)
              have hS3 := HS.out _ ((B1.block g (Nat.lt_of_lt_of_le HlB.out.1 g1.size)).trans (HfB.out _ g1).1) ((B1.block gB (Nat.lt_of_lt_of_le HlB.out.2 g1.size)).trans (HfB.out _ g1).2)
              refine hK17.out _ _ ⟨fun _ => hS3, ?_⟩
              clear hK17
              refine anyE_gen (fun A18 hA18 => ?_)
              have s18 := tz hA18 s17
              have v18_101 := tn hA18 (by decide) v17_101
              have v18_105 := tn hA18 (by decide) v17_105
              have v18_118 := te hA18 s17 (by decide)
              refine AnyE.one (i := 18) rfl (by kernel_rfl) (by rfl) (fun K18 hK18 => ?_)
              refine wp_append_w1 (us := hs2) (u1 := .slice a1 m1 c1) (.tmp 105) (.tmp 118) rfl (ev_tmp v18_105) (HrH.out w1 g1) rfl (ev_tmp v18_118) HLen.out (Nat.le_trans HNw.out g1.size) ?_
              intro a2 n2 c2 w2 en hr2 g2 lo2
              have hS2 := HS.out w2 ((HfH.out _ w2 g2 (Nat.lt_of_lt_of_le HlB.out.1 (Nat.le_trans g1.size B1.size)) (Nat.lt_of_lt_of_le HlB.out.2 (Nat.le_trans g1.size B1.size))).1.trans ((B1.block g (Nat.lt_of_lt_of_le HlB.out.1 g1.size)).trans (HfB.out _ g1).1)) ((HfH.out _ w2 g2 (Nat.lt_of_lt_of_le HlB.out.1 (Nat.le_trans g1.size B1.size)) (Nat.lt_of_lt_of_le HlB.out.2 (Nat.le_trans g1.size B1.size))).2.trans ((B1.block gB (Nat.lt_of_lt_of_le HlB.out.2 g1.size)).trans (HfB.out _ g1).2))
              have hfz2 : w2.frozen? ⟨g, 3, none⟩ = false := HFz.out w2 ((HfH.out _ w2 g2 (Nat.lt_of_lt_of_le HlB.out.1 (Nat.le_trans g1.size B1.size)) (Nat.lt_of_lt_of_le HlB.out.2 (Nat.le_trans g1.size B1.size))).1.trans ((B1.block g (Nat.lt_of_lt_of_le HlB.out.1 g1.size)).trans (HfB.out _ g1).1))
              refine hK18.out _ _ ⟨fun _ => hS2, ?_⟩
              clear hK18
              refine anyE_gen (fun A19 hA19 => ?_)
              have s19 := tz hA19 s18
              have v19_101 := tn hA19 (by decide) v18_101
              have v19_119 := te hA19 s18 (by decide)
              refine AnyE.one (i := 19) rfl (by kernel_rfl) (by rfl) (fun K19 hK19 => ?_)
              refine wp_nil0 v19_101 ?_
              refine hK19.out _ _ ⟨fun _ => hS2, ?_⟩
              clear hK19
              refine anyE_gen (fun A20 hA20 => ?_)
              have s20 := tz hA20 s19
              have v20_119 := tn hA20 (by decide) v19_119
              have v20_120 := te hA20 s19 (by decide)
              refine AnyE.one (i := 20) rfl (by kernel_rfl) (by rfl) (fun K20 hK20 => ?_)
              refine wp_fieldB3 v20_120 ?_
              refine hK20.out _ _ ⟨fun _ => hS2, ?_⟩
              clear hK20
              refine anyE_gen (fun A21 hA21 => ?_)
              have s21 := tz hA21 s20
              have v21_119 := tn hA21 (by decide) v20_119
              have v21_121 := te hA21 s20 (by decide)
              refine AnyE.one (i := 21) rfl (by kernel_rfl) (by rfl) (fun K21 hK21 => ?_)
              refine wp_storeP hS2.1 hfz2 v21_121 v21_119 ?_
              refine hK21.out _ _ ⟨fun h => (by cases h), ?_⟩
              clear hK21
              refine AnyE.done (by kernel_rfl) (NoPanic.normal ?_) _
              clear s0 v0_0 v0_8 s1 v1_0 v1_8 v1_101 s2 v2_0 v2_8 v2_101 v2_102 s3 v3_0 v3_8 v3_101 v3_103 s4 v4_0 v4_8 v4_101 v4_104 s5 v5_0 v5_8 v5_101 v5_105 s6 v6_8 v6_101 v6_105 v6_106 s7 v7_8 v7_101 v7_105 v7_107 s8 v8_8 v8_101 v8_105 v8_108 s9 v9_8 v9_101 v9_105 v9_109 s10 v10_8 v10_101 v10_105 v10_109 v10_110 s11 v11_8 v11_101 v11_105 v11_111 s12 v12_8 v12_101 v12_105 v12_112 s13 v13_101 v13_105 v13_112 v13_113 s14 v14_101 v14_105 v14_112 v14_114 s15 v15_101 v15_105 v15_112 v15_115 s16 v16_101 v16_105 v16_112 v16_116 s17 v17_101 v17_105 v17_117 s18 v18_101 v18_105 v18_118 s19 v19_101 v19_119 s20 v20_119 v20_120 s21 v21_119 v21_121
              subst hA21 hA20 hA19 hA18 hA17 hA16 hA15 hA14 hA13 hA12 hA11 hA10 hA9 hA8 hA7 hA6 hA5 hA4 hA3 hA2 hA1 hA0
              have HFin : Hid (t + 1 = (hs2 ++ [Value.slice a1 m1 c1]).length ∧ Bq (w2.setCell ⟨g, 3, none⟩ (.slice a2 n2 c2)) N g aE aG (some ⟨gB, 0, none⟩) a2 cE cG cB c2 tl ty b2 e2 (hs2 ++ [Value.slice a1 m1 c1]) gs (fun k => O k ∨ (w.heap.size ≤ k ∧ k < (w2.setCell ⟨g, 3, none⟩ (.slice a2 n2 c2)).heap.size)) ∧ SpF w (w2.setCell ⟨g, 3, none⟩ (.slice a2 n2 c2)) O) := by
                obtain ⟨et, hB, hsp⟩ := HB.out
                obtain ⟨hp, hn, hpv⟩ := HPp.out
                have hle : wr.heap.size ≤ w2.heap.size := Nat.le_trans g1.size (Nat.le_trans B1.size g2.size)
                have hw0 := hsp.size
                subst et en hm1 hn
                have hlm : p.l = List.replicate p.n (mk3 hs2.length) := HQ2.out.2.2.1 _ p hp
                have kq := hB.addH (u := .slice a1 (p.n + (p.n + 70)) c1) (p := p) (fun k hk => by
                  rcases hk with z | z
                  · exact Nat.lt_of_lt_of_le (HO.out k z) hw0
                  · exact z.2) hp hlm (by rw [hpv]; exact ⟨g1.os, g1.tape, g1.output, g1.size, g1.block⟩) (by rw [hpv]; exact o2) (by
                  rw [hlm, List.replicate_append_replicate] at o1
                  exact o1) (by rw [hpv]; exact l1) B1 g2 hr2 (fun k hk => (lo2 k hk).imp id (fun z => by omega))
                refine ⟨by simp, kq.1.mono (fun k hk => ?_), SpF.then hsp kq.2 (fun i hi z => ?_)⟩
                · rw [World.size_setCell]
                  rcases hk with (z | z) | z
                  · exact .inl z
                  · exact .inr ⟨z.1, by omega⟩
                  · exact .inr ⟨by omega, z.2⟩
                · rcases z with z | z
                  · exact z
                  · omega
              obtain ⟨Wn, hWn⟩ : ∃ Y, Y = w2.setCell ⟨g, 3, none⟩ (.slice a2 n2 c2) := ⟨_, rfl⟩
              rw [← hWn] at HFin ⊢
              have hbn : nB ≤ 5864062014805 := by
                have := HFe.out.1
                rw [← HNb.out] at this
                omega
              clear hWn hS hS1 hS2 hS3 g1 g2 hr2 lo2 en o1 o2 l1 hm1 B1 hfz2 HS HfB HfH HFz HrH HLen HOp HNw HlB
              go_simp
              go_wp2
              go_roundw
              case rel => exact ⟨t + 1, _, _, _, by omega, by omega, by go_num, HFin⟩
              case measure => simp only [intOf]; omega
            · have hge3 : ¬ (t : Int) < (nB : Int) := by omega
              obtain rfl : nB = t := by omega
              obtain ⟨W3, hW3⟩ : ∃ Y, Y = wr := ⟨_, rfl⟩
              subst hW3
              go_wp2
              go_loopw [9, 10, 11] (fun i _ _ wx => ∃ (u : Nat) (gs2 : List Value) (aG2 : Option Addr) (cG2 : Nat), sE ≤ u ∧ u ≤ nE ∧ i = .int .i64 (u : Int) ∧ Hid (u = gs2.length ∧ Bq wx N g aE aG2 aB aH2 cE cG2 cB cH2 tl ty b2 e2 hs2 gs2 (fun k => O k ∨ (w.heap.size ≤ k ∧ k < wx.heap.size)) ∧ SpF w wx O)) (fun i _ _ _ => nE - (intOf i).toNat)
              case atStart => exact ⟨sE, gs, aG, cG, Nat.le_refl _, HfS.out.2, rfl, HSe.out, HB.out.2.1, HB.out.2.2⟩
              case round =>
                obtain ⟨u, gs2, aG2, cG2, hsu4, hu4, rfl, HD⟩ := hrel
                obtain ⟨X, hX⟩ : ∃ Y, Y = wr := ⟨_, rfl⟩
                subst hX
                have u0 : (0 : Int) ≤ (u : Int) := by omega
                clear k2
                have k0 := HD.out.2.1.bp.box.c0
                rw [HQ2.out.2.2.2.2.2] at k0
                by_cases hlu : u < nE
                · have hlu2 : (u : Int) < (nE : Int) := by omega
                  obtain ⟨p, hp⟩ : ∃ p, e2[u]? = some p := ⟨_, List.getElem?_eq_getElem (by have := HQ2.out.2.2.2.2.2; omega)⟩
                  obtain ⟨n, hn⟩ : ∃ k, k = p.n := ⟨_, rfl⟩
                  obtain ⟨gE, ap, cp, eaE, hpv, hcE⟩ : ∃ gE ap cp, aE = some ⟨gE, 0, none⟩ ∧ p.v = .slice ap n cp ∧ X.cell? ⟨gE, u, none⟩ = some (.slice ap n cp) := by
                    obtain ⟨ap, cp, hv⟩ := rows_form3 (HD.out.2.1.bp.oE u p hp).1
                    obtain ⟨gE, e1, c⟩ := row1_cell (u := p.v) HD.out.2.1.bp.rE (by simp) (by rw [List.getElem?_map, hp]; rfl)
                    exact ⟨gE, ap, cp, e1, by rw [hv, hn], by rw [c, hv, hn]⟩
                  subst eaE
                  have hnb : n ≤ 274877906944 := by rw [hn]; exact HD.out.2.1.bp.len.2 u p hp
                  have hw1 : IntKind.i64.wrap (-10 - (u : Int)) = -10 - (u : Int) := by
                    have := HFe.out.2
                    rw [← HNe.out] at this
                    simp [IntKind.wrap, IntKind.bits, IntKind.signed]; omega
                  have hw2 : IntKind.i64.wrap (2 * (n : Int)) = 2 * (n : Int) := by rw [IntWalk.i64_in _ ⟨by omega, by omega⟩]
                  have hw3 : IntKind.i64.wrap (2 * (n : Int) + 20) = 2 * (n : Int) + 20 := by rw [IntWalk.i64_in _ ⟨by omega, by omega⟩]
                  have tg : Tyd X g ty := HD.out.2.1.bp.box.tyd
                  have tE : Tyd X gE 28 := row_tyd HD.out.2.1.bp.rE rfl
                  have tp : ∀ k, (Value.slice ap n cp).ownBlock = some k → Tyd X k 84 := fun k hk => row_tyd (HD.out.2.1.bp.oE u p hp).1 (by rw [hpv]; exact hk)
                  have tys := HD.out.2.1.bp.tys
                  have HfE : Hid (∀ Z : World, X.grownBy Z (Value.slice ap n cp).ownBlock → Z.cell? ⟨g, 0, none⟩ = some (.slice (some ⟨gE, 0, none⟩) nE cE) ∧ Z.cell? ⟨gE, u, none⟩ = some (.slice ap n cp) ∧ Z.cell? ⟨g, 1, none⟩ = some (.slice aG2 u cG2)) := fun Z gz => by
                    have z1 : Z.heap[g]? = X.heap[g]? := gz.block g tg.lt (fun z => (tp g z.symm).ne tg (fun y => tys.2.2.1 y.symm) rfl)
                    have z2 : Z.heap[gE]? = X.heap[gE]? := gz.block gE tE.lt (fun z => (tp gE z.symm).ne tE (by decide) rfl)
                    rw [cell_heap z1, cell_heap z1, cell_heap z2, hcE, k0, HD.out.2.1.bp.box.c1, ← HD.out.1]
                    exact ⟨rfl, rfl, rfl⟩
                  have HNw : Hid (N ≤ X.heap.size) := Nat.le_trans HNw0.out HD.out.2.2.size
                  have HrG : Hid (∀ Z : World, X.grownBy Z (Value.slice ap n cp).ownBlock → Z.ownsRow N 28 1 (.slice aG2 u cG2) gs2.length gs2) := fun Z gz => by
                    rw [HD.out.1]
                    exact row_same HD.out.2.1.rG (fun k hk => gz.block k (HD.out.2.1.rG.lt k hk).2 (fun z => (tp k z.symm).ne (row_tyd HD.out.2.1.rG hk) (by decide) rfl))
                  have HR0 : Hid (X.ownsRow N 84 7 (.slice ap n cp) n (evals (List.replicate n (eM u)))) := by
                    have := (HD.out.2.1.bp.oE u p hp).1
                    rw [hpv, HQ2.out.2.2.2.1 u p hp, ← hn] at this
                    exact this
                  have HLen : Hid (gs2.length + 1 ≤ 5864062014805) := by
                    unfold Hid
                    rw [← HD.out.1]
                    have := HFe.out.2
                    rw [← HNe.out] at this
                    omega
                  have HPp := Lib.hid (And.intro hp (And.intro hn hpv))
                  clear hn hpv hp tg tE tp tys
                  go_wp2
                  go_loopw [10, 11] (fun gg j wv => ∃ (q : Nat) (a : Option Addr) (c m : Nat), q ≤ 2 * n + 20 ∧ j = .int .i64 (q : Int) ∧ gg = .slice a m c ∧ Hid (m = n + q ∧ wv.ownsRow N 84 7 (.slice a m c) (n + q) (evals (List.replicate (n + q) (eM u))) ∧ wv.ownsRow N 84 7 (.slice ap n cp) n (evals (List.replicate n (eM u))) ∧ X.grownBy wv (Value.slice ap n cp).ownBlock ∧ ∀ k, (Value.slice a m c).ownBlock = some k → (Value.slice ap n cp).ownBlock = some k ∨ X.heap.size ≤ k)) (fun _ j _ => 2 * n + 20 - (intOf j).toNat)
                  case atStart => exact ⟨0, ap, cp, n, Nat.zero_le _, rfl, rfl, rfl, HR0.out, HR0.out, ⟨rfl, rfl, rfl, Nat.le_refl _, fun _ _ _ => rfl⟩, fun k hk => .inl hk⟩
                  case round =>
                    obtain ⟨q, a, c, m, hq, rfl, rfl, HI⟩ := hrel
                    obtain ⟨V, hV⟩ : ∃ Y, Y = wr := ⟨_, rfl⟩
                    subst hV
                    have q0 : (0 : Int) ≤ (q : Int) := by omega
                    clear k0 hcE
                    obtain ⟨k0, hcE, k1⟩ := HfE.out V HI.out.2.2.2.1
                    have HNv : Hid (N ≤ V.heap.size) := Nat.le_trans HNw.out HI.out.2.2.2.1.size
                    by_cases hlq : q < 2 * n + 20
                    · have hlq2 : (q : Int) < 2 * (n : Int) + 20 := by omega
                      clear k1
                      go_wp2_with (at_builtin; refine wpl_append_entK (w := V) (N := N) (xs := List.replicate (n + q) (eM u)) (x := eM u) rfl _ _ rfl rfl (by rw [List.length_replicate]; exact HI.out.2.1) rfl (eM_one u) (by rw [List.length_replicate]; omega) HNv.out ?_; intro a2 n2 c2 w2 en hr2 g2 hr3 lo2; have HJ := Lib.hid (And.intro en (And.intro hr2 (And.intro g2 (And.intro hr3 lo2)))); clear en hr2 g2 hr3 lo2)
                      go_roundw
                      case rel =>
                        obtain ⟨hm, i1, i2, i3, i4⟩ := HI.out
                        obtain ⟨en, hr2, g2, hr3, lo2⟩ := HJ.out
                        rw [List.length_replicate] at hr3
                        refine ⟨q + 1, a2, c2, n2, by omega, by go_num, rfl, ?_, ?_, rowPre (by simp) (by simp) i1 hr3 g2 i2 (by omega), i3.andThen g2 (fun j e => ?_), fun k hk => ?_⟩
                        · rw [en]; simp; omega
                        · rw [List.length_append, List.length_replicate, List.length_singleton, ← List.replicate_succ', Nat.add_assoc] at hr2
                          exact hr2
                        · rcases i4 j e with z | z
                          · exact .inr z
                          · exact .inl z
                        · rcases lo2 k hk with z | z
                          · exact i4 k z
                          · exact .inr (Nat.le_trans i3.size z)
                      case measure => simp only [intOf]; omega
                    · have hgq : ¬ (q : Int) < 2 * (n : Int) + 20 := by omega
                      have HV2 := Lib.hid ((Below.refl V.heap.size V).alloc (Nat.le_refl _) (.cells #[.slice a m c] 28))
                      have hen : nE ≤ 5864062014805 := by
                        have := HFe.out.2
                        rw [← HNe.out] at this
                        omega
                      have hqe : q = 2 * n + 20 := by omega
                      have HqE := Lib.hid hqe
                      clear hqe
                      go_wp2_with (at_builtin; refine wpl_append_l1 rfl _ _ rfl N (.slice aG2 u cG2) gs2 rfl (HrG.out V HI.out.2.2.2.1) (.slice a m c) rfl rfl HLen.out HNv.out ?_; intro a2 n2 c2 w2 en hr2 g2 lo2; have HJ : Hid (KBx w2 g (.slice (some ⟨gE, 0, none⟩) e2.length cE) (.slice aG2 gs2.length cG2) (.slice aB b2.length cB) (.slice aH2 hs2.length cH2) tl ty ∧ (u + 1 = (gs2 ++ [Value.slice a m c]).length ∧ Bq (w2.setCell ⟨g, 1, none⟩ (.slice a2 n2 c2)) N g (some ⟨gE, 0, none⟩) a2 aB aH2 cE c2 cB cH2 tl ty b2 e2 hs2 (gs2 ++ [Value.slice a m c]) (fun k => O k ∨ (w.heap.size ≤ k ∧ k < (w2.setCell ⟨g, 1, none⟩ (.slice a2 n2 c2)).heap.size)) ∧ SpF w (w2.setCell ⟨g, 1, none⟩ (.slice a2 n2 c2)) O)) := (by
                        obtain ⟨et, hB, hsp⟩ := HD.out
                        obtain ⟨hp, hn, hpv⟩ := HPp.out
                        obtain ⟨hm, i1, i2, i3, i4⟩ := HI.out
                        have hqe := HqE.out
                        have hle : X.heap.size ≤ w2.heap.size := Nat.le_trans i3.size (Nat.le_trans HV2.out.size g2.size)
                        have hw0 := hsp.size
                        subst et en hn hm hqe
                        have hlm : p.zs = List.replicate p.n (eM gs2.length) := HQ2.out.2.2.2.1 _ p hp
                        have kq := hB.addG (u := .slice a (p.n + (2 * p.n + 20)) c) (p := p) (fun k hk => (by
                          rcases hk with z | z
                          · exact Nat.lt_of_lt_of_le (HO.out k z) hw0
                          · exact z.2)) hp hlm (by rw [hpv]; exact i3) (by rw [hpv, hlm]; exact i2) i1 (by rw [hpv]; exact i4) HV2.out g2 hr2 (fun k hk => (lo2 k hk).imp id (fun z => by omega))
                        refine ⟨kq.1, by simp, kq.2.1.mono (fun k hk => ?_), SpF.then hsp kq.2.2 (fun i hi z => ?_)⟩
                        · rw [World.size_setCell]
                          rcases hk with (z | z) | z
                          · exact .inl z
                          · exact .inr ⟨z.1, by omega⟩
                          · exact .inr ⟨by omega, z.2⟩
                        · rcases z with z | z
                          · exact z
                          · omega); have c12 := HJ.out.1.c1; have f12 := HJ.out.1.fz 1; have c02 := HJ.out.1.c0; clear en hr2 g2 lo2)
                      go_roundw
                      case rel => exact ⟨u + 1, _, _, _, by omega, by omega, by go_num, HJ.out.2⟩
                      case measure => simp only [intOf]; omega
                · have hge4 : ¬ (u : Int) < (nE : Int) := by omega
                  go_wp2
                  refine bodyPost_end (v := .tuple #[]) (by first | rfl | kernel_rfl) rfl ?_
                  refine ⟨rfl, aG2, aH2, cG2, cH2, b2, e2, hs2, gs2, HD.out.2.1, ?_, ?_, ?_, ?_, HD.out.2.2⟩
                  · rw [← HB.out.1, HQ2.out.2.2.2.2.1]
                  · rw [← HD.out.1, HQ2.out.2.2.2.2.2]; omega
                  · rw [HQ2.out.2.2.2.2.1]; exact HNb.out
                  · rw [HQ2.out.2.2.2.2.2]; exact HNe.out
end Go.Proofs.YthhkpkfpifllkaaGreat
