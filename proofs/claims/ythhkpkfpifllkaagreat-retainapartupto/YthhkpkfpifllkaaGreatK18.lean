import Derived.Test.YthhkpkfpifllkaaGreatK17
namespace Go.Proofs.YthhkpkfpifllkaaGreat
open Go.RowKit
set_option linter.unusedVariables false

structure Bq (w : World) (N g : Nat) (aE aG aB aH : Option Addr) (cE cG cB cH : Nat) (tl : List Value) (ty : TypeId) (bi : List BI) (ei : List EI) (hs gs : List Value) (O : Nat → Prop) : Prop where
  bp : Bp w N g aE aG aB aH cE cG cB cH gs.length hs.length tl ty bi ei
  rH : w.ownsRow N 82 1 (.slice aH hs.length cH) hs.length hs
  rG : w.ownsRow N 28 1 (.slice aG gs.length cG) gs.length gs
  apBH : ∀ k, (Value.slice aB bi.length cB).ownBlock = some k → (Value.slice aH hs.length cH).ownBlock ≠ some k
  apEG : ∀ k, (Value.slice aE ei.length cE).ownBlock = some k → (Value.slice aG gs.length cG).ownBlock ≠ some k
  oH : ∀ (i : Nat) (p : BI) (v : Value), bi[i]? = some p → hs[i]? = some v → Own w N v (p.n + (p.n + 70)) (List.replicate (p.n + (p.n + 70)) (mk3 i))
  oG : ∀ (i : Nat) (p : EI) (v : Value), ei[i]? = some p → gs[i]? = some v → w.ownsRow N 84 7 v (p.n + (2 * p.n + 20)) (evals (List.replicate (p.n + (2 * p.n + 20)) (eM i)))
  apH : ∀ (i j : Nat) (p : BI) (v : Value), bi[i]? = some p → hs[j]? = some v → i ≠ j → ∀ k, p.v.ownBlock = some k → v.ownBlock ≠ some k
  apHH : ∀ (i j : Nat) (u v : Value), hs[i]? = some u → hs[j]? = some v → i ≠ j → ∀ k, u.ownBlock = some k → v.ownBlock ≠ some k
  apG : ∀ (i j : Nat) (p : EI) (v : Value), ei[i]? = some p → gs[j]? = some v → i ≠ j → ∀ k, p.v.ownBlock = some k → v.ownBlock ≠ some k
  apGG : ∀ (i j : Nat) (u v : Value), gs[i]? = some u → gs[j]? = some v → i ≠ j → ∀ k, u.ownBlock = some k → v.ownBlock ≠ some k
  dB : ∀ (i : Nat) (p : BI), i < hs.length → bi[i]? = some p → p.l = List.replicate p.n (mk3 i)
  dE : ∀ (i : Nat) (p : EI), i < gs.length → ei[i]? = some p → p.zs = List.replicate p.n (eM i)
  inR : O g ∧ (∀ k, (Value.slice aB bi.length cB).ownBlock = some k → O k) ∧ (∀ k, (Value.slice aE ei.length cE).ownBlock = some k → O k) ∧ (∀ k, (Value.slice aH hs.length cH).ownBlock = some k → O k) ∧ (∀ k, (Value.slice aG gs.length cG).ownBlock = some k → O k)
  inB : ∀ (i : Nat) (p : BI), bi[i]? = some p → ∀ k, p.v.ownBlock = some k → O k
  inE : ∀ (i : Nat) (p : EI), ei[i]? = some p → ∀ k, p.v.ownBlock = some k → O k
  inH : ∀ (i : Nat) (v : Value), hs[i]? = some v → ∀ k, v.ownBlock = some k → O k
  inG : ∀ (i : Nat) (v : Value), gs[i]? = some v → ∀ k, v.ownBlock = some k → O k
theorem idx_lt {α : Type} {l : List α} {i : Nat} {x : α} (h : l[i]? = some x) : i < l.length := (List.getElem?_eq_some_iff.1 h).1
section
variable {w wr : World} {N g : Nat} {aE aG aB aH : Option Addr} {cE cG cB cH : Nat} {tl : List Value} {ty : TypeId} {bi : List BI} {ei : List EI} {hs gs : List Value} {O : Nat → Prop}
theorem Bq.filled (h : Bq w N g aE aG aB aH cE cG cB cH tl ty bi ei hs gs O) (f : Fil w wr N bi hs.length bi.length 0) : Bq wr N g aE aG aB aH cE cG cB cH tl ty (fulB hs.length bi) ei hs gs O ∧ SpF w wr O ∧ (∀ (i : Nat) (p : BI), (fulB hs.length bi)[i]? = some p → p.l = List.replicate p.n (mk3 i)) := by
  have nt : ∀ k ty', Tyd w k ty' → ty' ≠ 5 → wr.heap[k]? = w.heap[k]? := fun k ty' hk hne => f.sp.block k hk.lt (fun ⟨i, p, _, hp, hb⟩ => (row_tyd (h.bp.oB i p hp).2 hb).ne hk (fun z => hne z.symm) rfl)
  have ab : ∀ (i : Nat) (p : BI), (fulB hs.length bi)[i]? = some p → p.l = List.replicate p.n (mk3 i) := fun i p hp => by
    obtain ⟨q, e1, e2, e3, e4⟩ := fulB_at hp
    rw [e4, e3]
    unfold fillB
    by_cases hi : i < hs.length
    · rw [if_pos hi]; exact h.dB i q hi e1
    · rw [if_neg hi, if_pos (idx_lt e1)]
  refine ⟨⟨h.bp.filled f, row_same h.rH (fun k hk => nt k _ (row_tyd h.rH hk) (by decide)), row_same h.rG (fun k hk => nt k _ (row_tyd h.rG hk) (by decide)), by rw [fulB_len]; exact h.apBH, h.apEG, fun i p v hp hv => ?_, fun i p v hp hv => ?_, fun i j p v hp hv hne k hk => ?_, h.apHH, h.apG, h.apGG, fun i p hi hp => ab i p hp, h.dE, by rw [fulB_len]; exact h.inR, fun i p hp k hk => ?_, h.inE, h.inH, h.inG⟩, f.sp.mono (fun k _ ⟨i, p, _, hp, hk⟩ => h.inB i p hp k hk), ab⟩
  · obtain ⟨q, e1, e2, e3, e4⟩ := fulB_at hp
    rw [e3]
    have o := h.oH i q v e1 hv
    refine own_same o (fun k hk => f.sp.block k (o.2.lt k hk).2 (fun ⟨j, p', hj, hp', hb⟩ => ?_))
    have := idx_lt hv
    exact h.apH j i p' v hp' hv (by omega) k hb hk
  · have o := h.oG i p v hp hv
    exact row_same o (fun k hk => nt k _ (row_tyd o hk) (by decide))
  · obtain ⟨q, e1, e2, e3, e4⟩ := fulB_at hp
    exact h.apH i j q v e1 hv hne k (e2 ▸ hk)
  · obtain ⟨q, e1, e2, e3, e4⟩ := fulB_at hp
    exact h.inB i q e1 k (e2 ▸ hk)
theorem Bq.filledE (h : Bq w N g aE aG aB aH cE cG cB cH tl ty bi ei hs gs O) (f : Fie w wr N ei gs.length ei.length 0) : Bq wr N g aE aG aB aH cE cG cB cH tl ty bi (fulE gs.length ei) hs gs O ∧ SpF w wr O ∧ (∀ (i : Nat) (p : EI), (fulE gs.length ei)[i]? = some p → p.zs = List.replicate p.n (eM i)) := by
  have nt : ∀ k ty', Tyd w k ty' → ty' ≠ 84 → wr.heap[k]? = w.heap[k]? := fun k ty' hk hne => f.sp.block k hk.lt (fun ⟨i, p, _, hp, hb⟩ => (row_tyd (h.bp.oE i p hp).1 hb).ne hk (fun z => hne z.symm) rfl)
  have ab : ∀ (i : Nat) (p : EI), (fulE gs.length ei)[i]? = some p → p.zs = List.replicate p.n (eM i) := fun i p hp => by
    obtain ⟨q, e1, e2, e3, e4⟩ := fulE_at hp
    rw [e4, e3]
    unfold fillE
    by_cases hi : i < gs.length
    · rw [if_pos hi]; exact h.dE i q hi e1
    · rw [if_neg hi, if_pos (idx_lt e1)]
  refine ⟨⟨h.bp.filledE f, row_same h.rH (fun k hk => nt k _ (row_tyd h.rH hk) (by decide)), row_same h.rG (fun k hk => nt k _ (row_tyd h.rG hk) (by decide)), h.apBH, by rw [fulE_len]; exact h.apEG, fun i p v hp hv => ?_, fun i p v hp hv => ?_, h.apH, h.apHH, fun i j p v hp hv hne k hk => ?_, h.apGG, h.dB, fun i p hi hp => ab i p hp, by rw [fulE_len]; exact h.inR, h.inB, fun i p hp k hk => ?_, h.inH, h.inG⟩, f.sp.mono (fun k _ ⟨i, p, _, hp, hk⟩ => h.inE i p hp k hk), ab⟩
  · have o := h.oH i p v hp hv
    exact own_same o (fun k hk => nt k _ (row_tyd o.2 hk) (by decide))
  · obtain ⟨q, e1, e2, e3, e4⟩ := fulE_at hp
    rw [e3]
    have o := h.oG i q v e1 hv
    refine row_same o (fun k hk => f.sp.block k (o.lt k hk).2 (fun ⟨j, p', hj, hp', hb⟩ => ?_))
    have := idx_lt hv
    exact h.apG j i p' v hp' hv (by omega) k hb hk
  · obtain ⟨q, e1, e2, e3, e4⟩ := fulE_at hp
    exact h.apG i j q v e1 hv hne k (e2 ▸ hk)
  · obtain ⟨q, e1, e2, e3, e4⟩ := fulE_at hp
    exact h.inE i q e1 k (e2 ▸ hk)
end
end Go.Proofs.YthhkpkfpifllkaaGreat

namespace Go.Proofs.YthhkpkfpifllkaaGreat
open Go.RowKit
set_option linter.unusedVariables false

theorem snoc_at {α : Type} {l : List α} {x y : α} {i : Nat} (h : (l ++ [x])[i]? = some y) : (i < l.length ∧ l[i]? = some y) ∨ (i = l.length ∧ y = x) := by
  by_cases hi : i < l.length
  · rw [List.getElem?_append_left hi] at h; exact .inl ⟨hi, h⟩
  · rw [List.getElem?_append_right (by omega)] at h
    have h1 := idx_lt h
    simp at h1
    have e : i - l.length = 0 := by omega
    rw [e] at h
    exact .inr ⟨by omega, (Option.some.inj h).symm⟩
section
variable {w w1 w3 w2 : World} {N g : Nat} {aE aG aB aH : Option Addr} {cE cG cB cH : Nat} {tl : List Value} {ty : TypeId} {bi : List BI} {ei : List EI} {hs gs : List Value} {O : Nat → Prop}
theorem Bq.addH {u : Value} {p : BI} {a' : Option Addr} {c' : Nat} (h : Bq w N g aE aG aB aH cE cG cB cH tl ty bi ei hs gs O) (hO : ∀ k, O k → k < w.heap.size) (hp : bi[hs.length]? = some p) (hl : p.l = List.replicate p.n (mk3 hs.length))
    (g1 : w.grownBy w1 p.v.ownBlock) (o1 : Own w1 N p.v p.n p.l) (ou : Own w1 N u (p.n + (p.n + 70)) (List.replicate (p.n + (p.n + 70)) (mk3 hs.length))) (lu : ∀ k, u.ownBlock = some k → p.v.ownBlock = some k ∨ w.heap.size ≤ k)
    (b1 : Below w1.heap.size w1 w3) (g2 : w3.grownBy w2 (Value.slice aH hs.length cH).ownBlock) (r2 : w2.ownsRow N 82 1 (.slice a' (hs ++ [u]).length c') (hs ++ [u]).length (hs ++ [u])) (lo : ∀ k, (Value.slice a' (hs ++ [u]).length c').ownBlock = some k → (Value.slice aH hs.length cH).ownBlock = some k ∨ w1.heap.size ≤ k) :
    Bq (w2.setCell ⟨g, 3, none⟩ (.slice a' (hs ++ [u]).length c')) N g aE aG aB a' cE cG cB c' tl ty bi ei (hs ++ [u]) gs (fun k => O k ∨ (w.heap.size ≤ k ∧ k < w2.heap.size)) ∧ SpF w (w2.setCell ⟨g, 3, none⟩ (.slice a' (hs ++ [u]).length c')) O := by
  obtain ⟨W3, hW⟩ : ∃ Y, Y = w2.setCell ⟨g, 3, none⟩ (.slice a' (hs ++ [u]).length c') := ⟨_, rfl⟩
  have tp : ∀ k, p.v.ownBlock = some k → Tyd w k 5 := fun k hk => row_tyd (h.bp.oB _ p hp).2 hk
  have tH : ∀ k, (Value.slice aH hs.length cH).ownBlock = some k → Tyd w k 82 := fun k hk => row_tyd h.rH hk
  have tg : Tyd w g ty := h.bp.box.tyd
  have s1 : w.heap.size ≤ w1.heap.size := g1.size
  have s2 : w1.heap.size ≤ w3.heap.size := b1.size
  have s3 : w3.heap.size ≤ w2.heap.size := g2.size
  have k2 : ∀ x, x < w1.heap.size → (Value.slice aH hs.length cH).ownBlock ≠ some x → x ≠ g → W3.heap[x]? = w1.heap[x]? := fun x hx e2 e3 => by
    rw [hW]
    exact (Below.heap_setCell _ _ _ _ e3).trans ((g2.block x (Nat.lt_of_lt_of_le hx s2) (fun z => e2 z.symm)).trans (b1.block x hx))
  have kk : ∀ x, x < w.heap.size → p.v.ownBlock ≠ some x → (Value.slice aH hs.length cH).ownBlock ≠ some x → x ≠ g → W3.heap[x]? = w.heap[x]? := fun x hx e1 e2 e3 => (k2 x (Nat.lt_of_lt_of_le hx s1) e2 e3).trans (g1.block x hx (fun z => e1 z.symm))
  have kt : ∀ x ty', Tyd w x ty' → ty' ≠ 5 → ty' ≠ 82 → ty' ≠ ty → W3.heap[x]? = w.heap[x]? := fun x ty' hx n1 n2 n3 => kk x hx.lt (fun z => (tp x z).ne hx (fun z => n1 z.symm) rfl) (fun z => (tH x z).ne hx (fun z => n2 z.symm) rfl) (hx.ne tg n3)
  have ki : ∀ x, Tyd w x 5 → p.v.ownBlock ≠ some x → W3.heap[x]? = w.heap[x]? := fun x hx e1 => kk x hx.lt e1 (fun z => (tH x z).ne hx (by decide) rfl) (hx.ne tg (fun z => h.bp.tys.2.2.2 z.symm))
  have ng3 : ∀ k, (Value.slice aH hs.length cH).ownBlock = some k → k ≠ g := fun k hk => (tH k hk).ne tg (fun z => h.bp.tys.1 z.symm)
  have ngp : ∀ k, p.v.ownBlock = some k → k ≠ g := fun k hk => (tp k hk).ne tg (fun z => h.bp.tys.2.2.2 z.symm)
  have hgw : g < w.heap.size := tg.lt
  have hHw : ∀ k, (Value.slice aH hs.length cH).ownBlock = some k → k < w.heap.size := fun k hk => (tH k hk).lt
  -- the byte strings behind it
  have keepU : ∀ x, x < w1.heap.size → (p.v.ownBlock = some x ∨ w.heap.size ≤ x) → W3.heap[x]? = w1.heap[x]? := fun x hx hc => k2 x hx (fun z => by
    rcases hc with y | y
    · exact (tH x z).ne (tp x y) (by decide) rfl
    · have := hHw x z; omega) (by
    rcases hc with y | y
    · exact ngp x y
    · omega)
  have box2 : KBx w2 g (.slice aE ei.length cE) (.slice aG gs.length cG) (.slice aB bi.length cB) (.slice aH hs.length cH) tl ty := h.bp.box.keep ((g2.block g (by omega) (fun z => ng3 g z.symm rfl)).trans ((b1.block g (by omega)).trans (g1.block g hgw (fun z => ngp g z.symm rfl))))
  have hu2 : ∀ k, u.ownBlock = some k → k < w1.heap.size := fun k hk => (ou.2.lt k hk).2
  have inU : ∀ k, u.ownBlock = some k → O k ∨ (w.heap.size ≤ k ∧ k < w2.heap.size) := fun k hk => by
    rcases lu k hk with z | z
    · exact .inl (h.inB _ p hp k z)
    · exact .inr ⟨z, by have := hu2 k hk; omega⟩
  have uNe : ∀ (k : Nat), u.ownBlock = some k → ∀ x, x < w.heap.size → p.v.ownBlock ≠ some x → k ≠ x := fun k hk x hx hn z => by
    rcases lu k hk with y | y
    · exact hn (z ▸ y)
    · omega
  rw [← hW]
  refine ⟨⟨⟨?_, ?_, ?_, h.bp.tys, fun i q hq => ?_, fun i q hq => ?_, h.bp.apB, h.bp.apE, h.bp.len, ?_⟩, ?_, ?_, fun k hk => ?_, h.apEG, fun i q v hq hv => ?_, fun i q v hq hv => ?_, fun i j q v hq hv hne k hk => ?_, fun i j x v hx hv hne k hk => ?_, h.apG, h.apGG, fun i q hi hq => ?_, h.dE, ?_, fun i q hq k hk => .inl (h.inB i q hq k hk), fun i q hq k hk => .inl (h.inE i q hq k hk), fun i v hv k hk => ?_, fun i v hv k hk => .inl (h.inG i v hv k hk)⟩, ?_⟩
  · rw [hW]; exact box2.setH _
  · exact row_same h.bp.rB (fun k hk => kk k (h.bp.rB.lt k hk).2 (fun z => (tp k z).ne (row_tyd h.bp.rB hk) (by decide) rfl) (h.apBH k hk) ((row_tyd h.bp.rB hk).ne tg (fun z => h.bp.tys.1 z.symm)))
  · exact row_same h.bp.rE (fun k hk => kt k _ (row_tyd h.bp.rE hk) (by decide) (by decide) (fun z => h.bp.tys.2.1 z.symm))
  · by_cases e : i = hs.length
    · subst e
      obtain rfl : p = q := Option.some.inj (hp.symm.trans hq)
      exact own_same o1 (fun k hk => keepU k (o1.2.lt k hk).2 (.inl hk))
    · have o := h.bp.oB i q hq
      exact own_same o (fun k hk => ki k (row_tyd o.2 hk) (h.bp.apB i _ q p hq hp e k hk))
  · have o := h.bp.oE i q hq
    exact ⟨row_same o.1 (fun k hk => kt k _ (row_tyd o.1 hk) (by decide) (by decide) (fun z => h.bp.tys.2.2.1 z.symm)), o.2⟩
  · have := h.bp.few
    have := idx_lt hp
    rw [List.length_append, List.length_singleton]
    omega
  · refine row_same r2 (fun k hk => ?_)
    rw [hW]
    refine Below.heap_setCell _ _ _ _ ?_
    rcases lo k hk with z | z
    · exact ng3 k z
    · show k ≠ g; omega
  · exact row_same h.rG (fun k hk => kt k _ (row_tyd h.rG hk) (by decide) (by decide) (fun z => h.bp.tys.2.1 z.symm))
  · intro z
    rcases lo k z with y | y
    · exact h.apBH k hk y
    · have := (h.bp.rB.lt k hk).2; omega
  · rcases snoc_at hv with ⟨hi, hv'⟩ | ⟨rfl, rfl⟩
    · have o := h.oH i q v hq hv'
      exact own_same o (fun k hk => ki k (row_tyd o.2 hk) (fun z => h.apH _ i p v hp hv' (by omega) k z hk))
    · obtain rfl : p = q := Option.some.inj (hp.symm.trans hq)
      exact own_same ou (fun k hk => keepU k (hu2 k hk) (lu k hk))
  · have o := h.oG i q v hq hv
    exact row_same o (fun k hk => kt k _ (row_tyd o hk) (by decide) (by decide) (fun z => h.bp.tys.2.2.1 z.symm))
  · rcases snoc_at hv with ⟨hj, hv'⟩ | ⟨rfl, rfl⟩
    · exact h.apH i j q v hq hv' hne k hk
    · intro z
      exact uNe k z k ((h.bp.oB i q hq).2.lt k hk).2 (h.bp.apB i _ q p hq hp hne k hk) rfl
  · rcases snoc_at hx with ⟨hi, hx'⟩ | ⟨rfl, rfl⟩
    · rcases snoc_at hv with ⟨hj, hv'⟩ | ⟨rfl, rfl⟩
      · exact h.apHH i j x v hx' hv' hne k hk
      · intro z
        have hbi : ∃ q, bi[i]? = some q := ⟨_, List.getElem?_eq_getElem (by have := idx_lt hp; omega)⟩
        obtain ⟨q, hq⟩ := hbi
        exact uNe k z k ((h.oH i q x hq hx').2.lt k hk).2 (fun y => h.apH _ i p x hp hx' (by omega) k y hk) rfl
    · rcases snoc_at hv with ⟨hj, hv'⟩ | ⟨rfl, rfl⟩
      · intro z
        have hbi : ∃ q, bi[j]? = some q := ⟨_, List.getElem?_eq_getElem (by have := idx_lt hp; omega)⟩
        obtain ⟨q, hq⟩ := hbi
        exact uNe k hk k ((h.oH j q v hq hv').2.lt k z).2 (fun y => h.apH _ j p v hp hv' (by omega) k y z) rfl
      · exact absurd rfl hne
  · by_cases e : i = hs.length
    · subst e
      obtain rfl : p = q := Option.some.inj (hp.symm.trans hq)
      exact hl
    · refine h.dB i q ?_ hq
      rw [List.length_append, List.length_singleton] at hi
      omega
  · refine ⟨.inl h.inR.1, fun k hk => .inl (h.inR.2.1 k hk), fun k hk => .inl (h.inR.2.2.1 k hk), fun k hk => ?_, fun k hk => .inl (h.inR.2.2.2.2 k hk)⟩
    rcases lo k hk with z | z
    · exact .inl (h.inR.2.2.2.1 k z)
    · exact .inr ⟨by omega, (r2.lt k hk).2⟩
  · rcases snoc_at hv with ⟨hi, hv'⟩ | ⟨rfl, rfl⟩
    · exact .inl (h.inH i v hv' k hk)
    · exact inU k hk
  · rw [hW]
    exact ((((SpF.refl w O).grown g1 (fun k hk => h.inB _ p hp k hk)).below b1).grown g2 (fun k hk => h.inR.2.2.2.1 k hk)).grown (grown1 w2 g 3 _) (fun k hk => by cases hk; exact h.inR.1)
theorem Bq.addG {u : Value} {p : EI} {a' : Option Addr} {c' : Nat} (h : Bq w N g aE aG aB aH cE cG cB cH tl ty bi ei hs gs O) (hO : ∀ k, O k → k < w.heap.size) (hp : ei[gs.length]? = some p) (hl : p.zs = List.replicate p.n (eM gs.length))
    (g1 : w.grownBy w1 p.v.ownBlock) (o1 : w1.ownsRow N 84 7 p.v p.n (evals p.zs)) (ou : w1.ownsRow N 84 7 u (p.n + (2 * p.n + 20)) (evals (List.replicate (p.n + (2 * p.n + 20)) (eM gs.length)))) (lu : ∀ k, u.ownBlock = some k → p.v.ownBlock = some k ∨ w.heap.size ≤ k)
    (b1 : Below w1.heap.size w1 w3) (g2 : w3.grownBy w2 (Value.slice aG gs.length cG).ownBlock) (r2 : w2.ownsRow N 28 1 (.slice a' (gs ++ [u]).length c') (gs ++ [u]).length (gs ++ [u])) (lo : ∀ k, (Value.slice a' (gs ++ [u]).length c').ownBlock = some k → (Value.slice aG gs.length cG).ownBlock = some k ∨ w1.heap.size ≤ k) :
    KBx w2 g (.slice aE ei.length cE) (.slice aG gs.length cG) (.slice aB bi.length cB) (.slice aH hs.length cH) tl ty ∧ Bq (w2.setCell ⟨g, 1, none⟩ (.slice a' (gs ++ [u]).length c')) N g aE a' aB aH cE c' cB cH tl ty bi ei hs (gs ++ [u]) (fun k => O k ∨ (w.heap.size ≤ k ∧ k < w2.heap.size)) ∧ SpF w (w2.setCell ⟨g, 1, none⟩ (.slice a' (gs ++ [u]).length c')) O := by
  obtain ⟨W3, hW⟩ : ∃ Y, Y = w2.setCell ⟨g, 1, none⟩ (.slice a' (gs ++ [u]).length c') := ⟨_, rfl⟩
  have tp : ∀ k, p.v.ownBlock = some k → Tyd w k 84 := fun k hk => row_tyd (h.bp.oE _ p hp).1 hk
  have tH : ∀ k, (Value.slice aG gs.length cG).ownBlock = some k → Tyd w k 28 := fun k hk => row_tyd h.rG hk
  have tg : Tyd w g ty := h.bp.box.tyd
  have s1 : w.heap.size ≤ w1.heap.size := g1.size
  have s2 : w1.heap.size ≤ w3.heap.size := b1.size
  have s3 : w3.heap.size ≤ w2.heap.size := g2.size
  have k2 : ∀ x, x < w1.heap.size → (Value.slice aG gs.length cG).ownBlock ≠ some x → x ≠ g → W3.heap[x]? = w1.heap[x]? := fun x hx e2 e3 => by
    rw [hW]
    exact (Below.heap_setCell _ _ _ _ e3).trans ((g2.block x (Nat.lt_of_lt_of_le hx s2) (fun z => e2 z.symm)).trans (b1.block x hx))
  have kk : ∀ x, x < w.heap.size → p.v.ownBlock ≠ some x → (Value.slice aG gs.length cG).ownBlock ≠ some x → x ≠ g → W3.heap[x]? = w.heap[x]? := fun x hx e1 e2 e3 => (k2 x (Nat.lt_of_lt_of_le hx s1) e2 e3).trans (g1.block x hx (fun z => e1 z.symm))
  have kt : ∀ x ty', Tyd w x ty' → ty' ≠ 84 → ty' ≠ 28 → ty' ≠ ty → W3.heap[x]? = w.heap[x]? := fun x ty' hx n1 n2 n3 => kk x hx.lt (fun z => (tp x z).ne hx (fun z => n1 z.symm) rfl) (fun z => (tH x z).ne hx (fun z => n2 z.symm) rfl) (hx.ne tg n3)
  have ki : ∀ x, Tyd w x 84 → p.v.ownBlock ≠ some x → W3.heap[x]? = w.heap[x]? := fun x hx e1 => kk x hx.lt e1 (fun z => (tH x z).ne hx (by decide) rfl) (hx.ne tg (fun z => h.bp.tys.2.2.1 z.symm))
  have ng3 : ∀ k, (Value.slice aG gs.length cG).ownBlock = some k → k ≠ g := fun k hk => (tH k hk).ne tg (fun z => h.bp.tys.2.1 z.symm)
  have ngp : ∀ k, p.v.ownBlock = some k → k ≠ g := fun k hk => (tp k hk).ne tg (fun z => h.bp.tys.2.2.1 z.symm)
  have hgw : g < w.heap.size := tg.lt
  have hHw : ∀ k, (Value.slice aG gs.length cG).ownBlock = some k → k < w.heap.size := fun k hk => (tH k hk).lt
  have keepU : ∀ x, x < w1.heap.size → (p.v.ownBlock = some x ∨ w.heap.size ≤ x) → W3.heap[x]? = w1.heap[x]? := fun x hx hc => k2 x hx (fun z => by
    rcases hc with y | y
    · exact (tH x z).ne (tp x y) (by decide) rfl
    · have := hHw x z; omega) (by
    rcases hc with y | y
    · exact ngp x y
    · omega)
  have box2 : KBx w2 g (.slice aE ei.length cE) (.slice aG gs.length cG) (.slice aB bi.length cB) (.slice aH hs.length cH) tl ty := h.bp.box.keep ((g2.block g (by omega) (fun z => ng3 g z.symm rfl)).trans ((b1.block g (by omega)).trans (g1.block g hgw (fun z => ngp g z.symm rfl))))
  have hu2 : ∀ k, u.ownBlock = some k → k < w1.heap.size := fun k hk => (ou.lt k hk).2
  have inU : ∀ k, u.ownBlock = some k → O k ∨ (w.heap.size ≤ k ∧ k < w2.heap.size) := fun k hk => by
    rcases lu k hk with z | z
    · exact .inl (h.inE _ p hp k z)
    · exact .inr ⟨z, by have := hu2 k hk; omega⟩
  have uNe : ∀ (k : Nat), u.ownBlock = some k → ∀ x, x < w.heap.size → p.v.ownBlock ≠ some x → k ≠ x := fun k hk x hx hn z => by
    rcases lu k hk with y | y
    · exact hn (z ▸ y)
    · omega
  rw [← hW]
  refine ⟨box2, ⟨⟨?_, ?_, ?_, h.bp.tys, fun i q hq => ?_, fun i q hq => ?_, h.bp.apB, h.bp.apE, h.bp.len, ?_⟩, ?_, ?_, h.apBH, fun k hk => ?_, fun i q v hq hv => ?_, fun i q v hq hv => ?_, h.apH, h.apHH, fun i j q v hq hv hne k hk => ?_, fun i j x v hx hv hne k hk => ?_, h.dB, fun i q hi hq => ?_, ?_, fun i q hq k hk => .inl (h.inB i q hq k hk), fun i q hq k hk => .inl (h.inE i q hq k hk), fun i v hv k hk => .inl (h.inH i v hv k hk), fun i v hv k hk => ?_⟩, ?_⟩
  · rw [hW]; exact box2.setG _
  · exact row_same h.bp.rB (fun k hk => kt k _ (row_tyd h.bp.rB hk) (by decide) (by decide) (fun z => h.bp.tys.1 z.symm))
  · exact row_same h.bp.rE (fun k hk => kk k (h.bp.rE.lt k hk).2 (fun z => (tp k z).ne (row_tyd h.bp.rE hk) (by decide) rfl) (h.apEG k hk) ((row_tyd h.bp.rE hk).ne tg (fun z => h.bp.tys.2.1 z.symm)))
  · have o := h.bp.oB i q hq
    exact own_same o (fun k hk => kt k _ (row_tyd o.2 hk) (by decide) (by decide) (fun z => h.bp.tys.2.2.2 z.symm))
  · by_cases e : i = gs.length
    · subst e
      obtain rfl : p = q := Option.some.inj (hp.symm.trans hq)
      exact ⟨row_same o1 (fun k hk => keepU k (o1.lt k hk).2 (.inl hk)), (h.bp.oE _ p hp).2⟩
    · have o := h.bp.oE i q hq
      exact ⟨row_same o.1 (fun k hk => ki k (row_tyd o.1 hk) (h.bp.apE i _ q p hq hp e k hk)), o.2⟩
  · have := h.bp.few
    have := idx_lt hp
    rw [List.length_append, List.length_singleton]
    omega
  · exact row_same h.rH (fun k hk => kt k _ (row_tyd h.rH hk) (by decide) (by decide) (fun z => h.bp.tys.1 z.symm))
  · refine row_same r2 (fun k hk => ?_)
    rw [hW]
    refine Below.heap_setCell _ _ _ _ ?_
    rcases lo k hk with z | z
    · exact ng3 k z
    · show k ≠ g; omega
  · intro z
    rcases lo k z with y | y
    · exact h.apEG k hk y
    · have := (h.bp.rE.lt k hk).2; omega
  · have o := h.oH i q v hq hv
    exact own_same o (fun k hk => kt k _ (row_tyd o.2 hk) (by decide) (by decide) (fun z => h.bp.tys.2.2.2 z.symm))
  · rcases snoc_at hv with ⟨hi, hv'⟩ | ⟨rfl, rfl⟩
    · have o := h.oG i q v hq hv'
      exact row_same o (fun k hk => ki k (row_tyd o hk) (fun z => h.apG _ i p v hp hv' (by omega) k z hk))
    · obtain rfl : p = q := Option.some.inj (hp.symm.trans hq)
      exact row_same ou (fun k hk => keepU k (hu2 k hk) (lu k hk))
  · rcases snoc_at hv with ⟨hj, hv'⟩ | ⟨rfl, rfl⟩
    · exact h.apG i j q v hq hv' hne k hk
    · intro z
      exact uNe k z k ((h.bp.oE i q hq).1.lt k hk).2 (h.bp.apE i _ q p hq hp hne k hk) rfl
  · rcases snoc_at hx with ⟨hi, hx'⟩ | ⟨rfl, rfl⟩
    · rcases snoc_at hv with ⟨hj, hv'⟩ | ⟨rfl, rfl⟩
      · exact h.apGG i j x v hx' hv' hne k hk
      · intro z
        have hbi : ∃ q, ei[i]? = some q := ⟨_, List.getElem?_eq_getElem (by have := idx_lt hp; omega)⟩
        obtain ⟨q, hq⟩ := hbi
        exact uNe k z k ((h.oG i q x hq hx').lt k hk).2 (fun y => h.apG _ i p x hp hx' (by omega) k y hk) rfl
    · rcases snoc_at hv with ⟨hj, hv'⟩ | ⟨rfl, rfl⟩
      · intro z
        have hbi : ∃ q, ei[j]? = some q := ⟨_, List.getElem?_eq_getElem (by have := idx_lt hp; omega)⟩
        obtain ⟨q, hq⟩ := hbi
        exact uNe k hk k ((h.oG j q v hq hv').lt k z).2 (fun y => h.apG _ j p v hp hv' (by omega) k y z) rfl
      · exact absurd rfl hne
  · by_cases e : i = gs.length
    · subst e
      obtain rfl : p = q := Option.some.inj (hp.symm.trans hq)
      exact hl
    · refine h.dE i q ?_ hq
      rw [List.length_append, List.length_singleton] at hi
      omega
  · refine ⟨.inl h.inR.1, fun k hk => .inl (h.inR.2.1 k hk), fun k hk => .inl (h.inR.2.2.1 k hk), fun k hk => .inl (h.inR.2.2.2.1 k hk), fun k hk => ?_⟩
    rcases lo k hk with z | z
    · exact .inl (h.inR.2.2.2.2 k z)
    · exact .inr ⟨by omega, (r2.lt k hk).2⟩
  · rcases snoc_at hv with ⟨hi, hv'⟩ | ⟨rfl, rfl⟩
    · exact .inl (h.inG i v hv' k hk)
    · exact inU k hk
  · rw [hW]
    exact ((((SpF.refl w O).grown g1 (fun k hk => h.inE _ p hp k hk)).below b1).grown g2 (fun k hk => h.inR.2.2.2.2 k hk)).grown (grown1 w2 g 1 _) (fun k hk => by cases hk; exact h.inR.1)
end
end Go.Proofs.YthhkpkfpifllkaaGreat

namespace Go.Proofs.YthhkpkfpifllkaaGreat
open Go.RowKit
set_option linter.unusedVariables false

theorem own_marks {w : World} {N n m i : Nat} {v : Value} (h : Own w N v n (List.replicate n (mk3 i))) : ∃ a c, v = .slice a n c ∧ ∀ j, j < n → ∃ k, a = some ⟨k, 0, none⟩ ∧ w.cell? ⟨k, j, none⟩ = some (.int .u8 (1 + (i : Int) % 250)) := by
  obtain ⟨a, c, hv⟩ := own_form' h
  subst hv
  refine ⟨a, c, rfl, fun j hj => ?_⟩
  rcases ownNonil h with ⟨rfl, rfl, rfl⟩ | ⟨g, rfl⟩
  · omega
  · refine ⟨g, rfl, ?_⟩
    rw [ownCell h hj]
    have e : (List.replicate n (mk3 i)).getD j 0 = mk3 i := by
      rw [List.getD_eq_getElem?_getD, List.getElem?_replicate, if_pos hj]; rfl
    rw [e, mk3_int]
theorem row_marks {w : World} {N n i : Nat} {v : Value} (h : w.ownsRow N 84 7 v n (evals (List.replicate n (eM i)))) : ∃ a c, v = .slice a n c ∧ ∀ j, j < n → ∃ k, a = some ⟨k, 0, none⟩ ∧ w.cell? ⟨k, j * 7 + 1, none⟩ = some (.int .i64 (-10 - (i : Int))) := by
  obtain ⟨a, c, hv⟩ := rows_form3 h
  subst hv
  refine ⟨a, c, rfl, fun j hj => ?_⟩
  have hx : (List.replicate n (eM i))[j]? = some (eM i) := by rw [List.getElem?_replicate, if_pos hj]
  have h' : w.ownsRow N 84 7 (.slice a (List.replicate n (eM i)).length c) (List.replicate n (eM i)).length (evals (List.replicate n (eM i))) := by rw [List.length_replicate]; exact h
  obtain ⟨g, e, _, _, hc⟩ := row_cells3 h' hx
  exact ⟨g, e, hc 1 _ rfl⟩
section
variable {w : World} {N g : Nat} {aE aG aB aH : Option Addr} {cE cG cB cH : Nat} {tl : List Value} {ty : TypeId} {bi : List BI} {ei : List EI} {hs gs : List Value} {O : Nat → Prop}
theorem Bq.byI (h : Bq w N g aE aG aB aH cE cG cB cH tl ty bi ei hs gs O) (hb : hs.length = bi.length) {i : Nat} (hi : i < bi.length) : ByI w aB aH i := by
  obtain ⟨p, hp⟩ : ∃ p, bi[i]? = some p := ⟨_, List.getElem?_eq_getElem hi⟩
  obtain ⟨v, hv⟩ : ∃ v, hs[i]? = some v := ⟨_, List.getElem?_eq_getElem (by omega)⟩
  obtain ⟨gB, e1, c1⟩ := row1_cell (u := p.v) h.bp.rB (by simp) (by rw [List.getElem?_map, hp]; rfl)
  obtain ⟨gH, e2, c2⟩ := row1_cell (u := v) h.rH rfl hv
  have oB := h.bp.oB i p hp
  rw [h.dB i p (by omega) hp] at oB
  obtain ⟨a, c, e3, m1⟩ := own_marks (m := 0) oB
  obtain ⟨b, d, e4, m2⟩ := own_marks (m := 0) (h.oH i p v hp hv)
  have hl := h.bp.len.1 i p hp
  exact ⟨gB, gH, a, p.n, c, b, _, d, e1, e2, by rw [c1, e3], by rw [c2, e4], by omega, by omega, m2, m1⟩
theorem Bq.enI (h : Bq w N g aE aG aB aH cE cG cB cH tl ty bi ei hs gs O) (hb : gs.length = ei.length) {i : Nat} (hi : i < ei.length) : EnI w aE aG i := by
  obtain ⟨p, hp⟩ : ∃ p, ei[i]? = some p := ⟨_, List.getElem?_eq_getElem hi⟩
  obtain ⟨v, hv⟩ : ∃ v, gs[i]? = some v := ⟨_, List.getElem?_eq_getElem (by omega)⟩
  obtain ⟨gB, e1, c1⟩ := row1_cell (u := p.v) h.bp.rE (by simp) (by rw [List.getElem?_map, hp]; rfl)
  obtain ⟨gH, e2, c2⟩ := row1_cell (u := v) h.rG rfl hv
  have oB := (h.bp.oE i p hp).1
  rw [h.dE i p (by omega) hp] at oB
  obtain ⟨a, c, e3, m1⟩ := row_marks oB
  obtain ⟨b, d, e4, m2⟩ := row_marks (h.oG i p v hp hv)
  have hl := h.bp.len.2 i p hp
  exact ⟨gB, gH, a, p.n, c, b, _, d, e1, e2, by rw [c1, e3], by rw [c2, e4], by omega, by omega, m2, m1⟩
theorem Bq.stands (h : Bq w N g aE aG aB aH cE cG cB cH tl ty bi ei hs gs O) (hb : hs.length = bi.length) (he : gs.length = ei.length) :
    Calls Tryz.prog 41 #[.pointer (some ⟨g, 0, none⟩)] w fun r w' => r = .returned (.bool true) ∧ w' = w := by
  have k := h.bp.box
  rw [hb, he] at k
  exact bstands_any k h.bp.few.1 h.bp.few.2.1 (fun i hi => h.byI hb hi) (fun i hi => h.enI he hi)
end
end Go.Proofs.YthhkpkfpifllkaaGreat
