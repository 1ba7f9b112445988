import Derived.Test.YtbheifelfeekmaaK10
namespace Go.Proofs.Ytbheifelfeekmaa
open Go.RowKit Go.MapKept Go.Sort
set_option linter.unusedVariables false
set_option linter.unusedSimpArgs false
variable {w w' W X X' : World} {O O' P P' : Nat → Prop} {dB bk : Nat} {d : Dk4}
abbrev NB := ByteArray × List Nat
def PF.nd (p : PF) : NB := (p.1, p.2.1)
def setB4 : List NB → NB → List NB
  | [], f => [f]
  | x :: xs, f => if x.1 = f.1 then f :: xs else x :: setB4 xs f
def delB4 : List NB → ByteArray → List NB
  | [], _ => []
  | x :: xs, s => if x.1 = s then xs else x :: delB4 xs s
def atB4 : List NB → ByteArray → Option (List Nat)
  | [], _ => none
  | x :: xs, s => if x.1 = s then some x.2 else atB4 xs s
theorem setP_nd (f : PF) : ∀ l : List PF, (setP l f).map PF.nd = setB4 (l.map PF.nd) f.nd
  | [] => rfl
  | x :: xs => by
    by_cases h : x.1 = f.1
    · simp [setP, setB4, h, PF.nd]
    · simp [setP, setB4, h, PF.nd]
      simpa [PF.nd] using setP_nd f xs
theorem delP_nd (s : ByteArray) : ∀ l : List PF, (delP l s).map PF.nd = delB4 (l.map PF.nd) s
  | [] => rfl
  | x :: xs => by
    by_cases h : x.1 = s
    · simp [delP, delB4, h, PF.nd]
    · simp [delP, delB4, h, PF.nd]
      simpa [PF.nd] using delP_nd s xs
theorem atP_nd (s : ByteArray) : ∀ l : List PF, atB4 (l.map PF.nd) s = (atP l s).map (·.1)
  | [] => rfl
  | x :: xs => by
    by_cases h : x.1 = s
    · simp [atP, atB4, h, PF.nd]
    · simp [atP, atB4, h, PF.nd]
      simpa [PF.nd] using atP_nd s xs
theorem setB4_same {s : ByteArray} {b : List Nat} : ∀ {l : List NB}, atB4 l s = some b → setB4 l (s, b) = l
  | x :: xs, h => by
    by_cases e : x.1 = s
    · rw [atB4, if_pos e] at h
      rw [setB4, if_pos e]
      cases h
      rw [← e]
    · rw [atB4, if_neg e] at h
      rw [setB4, if_neg e, setB4_same h]
abbrev BL := List (NB × Value)
def BL.kv (L : BL) : List (ByteArray × Value) := L.map fun x => (x.1.1, x.2)
def setL4 : BL → ByteArray → List Nat → Value → BL
  | [], s, b, v => [((s, b), v)]
  | x :: xs, s, b, v => if x.1.1 = s then ((s, b), v) :: xs else x :: setL4 xs s b v
def delL4 : BL → ByteArray → BL
  | [], _ => []
  | x :: xs, s => if x.1.1 = s then xs else x :: delL4 xs s
theorem setL4_kv (s : ByteArray) (b : List Nat) (v : Value) : ∀ L : BL, BL.kv (setL4 L s b v) = setV4 L.kv s v
  | [] => rfl
  | x :: xs => by
    by_cases h : x.1.1 = s
    · simp [setL4, setV4, BL.kv, h]
    · simp [setL4, setV4, BL.kv, h]
      simpa [BL.kv] using setL4_kv s b v xs
theorem setL4_nb (s : ByteArray) (b : List Nat) (v : Value) : ∀ L : BL, (setL4 L s b v).map (·.1) = setB4 (L.map (·.1)) (s, b)
  | [] => rfl
  | x :: xs => by
    by_cases h : x.1.1 = s
    · simp [setL4, setB4, h]
    · simp [setL4, setB4, h]
      simpa using setL4_nb s b v xs
theorem delL4_kv (s : ByteArray) : ∀ L : BL, BL.kv (delL4 L s) = delV L.kv s
  | [] => rfl
  | x :: xs => by
    by_cases h : x.1.1 = s
    · simp [delL4, delV, BL.kv, h]
    · simp [delL4, delV, BL.kv, h]
      simpa [BL.kv] using delL4_kv s xs
theorem delL4_nb (s : ByteArray) : ∀ L : BL, (delL4 L s).map (·.1) = delB4 (L.map (·.1)) s
  | [] => rfl
  | x :: xs => by
    by_cases h : x.1.1 = s
    · simp [delL4, delB4, h]
    · simp [delL4, delB4, h]
      simpa using delL4_nb s xs
theorem setL4_mem {s : ByteArray} {b : List Nat} {v : Value} {y : NB × Value} : ∀ {L : BL}, y ∈ setL4 L s b v → y = ((s, b), v) ∨ y ∈ L
  | [], h => by simp [setL4] at h; exact .inl h
  | x :: xs, h => by
    by_cases e : x.1.1 = s
    · rw [setL4, if_pos e] at h
      rcases List.mem_cons.1 h with h | h
      · exact .inl h
      · exact .inr (by simp [h])
    · rw [setL4, if_neg e] at h
      rcases List.mem_cons.1 h with h | h
      · exact .inr (by simp [h])
      · rcases setL4_mem h with h | h
        · exact .inl h
        · exact .inr (by simp [h])
theorem delL4_mem {s : ByteArray} {y : NB × Value} : ∀ {L : BL}, y ∈ delL4 L s → y ∈ L
  | x :: xs, h => by
    by_cases e : x.1.1 = s
    · rw [delL4, if_pos e] at h; simp [h]
    · rw [delL4, if_neg e] at h
      rcases List.mem_cons.1 h with h | h
      · simp [h]
      · simp [delL4_mem h]
theorem atL4 {s : ByteArray} {b : List Nat} : ∀ {L : BL}, atB4 (L.map (·.1)) s = some b → ∃ v, atV L.kv s = some v ∧ ((s, b), v) ∈ L
  | x :: xs, h => by
    obtain ⟨⟨xs1, xb⟩, xv⟩ := x
    rw [List.map_cons, atB4] at h
    by_cases e : xs1 = s
    · subst e
      rw [if_pos rfl] at h
      cases h
      exact ⟨xv, by simp [BL.kv, atV], by simp⟩
    · rw [if_neg e] at h
      obtain ⟨v, h1, h2⟩ := atL4 h
      exact ⟨v, by simpa [BL.kv, atV, e] using h1, by simp [h2]⟩
structure ActN (d d' : Dk4) (kind : Int) (s t : ByteArray) (bs : List Nat) (e : Int) : Prop where
  cap : d'.cap = d.cap
  calm : d'.down = false ∧ d'.arm = 0
  bad : e ≠ 0 → d'.fs = d.fs
  k1 : e = 0 → kind = 1 → d'.fs.map PF.nd = setB4 (d.fs.map PF.nd) (s, [])
  k2 : e = 0 → kind = 2 → ∃ b, atB4 (d.fs.map PF.nd) s = some b ∧ d'.fs.map PF.nd = setB4 (d.fs.map PF.nd) (s, b ++ bs)
  k4 : e = 0 → kind = 4 → ∃ b, atB4 (d.fs.map PF.nd) s = some b ∧ d'.fs.map PF.nd = setB4 (delB4 (d.fs.map PF.nd) s) (t, b)
  k5 : e = 0 → kind = 5 → d'.fs.map PF.nd = delB4 (d.fs.map PF.nd) s
  ko : e = 0 → kind ≠ 1 → kind ≠ 2 → kind ≠ 4 → kind ≠ 5 → d'.fs.map PF.nd = d.fs.map PF.nd
theorem actP_calm {torn : Bool} {f : List PF} {x : Nat → Int} (h : d.down = false ∧ d.arm = 0) : actP d torn f x = (0, ⟨f, d.cap, 0, d.down, setCt x 0 (wrap64 (x 0 + 1))⟩) := by
  unfold actP
  rw [if_neg (by rw [h.2]; decide), if_neg (by rw [h.2]; decide)]
theorem actN_bad {kind : Int} {s t : ByteArray} {bs : List Nat} {e : Int} (h : d.down = false ∧ d.arm = 0) (he : e ≠ 0) : ActN d d kind s t bs e :=
  ⟨rfl, h, fun _ => rfl, fun z => absurd z he, fun z => absurd z he, fun z => absurd z he, fun z => absurd z he, fun z => absurd z he⟩
theorem reaE_some {s : ByteArray} (h : reaE d s = 0) : ∃ v, atP d.fs s = some v := by
  unfold reaE at h
  cases hv : atP d.fs s with
  | some v => exact ⟨v, rfl⟩
  | none =>
    rw [hv] at h
    split at h
    · cases h
    · rename_i h2
      exact absurd h h2
theorem act_nd {kind file too : Int} {bs : List Nat} (h : d.down = false ∧ d.arm = 0) : ActN d (actD d kind file too bs).2 kind (nameN file) (nameN too) bs (actD d kind file too bs).1 := by
  obtain ⟨s, hs⟩ : ∃ s, s = nameN file := ⟨_, rfl⟩
  obtain ⟨t, ht⟩ : ∃ t, t = nameN too := ⟨_, rfl⟩
  unfold actD
  rw [← hs, ← ht]
  clear hs ht
  by_cases k1 : kind = 1
  · subst k1
    rw [if_pos rfl]
    unfold createD
    split
    · rename_i h0; exact actN_bad h h0
    · split
      · exact actN_bad h (show (41 : Int) ≠ 0 by decide)
      · split
        · exact actN_bad h (show (44 : Int) ≠ 0 by decide)
        · rw [actP_calm h]
          exact ⟨rfl, ⟨h.1, rfl⟩, fun z => (z rfl).elim, fun _ _ => setP_nd _ _, fun _ z => absurd z (by decide), fun _ z => absurd z (by decide), fun _ z => absurd z (by decide), fun _ z => (z rfl).elim⟩
  rw [if_neg k1]
  by_cases k2 : kind = 2
  · subst k2
    rw [if_pos rfl]
    unfold appendD
    split
    · rename_i h0; exact actN_bad h h0
    · split
      · exact actN_bad h (show (2 : Int) ≠ 0 by decide)
      · split
        · exact actN_bad h (show (42 : Int) ≠ 0 by decide)
        · rename_i v hv
          split
          · exact actN_bad h (show (4 : Int) ≠ 0 by decide)
          · rw [actP_calm h]
            exact ⟨rfl, ⟨h.1, rfl⟩, fun z => (z rfl).elim, fun _ z => absurd z (by decide), fun _ _ => ⟨v.1, by rw [atP_nd, hv]; rfl, setP_nd _ _⟩, fun _ z => absurd z (by decide), fun _ z => absurd z (by decide), fun _ _ z => (z rfl).elim⟩
  rw [if_neg k2]
  by_cases k3 : kind = 3
  · subst k3
    rw [if_pos rfl]
    unfold syncD
    split
    · rename_i h0; exact actN_bad h h0
    · rename_i h0
      obtain ⟨v, hv⟩ := reaE_some (Decidable.not_not.1 h0)
      rw [actP_calm h]
      refine ⟨rfl, ⟨h.1, rfl⟩, fun z => (z rfl).elim, fun _ z => absurd z (by decide), fun _ z => absurd z (by decide), fun _ z => absurd z (by decide), fun _ z => absurd z (by decide), fun _ _ _ _ _ => ?_⟩
      simp only
      rw [setP_nd, hv]
      exact setB4_same (by rw [atP_nd, hv]; rfl)
  rw [if_neg k3]
  by_cases k4 : kind = 4
  · subst k4
    rw [if_pos rfl]
    unfold renameD
    split
    · rename_i h0; exact actN_bad h h0
    · split
      · exact actN_bad h (show (42 : Int) ≠ 0 by decide)
      · rename_i v hv
        rw [actP_calm h]
        exact ⟨rfl, ⟨h.1, rfl⟩, fun z => (z rfl).elim, fun _ z => absurd z (by decide), fun _ z => absurd z (by decide), fun _ _ => ⟨v.1, by rw [atP_nd, hv]; rfl, by simp only; rw [setP_nd, delP_nd]; rfl⟩, fun _ z => absurd z (by decide), fun _ _ _ z => (z rfl).elim⟩
  rw [if_neg k4]
  by_cases k5 : kind = 5
  · subst k5
    rw [if_pos rfl]
    unfold deleteD
    split
    · rename_i h0; exact actN_bad h h0
    · rw [actP_calm h]
      exact ⟨rfl, ⟨h.1, rfl⟩, fun z => (z rfl).elim, fun _ z => absurd z (by decide), fun _ z => absurd z (by decide), fun _ z => absurd z (by decide), fun _ _ => delP_nd _ _, fun _ _ _ _ z => (z rfl).elim⟩
  rw [if_neg k5]
  exact ⟨rfl, h, fun z => (z rfl).elim, fun _ z => absurd z k1, fun _ z => absurd z k2, fun _ z => absurd z k4, fun _ z => absurd z k5, fun _ _ _ _ _ => rfl⟩
structure Bok (w X : World) (O P : Nat → Prop) (bk : Nat) (L : BL) : Prop where
  map : ∃ es ck, MpV X bk L.kv es ck
  dat : ∀ x ∈ L, OwnO X P x.2 x.1.2
  nob : ¬ O bk
  wbk : w.heap.size ≤ bk
  nop : ∀ i, P i → ¬ O i ∧ w.heap.size ≤ i ∧ i < X.heap.size
theorem Bok.go {L : BL} (h : Bok w X O P bk L) (g : Go4 X X' O O') : Bok w X' O' P bk L := by
  obtain ⟨es, ck, hm⟩ := h.map
  refine ⟨⟨es, ck, hm.kept (g.block _ hm.lt h.nob)⟩, fun x hx => (h.dat x hx).kept (fun k hk => ?_), fun z => ?_, h.wbk, fun i hi => ?_⟩
  · have := h.nop k ((h.dat x hx).blk k hk)
    exact ⟨g.block k this.2.2 this.1, (h.dat x hx).blk k hk⟩
  · exact (g.new _ z).elim h.nob (fun q => by have := hm.lt; omega)
  · have := h.nop i hi
    exact ⟨fun z => (g.new i z).elim this.1 (fun q => by omega), this.2.1, Nat.lt_of_lt_of_le this.2.2 g.size⟩
theorem Bok.below {L : BL} (h : Bok w X O P bk L) (b : Below X.heap.size X X') : Bok w X' O P bk L := h.go (Go4.of_below b)
theorem Mad.setm {es : Array MapEntry} {ck : Nat} (h : Mad w X O dB d) (hb : ¬ O bk) (hw : w.heap.size ≤ bk) : Mad w (setMap X bk es ck) O dB d :=
  ⟨h.dsk.kept (fun i hi => setMap_ne (fun e => hb (e ▸ hi))) (by rw [setMap_size]; exact Nat.le_refl _), h.bel.trans ⟨rfl, rfl, rfl, by rw [setMap_size]; exact Nat.le_refl _, fun k hk => setMap_ne (by omega)⟩, h.own⟩
theorem Bok.apart {L : BL} (h : Bok w X O P bk L) {v : Value} {bs : List Nat} {P2 : Nat → Prop} (o : OwnO X P2 v bs) : ∀ g, v.ownBlock = some g → g ≠ bk := by
  intro g hg e
  obtain ⟨es, ck, hm⟩ := h.map
  obtain ⟨cur, ht⟩ := o.typ hg
  rw [e, hm.blk] at ht
  cases ht
theorem Bok.set {L : BL} (h : Bok w X O P bk L) (s : ByteArray) {v : Value} {b : List Nat} {P2 : Nat → Prop} (o : OwnO X P2 v b) (hP : ∀ i, P2 i → ¬ O i ∧ w.heap.size ≤ i ∧ i < X.heap.size) :
    ∃ es ck, (Instr.mapUpdate 60 (.map (some bk)) (.string s) v).run Try.prog X = .ok () (setMap X bk es ck) ∧ Bok w (setMap X bk es ck) O (fun i => P i ∨ P2 i) bk (setL4 L s b v) := by
  obtain ⟨es, ck, hm⟩ := h.map
  obtain ⟨es', ck', hr, hm'⟩ := hm.put s v
  refine ⟨es', ck', hr, ⟨⟨es', ck', by rw [setL4_kv]; exact hm'⟩, fun x hx => ?_, h.nob, h.wbk, fun i hi => ?_⟩⟩
  · rcases setL4_mem hx with rfl | hx
    · exact o.kept (fun g hg => ⟨setMap_ne (h.apart o g hg), .inr (o.blk g hg)⟩)
    · exact (h.dat x hx).kept (fun g hg => ⟨setMap_ne (h.apart (h.dat x hx) g hg), .inl ((h.dat x hx).blk g hg)⟩)
  · rw [setMap_size]
    exact hi.elim (h.nop i) (hP i)
theorem Bok.del {L : BL} (h : Bok w X O P bk L) (s : ByteArray) (ty : TypeId) :
    ∃ es ck, (Builtin.delete_ #[60, 9] ty #[.map (some bk), .string s]).run Try.prog X = .ok (.tuple #[]) (setMap X bk es ck) ∧ Bok w (setMap X bk es ck) O P bk (delL4 L s) := by
  obtain ⟨es, ck, hm⟩ := h.map
  obtain ⟨es', hr, hm'⟩ := hm.del s ty
  refine ⟨es', ck, hr, ⟨⟨es', ck, by rw [delL4_kv]; exact hm'⟩, fun x hx => ?_, h.nob, h.wbk, fun i hi => by rw [setMap_size]; exact h.nop i hi⟩⟩
  exact (h.dat x (delL4_mem hx)).kept (fun g hg => ⟨setMap_ne (h.apart (h.dat x (delL4_mem hx)) g hg), (h.dat x (delL4_mem hx)).blk g hg⟩)
theorem Bok.look {L : BL} (h : Bok w X O P bk L) {s : ByteArray} {b : List Nat} (hs : atB4 (L.map (·.1)) s = some b) :
    ∃ v, (Instr.lookup 60 (.map (some bk)) (.string s) false).run Try.prog X = .ok v X ∧ (Instr.lookup 60 (.map (some bk)) (.string s) true).run Try.prog X = .ok (.tuple #[v, .bool true]) X ∧ OwnO X P v b := by
  obtain ⟨es, ck, hm⟩ := h.map
  obtain ⟨v, hv, hx⟩ := atL4 hs
  have := hm.look s
  rw [hv] at this
  exact ⟨v, this.1, this.2, h.dat _ hx⟩
set_option maxRecDepth 100000 in
theorem room_any (n : Int) (w : World) : Calls Try.prog 29 #[.int .i64 n] w fun e w' => ∃ m : Nat, e = .returned (.int .i64 (m : Int)) ∧ 1 ≤ m ∧ m ≤ 4096 ∧ w' = w := by
  have htm := Int.tmod_eq_emod (a := n) (b := 4096)
  have hb : -4096 < n.tmod 4096 ∧ n.tmod 4096 < 4096 := by
    split at htm <;> (simp at htm; omega)
  obtain ⟨r, hr⟩ : ∃ r, r = n.tmod 4096 := ⟨_, rfl⟩
  rw [← hr] at hb
  by_cases hneg : n.tmod 4096 < 0
  · obtain ⟨m, hm⟩ : ∃ m : Nat, (m : Int) = n.tmod 4096 + 4096 + 1 := ⟨(r + 4097).toNat, by omega⟩
    clear htm
    go_enter Try.func29, Try.ntmps29
    go_wp2
    go_ret
    exact ⟨m, by rw [hm]; rfl, by omega, by omega, rfl⟩
  · obtain ⟨m, hm⟩ : ∃ m : Nat, (m : Int) = n.tmod 4096 + 1 := ⟨(r + 1).toNat, by omega⟩
    clear htm
    go_enter Try.func29, Try.ntmps29
    go_wp2
    go_ret
    exact ⟨m, by rw [hm]; rfl, by omega, by omega, rfl⟩
end Go.Proofs.Ytbheifelfeekmaa
