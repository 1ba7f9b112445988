import Derived.Test.YthpdlclgiggekaaProg
import Derived.WalkKit
import Derived.WalkSpells
import Derived.WalkLawsBesides
import Derived.Laws.BytesArg
namespace Go.Proofs.Ythpdlclgiggekaa
open Go.RowKit
set_option linter.unusedVariables false

theorem und_bytes : Try.prog.underlying 33 = some (.slice 5) := by kernel_rfl
theorem und_byte : Try.prog.underlying 5 = some (.int .u8) := by kernel_rfl
theorem und_string : Try.prog.underlying 9 = some .string := by kernel_rfl
theorem und_parts : Try.prog.underlying 56 = some (.slice 33) := by kernel_rfl
theorem info_byte : (Try.prog.info? 5).map (fun i => (i.zero, i.size, i.bytes)) = some (some (.int .u8 0), 1, 1) := by kernel_rfl

/-- The cells of bytes. -/
def bv (bs : List Nat) : List Value := bs.map fun n : Nat => Value.int .u8 (n : Int)

theorem bv_length (bs : List Nat) : (bv bs).length = bs.length := by simp [bv]
theorem bv_append (a b : List Nat) : bv (a ++ b) = bv a ++ bv b := by simp [bv]
theorem bv_oneCell (bs : List Nat) : ∀ u ∈ bv bs, u.oneCell' = true := by
  intro u hu
  simp only [bv, List.mem_map] at hu
  obtain ⟨n, _, rfl⟩ := hu
  rfl
theorem bv_get (bs : List Nat) (j : Nat) (u : Value) (h : (bv bs)[j]? = some u) : j < bs.length ∧ u = .int .u8 ((bs.getD j 0 : Nat) : Int) := by
  simp only [bv, List.getElem?_map, Option.map_eq_some_iff] at h
  obtain ⟨n, hn, rfl⟩ := h
  obtain ⟨hj, rfl⟩ := List.getElem?_eq_some_iff.1 hn
  exact ⟨hj, by simp [List.getD, List.getElem?_eq_getElem hj]⟩

/-- All are bytes. -/
def Bys (bs : List Nat) : Prop := ∀ x ∈ bs, x < 256

theorem Bys.get {bs : List Nat} (h : Bys bs) (i : Nat) : bs.getD i 0 < 256 := by
  by_cases hi : i < bs.length
  · simp [List.getD, List.getElem?_eq_getElem hi]; exact h _ (List.getElem_mem hi)
  · simp [List.getD, List.getElem?_eq_none (by omega : bs.length ≤ i)]

/-- The cells of bytes lie at an address. -/
def At (w : World) (a : Option Addr) (bs : List Nat) : Prop :=
  bs = [] ∨ ∃ b off, a = some ⟨b, off, none⟩ ∧ ∀ i, i < bs.length → w.cell? ⟨b, off + i, none⟩ = some (.int .u8 ((bs.getD i 0 : Nat) : Int))

/-- A value reads as bytes. -/
def Rd (w : World) (v : Value) (bs : List Nat) : Prop :=
  Bys bs ∧ ∃ a cap, v = .slice a bs.length cap ∧ bs.length ≤ cap ∧ cap ≤ maxLen ∧ bs.length ≤ 281474976710656 ∧ (cap = 0 ∨ ∃ b off, a = some ⟨b, off, none⟩) ∧ At w a bs

theorem At.later {w w' : World} {a : Option Addr} {bs : List Nat} (h : At w a bs) (hb : Below w.heap.size w w') : At w' a bs := by
  rcases h with h | ⟨b, off, rfl, hc⟩
  · exact .inl h
  · refine .inr ⟨b, off, rfl, fun i hi => ?_⟩
    have := hc i hi
    rw [hb.cell (p := ⟨b, off + i, none⟩) (World.block_lt_of_cell? w _ this)]
    exact this

theorem At.add {w : World} {x : Addr} {bs : List Nat} (h : At w (some x) bs) : ∀ j u, (bv bs)[j]? = some u → w.cell? (x.add j) = some u := by
  intro j u hj
  obtain ⟨hjl, rfl⟩ := bv_get bs j u hj
  rcases h with rfl | ⟨b, off, h2, hc⟩
  · simp at hjl
  · cases h2
    have : (⟨b, off, none⟩ : Addr).add j = ⟨b, off + j, none⟩ := by unfold Addr.add; split <;> simp_all
    rw [this]
    exact hc j hjl

theorem Rd.later {w w' : World} {v : Value} {bs : List Nat} (h : Rd w v bs) (hb : Below w.heap.size w w') : Rd w' v bs := by
  obtain ⟨h1, a, cap, h2, h3, h4, h5, h6, h7⟩ := h
  exact ⟨h1, a, cap, h2, h3, h4, h5, h6, h7.later hb⟩

theorem Rd.nil (w : World) : Rd w (.slice none 0 0) [] := ⟨by intro x hx; simp at hx, none, 0, rfl, Nat.le_refl _, Nat.zero_le _, by simp, .inl rfl, .inl rfl⟩
theorem Rd.zero (w : World) (a : Option Addr) : Rd w (.slice a 0 0) [] := ⟨by intro x hx; simp at hx, a, 0, rfl, Nat.le_refl _, Nat.zero_le _, by simp, .inl rfl, .inl rfl⟩

/-- What is owned reads as bytes. -/
theorem Rd.of_owns {w : World} {base n : Nat} {v : Value} {bs : List Nat} (hn : n = bs.length) (h : w.ownsRow base 5 1 v n (bv bs)) (hb : Bys bs) (hlen : n ≤ 281474976710656) : Rd w v bs := by
  subst hn
  refine ⟨hb, ?_⟩
  rcases h.2 with ⟨rfl, hn⟩ | ⟨g, cap, cur, rfl, _, hg, hle, hm, hsz, htk⟩
  · exact ⟨none, 0, by simp [hn], by omega, Nat.zero_le _, hlen, .inl rfl, .inl (List.eq_nil_of_length_eq_zero hn)⟩
  · refine ⟨_, cap, rfl, hle, hm, hlen, .inr ⟨g, 0, rfl⟩, .inr ⟨g, 0, rfl, fun i hi => ?_⟩⟩
    have hx : (bv bs)[i]? = some (.int .u8 ((bs.getD i 0 : Nat) : Int)) := by
      simp [bv, List.getElem?_eq_getElem hi]
    rw [← htk] at hx
    have hx2 : cur[i]? = some (.int .u8 ((bs.getD i 0 : Nat) : Int)) := by
      rw [List.getElem?_take_of_lt (by omega)] at hx
      simpa using hx
    simp [World.cell?, hg, hx2]

/-- A value owns its bytes, from block B on. -/
def Own (w : World) (B : Nat) (v : Value) (m : Nat) (xs : List Nat) : Prop := m = xs.length ∧ w.ownsRow B 5 1 v m (bv xs)
theorem Own.len {w : World} {B : Nat} {v : Value} {m : Nat} {xs : List Nat} (h : Own w B v m xs) : m = xs.length := h.1
theorem Own.own {w : World} {B : Nat} {v : Value} {m : Nat} {xs : List Nat} (h : Own w B v m xs) : w.ownsRow B 5 1 v xs.length (bv xs) := by rw [← h.1]; exact h.2
theorem Own.rd {w : World} {B : Nat} {v : Value} {m : Nat} {xs : List Nat} (h : Own w B v m xs) (hb : Bys xs) (hl : m ≤ 281474976710656) : Rd w v xs := Rd.of_owns h.1 h.2 hb hl
theorem Own.mono {w : World} {B B' : Nat} {v : Value} {m : Nat} {xs : List Nat} (h : Own w B v m xs) (hB : B' ≤ B) : Own w B' v m xs := by
  refine ⟨h.1, h.2.1, ?_⟩
  rcases h.2.2 with h2 | ⟨g, cap, cur, h3, h4, h5⟩
  · exact .inl h2
  · exact .inr ⟨g, cap, cur, h3, Nat.le_trans hB h4, h5⟩
theorem Own.later {w w' : World} {B : Nat} {v : Value} {m : Nat} {xs : List Nat} (h : Own w B v m xs) (hb : Below w.heap.size w w') : Own w' B v m xs := by
  refine ⟨h.1, h.2.1, ?_⟩
  rcases h.2.2 with h2 | ⟨g, cap, cur, h3, h4, h5, h6⟩
  · exact .inl h2
  · exact .inr ⟨g, cap, cur, h3, h4, by rw [hb.block g (Array.getElem?_eq_some_iff.1 h5).1]; exact h5, h6⟩
theorem own_form {w : World} {B n : Nat} {v : Value} {xs : List Value} (h : w.ownsRow B 5 1 v n xs) : ∃ a c, v = .slice a n c := by
  rcases h.2 with ⟨rfl, rfl⟩ | ⟨g, cap, cur, rfl, _⟩
  · exact ⟨_, _, rfl⟩
  · exact ⟨_, _, rfl⟩
/-- One slice is handed back, in memory from B on. -/
theorem handed {P : Program} {f : Nat} {args : Array Value} {w : World} {B : Nat} {L : List Nat}
    (h : Calls P f args w fun e w' => ∃ s, e = .returned s ∧ w'.ownsRow B 5 1 s L.length (bv L) ∧ Below B w w') :
    Calls P f args w fun e w' => ∃ a m c, e = .returned (.slice a m c) ∧ Own w' B (.slice a m c) m L ∧ Below B w w' := by
  refine h.mono ?_
  rintro e w' ⟨s, rfl, ho, hb⟩
  obtain ⟨a, c, rfl⟩ := own_form ho
  exact ⟨a, L.length, c, rfl, ⟨rfl, ho⟩, hb⟩

/-- The string of bytes. -/
def str (bs : List Nat) : ByteArray := strOfNums (bs.map fun n : Nat => (n : Int))

theorem str_inj {a b : List Nat} (ha : Bys a) (hb : Bys b) (h : str a = str b) : a = b := by
  have h2 : (a.map fun n => UInt8.ofNat n) = (b.map fun n => UInt8.ofNat n) := by
    simpa [str, strOfNums, Function.comp_def] using h
  have key : ∀ (x : List Nat), Bys x → (x.map fun n => UInt8.ofNat n).map UInt8.toNat = x := by
    intro x hx
    rw [List.map_map]
    conv => rhs; rw [← List.map_id x]
    apply List.map_congr_left
    intro n hn
    have := hx n hn
    simp [Nat.mod_eq_of_lt this]
  rw [← key a ha, ← key b hb, h2]

theorem conv_none (w : World) (a : Option Addr) (c : Nat) : (convert 33 9 (.slice a 0 c)).run Try.prog w = .ok (.string (str [])) w := by
  rw [run_convert_bytes_string w _ _ _ a 0 c und_bytes und_byte und_string]
  unfold Conv.bytesToString
  cases a with
  | none => rfl
  | some x => rfl
theorem conv_str {w : World} {v : Value} {bs : List Nat} (h : Rd w v bs) : (convert 33 9 v).run Try.prog w = .ok (.string (str bs)) w := by
  obtain ⟨_, a, cap, rfl, hle, hm, _, hn, ha⟩ := h
  rcases ha with rfl | ⟨b, off, rfl, hc⟩
  · exact conv_none w a cap
  · refine run_convert_bytes_arg w _ _ und_bytes und_byte b off _ cap _ (by simp) (fun i hi => ?_) _ und_string
    rw [hc i hi]
    simp [List.getElem?_eq_getElem hi]

theorem beq_str {a b : List Nat} (ha : Bys a) (hb : Bys b) : ((str a).toList == (str b).toList) = decide (a = b) := by
  rw [ByteArray.toList_eq, ByteArray.toList_eq]
  by_cases h : a = b
  · subst h; simp
  · have h2 : str a ≠ str b := fun e => h (str_inj ha hb e)
    have h3 : (str a).data.toList ≠ (str b).data.toList := by
      intro e
      apply h2
      have e2 := Array.toList_inj.1 e
      cases hx : str a; cases hy : str b
      rw [hx, hy] at e2
      simp_all
    simp [h]
    simpa using h3

set_option maxRecDepth 100000 in
theorem outside_any {a : Option Addr} {n cap : Nat} (i : Int) {w : World} (_hn : n ≤ 281474976710656) :
    Calls Try.prog 92 #[.slice a n cap, .int .i64 i] w fun e w' => e = .returned (.bool (decide (i < 0 ∨ (n : Int) < i))) ∧ w' = w := by
  by_cases h1 : i < 0
  · have hd : decide (i < 0) = true := by simpa using h1
    have h2 : decide (i < 0 ∨ (n : Int) < i) = true := by simp [h1]
    go_enter Try.func92, Try.ntmps92
    go_wp2
    go_ret
    exact ⟨by first | rfl | (rw [h2]; rfl), rfl⟩
  · have hd : decide (i < 0) = false := by simpa using h1
    go_enter Try.func92, Try.ntmps92
    go_wp2
    go_ret
    exact ⟨rfl, rfl⟩

end Go.Proofs.Ythpdlclgiggekaa
