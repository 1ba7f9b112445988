import Derived.Test.YtledfniedoapiaaDoorJ03
namespace Go.Proofs.YtledfniedoapiaaDoor
open Go.RowKit
set_option linter.unusedVariables false

/-- What ReadOrdered reads of the bytes from a place on: what was gathered, how many bytes. -/
def rord : List Nat → List Nat → Nat → List Nat × Nat × Nat
  | [], _, _ => ([], 0, 10)
  | [c], acc, i => ([], 0, 10)
  | c :: d :: r, acc, i => if c ≠ 0 then rord (d :: r) (acc ++ [c]) (i + 1) else if d = 1 then (acc, i + 2, 0) else if d = 255 then rord r (acc ++ [0]) (i + 2) else ([], 0, 11)
def ordR (bs : List Nat) (k : Nat) : List Nat × Nat × Nat :=
  ((rord (bs.drop k) [] 0).1, if (rord (bs.drop k) [] 0).2.2 = 0 then k + (rord (bs.drop k) [] 0).2.1 else 0, (rord (bs.drop k) [] 0).2.2)

/-- No nought: it ends too early. -/
theorem zi_neg (l : List Nat) : zi l < 0 → zi l = -1 ∧ ∀ acc i, rord l acc i = ([], 0, 10) := by
  induction l with
  | nil => intro _; exact ⟨rfl, fun _ _ => rfl⟩
  | cons c l ih =>
    intro h
    simp only [zi] at h ⊢
    by_cases hc : c = 0
    · rw [if_pos hc] at h; omega
    · rw [if_neg hc] at h ⊢
      by_cases hz : zi l = -1
      · rw [if_pos hz] at h ⊢
        refine ⟨rfl, fun acc i => ?_⟩
        have := (ih (by omega)).2
        cases l with
        | nil => rfl
        | cons d r => unfold rord; rw [if_pos hc]; exact this _ _
      · rw [if_neg hz] at h
        have : zi l = -1 := (ih (by omega)).1
        exact absurd this hz
/-- A nought at place z: what stands ahead of it is gathered. -/
theorem zi_pos (l : List Nat) (z : Nat) (h : zi l = (z : Int)) : z < l.length ∧ l.getD z 0 = 0 ∧ (∀ acc i, rord l acc i = rord (l.drop z) (acc ++ l.take z) (i + z)) := by
  induction l generalizing z with
  | nil => simp [zi] at h
  | cons c l ih =>
    simp only [zi] at h
    by_cases hc : c = 0
    · rw [if_pos hc] at h
      have hz : z = 0 := by omega
      subst hz
      exact ⟨by simp, by simp [hc], fun acc i => by simp⟩
    · rw [if_neg hc] at h
      by_cases hz : zi l = -1
      · rw [if_pos hz] at h; omega
      · rw [if_neg hz] at h
        have hz0 : ¬ zi l < 0 := fun hh => hz (zi_neg l hh).1
        obtain ⟨y, hy⟩ := Int.eq_ofNat_of_zero_le (show 0 ≤ zi l by omega)
        have hzy : z = y + 1 := by omega
        subst hzy
        obtain ⟨h1, h2, h3⟩ := ih y hy
        refine ⟨by simp; omega, by simpa using h2, fun acc i => ?_⟩
        cases l with
        | nil => simp at h1
        | cons d r =>
          have := h3 (acc ++ [c]) (i + 1)
          conv => lhs; unfold rord
          rw [if_pos hc, this]
          simp
          rw [show i + 1 + y = i + (y + 1) by omega]

set_option maxRecDepth 100000 in
set_option maxHeartbeats 400000 in
theorem readOrdered_out {v : Value} {bs : List Nat} {w : World} (hr : Rd w v bs) (at_ : Int) (h : at_ < 0 ∨ (bs.length : Int) < at_) :
    Calls Tryd.prog 23 #[v, .int .i64 at_] w fun e w' => e = .returned (.tuple #[.slice none 0 0, .int .i64 0, .int .i64 1]) ∧ w' = w := by
  obtain ⟨a, n, cap, rfl⟩ := rd_slice hr
  obtain ⟨hn, hle, hm, hl48⟩ := rd_lens hr
  rw [← hn] at h
  clear hn hr
  have hd : decide (at_ < 0 ∨ (n : Int) < at_) = true := by simpa using h
  clear h
  go_enter Tryd.func23, Tryd.ntmps23
  go_wp2_with fail
  refine (outside_any at_ hl48).mono ?_
  rintro e w1 ⟨rfl, rfl⟩
  rw [hd]
  go_wp2
  go_ret3
  exact ⟨rfl, rfl⟩

theorem drop_cons' (l : List Nat) (t : Nat) (h : t < l.length) : l.drop t = l.getD t 0 :: l.drop (t + 1) := by
  rw [List.drop_eq_getElem_cons h]; simp [List.getD, List.getElem?_eq_getElem h]

theorem own_room2 {w : World} {B : Nat} {v : Value} {m m1 p z n : Nat} {xs ys : List Nat} (h : Own w B v m (xs ++ ys)) (hl : xs.length = m1 ∧ ys.length = z) (hmp : m1 ≤ p) (hp : (p : Int) + ((z : Int) + 2) ≤ (n : Int)) (hn : n ≤ 140737488355328) : m + 1 ≤ 140737488355328 := by
  have := h.1
  rw [List.length_append, hl.1, hl.2] at this
  omega

set_option maxRecDepth 100000 in
set_option maxHeartbeats 2000000 in
theorem readOrdered_in {v : Value} {bs : List Nat} {w : World} (hr : Rd w v bs) (k : Nat) (hk : k ≤ bs.length) (h47 : bs.length ≤ 140737488355328) :
    Calls Tryd.prog 23 #[v, .int .i64 (k : Int)] w fun e w' => ∃ a m c, e = .returned (.tuple #[.slice a m c, .int .i64 (((ordR bs k).2.1 : Nat) : Int), .int .i64 (((ordR bs k).2.2 : Nat) : Int)]) ∧ Own w' w.heap.size (.slice a m c) m (ordR bs k).1 ∧ Below w.heap.size w w' := by
  obtain ⟨a, n, cap, rfl⟩ := rd_slice hr
  obtain ⟨hn, hle, hm, hl48⟩ := rd_lens hr
  rw [← hn] at hk h47
  have HN : Hid (n = bs.length) := hn
  clear hn
  unfold maxLen at hm
  have hd : decide ((k : Int) < 0 ∨ (n : Int) < (k : Int)) = false := by simp; omega
  obtain ⟨R, hR⟩ : ∃ R, R = ordR bs k := ⟨_, rfl⟩
  rw [← hR]
  have HR : Hid (R = ordR bs k) := hR
  clear hR
  go_enter Tryd.func23, Tryd.ntmps23
  go_wp2_with fail
  refine (outside_any _ hl48).mono ?_
  rintro e w1 ⟨rfl, rfl⟩
  rw [hd]
  go_wp2
  go_loopw [1, 7] (fun x s wr => ∃ p a m c acc, k ≤ p ∧ p ≤ n ∧ x = .int .i64 ((p : Nat) : Int) ∧ s = .slice a m c ∧ Own wr w1.heap.size (.slice a m c) m acc ∧ m ≤ p ∧ rord (bs.drop k) [] 0 = rord (bs.drop p) acc (p - k) ∧ Below w1.heap.size w1 wr) (fun x _ _ => n - (intOf x).toNat)
  case atStart => exact ⟨k, _, _, _, [], Nat.le_refl _, hk, rfl, rfl, ⟨rfl, World.ownsRow_nil _ _ _ _⟩, Nat.zero_le _, by simp, Below.refl _ _⟩
  case round =>
    obtain ⟨p, a1, m1, c1, acc, hkp, hpn, rfl, rfl, own1, hmp, hro, hb1⟩ := hrel
    have HO : Hid (rord (bs.drop k) [] 0 = rord (bs.drop p) acc (p - k)) := hro
    clear hro
    have hs1 := hb1.size
    have hp0 : (0 : Int) ≤ (p : Int) := by omega
    have hpn2 : (p : Int) ≤ (n : Int) := by omega
    by_cases hcp : cap = p
    · -- nothing is left
      have hnp : n = p := by omega
      have HRR : Hid (R = ([], 0, 10)) := by
        have hd0 : bs.drop p = [] := by rw [← hnp, HN.out]; simp
        unfold Hid
        rw [HR.out]
        unfold ordR
        rw [HO.out, hd0]
        rfl
      subst hnp
      subst hcp
      go_wp2_with fail
      refine (indexByte_any (Rd.zero _ a)).mono ?_
      rintro e w2 ⟨rfl, rfl⟩
      rw [show zi [] = -1 from rfl]
      go_wp2
      go_ret3
      rw [HRR.out]
      exact ⟨_, _, _, rfl, ⟨rfl, World.ownsRow_nil _ _ _ _⟩, hb1⟩
    · rcases rd_some hr with ⟨h0, _⟩ | ⟨b, off, rfl⟩
      · omega
      have rp := (hr.past p hpn (off' := off + p) rfl rfl rfl).later hb1
      have hlen : (bs.drop p).length = n - p := by rw [List.length_drop, ← HN.out]
      by_cases hz : zi (bs.drop p) < 0
      · have HRR : Hid (R = ([], 0, 10)) := by
          unfold Hid
          rw [HR.out]
          unfold ordR
          rw [HO.out, (zi_neg _ hz).2]
          rfl
        have HZ : Hid (zi (bs.drop p) = -1) := (zi_neg _ hz).1
        clear hz hlen
        go_wp2_with fail
        refine (indexByte_any rp).mono ?_
        rintro e w2 ⟨rfl, rfl⟩
        rw [HZ.out]
        go_wp2
        go_ret3
        rw [HRR.out]
        exact ⟨_, _, _, rfl, ⟨rfl, World.ownsRow_nil _ _ _ _⟩, hb1⟩
      · obtain ⟨z, hzz⟩ := Int.eq_ofNat_of_zero_le (show 0 ≤ zi (bs.drop p) by omega)
        obtain ⟨z1, z2, z3⟩ := zi_pos _ z hzz
        rw [hlen] at z1
        have HZ : Hid (zi (bs.drop p) = (z : Int)) := hzz
        have HO2 : Hid (rord (bs.drop k) [] 0 = rord ((bs.drop p).drop z) (acc ++ (bs.drop p).take z) (p - k + z)) := by unfold Hid; rw [HO.out]; exact z3 _ _
        have HZ0 : Hid ((bs.drop p).getD z 0 = 0) := z2
        clear hz hzz z2 z3
        have hzn : (0 : Int) ≤ (z : Int) := by omega
        have hdz : decide ((z : Int) < 0) = false := by simp
        by_cases hend : p + z + 1 = n
        · have HRR : Hid (R = ([], 0, 10)) := by
            have e1 : (bs.drop p).drop z = [(bs.drop p).getD z 0] := by
              have e0 : (bs.drop p).drop (z + 1) = [] := List.drop_eq_nil_of_le (by rw [hlen]; omega)
              rw [drop_cons' (bs.drop p) z (by rw [hlen]; omega), e0]
            unfold Hid
            rw [HR.out]
            unfold ordR
            rw [HO2.out, e1]
            rfl
          have he : ((p : Int) + (z : Int) + 1 == (n : Int)) = true := by simp; omega
          clear hend hlen
          go_wp2_with fail
          refine (indexByte_any rp).mono ?_
          rintro e w2 ⟨rfl, rfl⟩
          rw [HZ.out]
          go_wp2
          go_ret3
          rw [HRR.out]
          exact ⟨_, _, _, rfl, ⟨rfl, World.ownsRow_nil _ _ _ _⟩, hb1⟩
        · have he : ((p : Int) + (z : Int) + 1 == (n : Int)) = false := by simp; omega
          have rz := (hr.sub p (p + z) (by omega) (by omega) (off' := off + p) (n' := p + z - p) (cap' := cap - p) rfl rfl rfl).later hb1
          have ez : (bs.take (p + z)).drop p = (bs.drop p).take z := by rw [List.drop_take]; congr 1; omega
          rw [ez] at rz
          obtain ⟨hcd0, hcdl⟩ := rd_cell hr (p + z + 1) (by omega)
          obtain ⟨d, hdd⟩ : ∃ d, d = bs.getD (p + z + 1) 0 := ⟨_, rfl⟩
          rw [← hdd] at hcd0 hcdl
          have HD : Hid ((bs.drop p).drop z = 0 :: d :: bs.drop (p + z + 2)) := by
            unfold Hid
            rw [drop_cons' (bs.drop p) z (by rw [hlen]; omega), HZ0.out, drop_cons' (bs.drop p) (z + 1) (by rw [hlen]; omega)]
            have e1 : (bs.drop p).getD (z + 1) 0 = d := by rw [hdd]; simp [List.getD, Nat.add_assoc]
            rw [e1, List.drop_drop]
            simp [Nat.add_assoc]
          have hcd : wr.cell? ⟨b, off + (p + z + 1), none⟩ = some (.int .u8 (d : Int)) := by
            rw [hb1.cell (p := ⟨b, off + (p + z + 1), none⟩) (World.block_lt_of_cell? w1 _ hcd0)]; exact hcd0
          have hblk : b < w1.heap.size := World.block_lt_of_cell? w1 _ hcd0
          have HCD0 : Hid (w1.cell? ⟨b, off + (p + z + 1), none⟩ = some (.int .u8 (d : Int))) := hcd0
          have hpz3 : (p : Int) + ((z : Int) + 2) ≤ (n : Int) := by omega
          clear hdd hend hlen ez hcd0 hcd
          have hpz : (p : Int) ≤ (p : Int) + (z : Int) := by omega
          have hpz2 : (p : Int) + (z : Int) ≤ (cap : Int) := by omega
          go_wp2_with fail
          refine (indexByte_any rp).mono ?_
          rintro e w2 ⟨rfl, rfl⟩
          rw [HZ.out]
          have hroom : m1 + (p + z - p) ≤ 140737488355328 := by omega
          have HC5 : Hid (∀ w5 : World, Below w1.heap.size w1 w5 → w5.cell? ⟨b, off + (p + (z + 1)), none⟩ = some (.int .u8 (d : Int))) := by
            intro w5 hb5
            rw [hb5.cell (p := ⟨b, off + (p + (z + 1)), none⟩) hblk]
            exact HCD0.out
          clear HCD0
          by_cases hd1 : d = 1
          · have HRR : Hid (R = (acc ++ (bs.drop p).take z, p + (z + 2), 0)) := by
              unfold Hid
              rw [HR.out]
              unfold ordR
              rw [HO2.out, HD.out, hd1]
              simp [rord]
              omega
            have e1 : ((d : Int) == 1) = true := by simp; omega
            have H1 : Hid (d = 1) := hd1
            clear hd1
            go_wp2_with (at_builtin; refine wpList_append_at rfl (.tmp 27) _ rfl w1.heap.size _ _ _ _ rfl own1 _ _ _ _ rfl rz hroom hs1 ?_; intro a5 m5 c5 w5 own5 hb5; have hb5' := hb1.trans hb5; have hcd := HC5.out w5 hb5')
            go_ret3
            rw [HRR.out]
            refine ⟨a5, m5, c5, ?_, own5, hb5'⟩
            have HE : ((p : Int) + ((z : Int) + 2)) = ((p + (z + 2) : Nat) : Int) := by omega
            exact congrArg (fun y : Int => Ending.returned (Value.tuple #[Value.slice a5 m5 c5, Value.int .i64 y, Value.int .i64 0])) HE
          · have e1 : ((d : Int) == 1) = false := by simp; omega
            by_cases hd2 : d = 255
            · have HO3 : Hid (rord (bs.drop k) [] 0 = rord (bs.drop (p + (z + 2))) ((acc ++ (bs.drop p).take z) ++ [0]) (p + (z + 2) - k)) := by
                unfold Hid
                rw [HO2.out, HD.out, hd2]
                conv => lhs; unfold rord
                simp
                rw [show p - k + z + 2 = p + (z + 2) - k by omega]
                rfl
              have e2 : ((d : Int) == 255) = true := by simp; omega
              have H1 : Hid (d = 255) := hd2
              have hzl : (bs.drop p).length = n - p := by rw [List.length_drop, ← HN.out]
              have HAL : Hid (acc.length = m1 ∧ ((bs.drop p).take z).length = z) := by unfold Hid; exact ⟨own1.1.symm, by rw [List.length_take, hzl]; omega⟩
              clear hd1 hd2 hzl
              go_wp2_with (first
                | (at_builtin; refine wpList_append_at rfl (.tmp 27) _ rfl w1.heap.size _ _ _ _ rfl own1 _ _ _ _ rfl rz hroom hs1 ?_; intro a5 m5 c5 w5 own5 hb5; have hb5' := hb1.trans hb5; have hcd := HC5.out w5 hb5')
                | (at_builtin; refine wpList_append_new rfl (.tmp 50) _ rfl w1.heap.size a5 m5 c5 _ rfl own5 [_] 1 rfl [0] rfl rfl (own_room2 own5 HAL.out hmp hpz3 h47) hb5'.size ?_; intro a6 m6 c6 w6 own6 hb6))
              go_roundw
              case rel =>
                refine ⟨p + (z + 2), a6, m6, c6, _, by omega, by omega, by go_num, rfl, own6, ?_, HO3.out, hb5'.trans hb6⟩
                have h1 := own6.1
                rw [List.length_append, List.length_append, HAL.out.1, HAL.out.2] at h1
                simp at h1
                omega
              case measure => simp [intOf]; omega
            · have HRR : Hid (R = ([], 0, 11)) := by
                unfold Hid
                rw [HR.out]
                unfold ordR
                rw [HO2.out, HD.out]
                simp [rord, hd1, hd2]
              have e2 : ((d : Int) == 255) = false := by simp; omega
              clear hd1 hd2
              go_wp2_with (at_builtin; refine wpList_append_at rfl (.tmp 27) _ rfl w1.heap.size _ _ _ _ rfl own1 _ _ _ _ rfl rz hroom hs1 ?_; intro a5 m5 c5 w5 own5 hb5; have hb5' := hb1.trans hb5; have hcd := HC5.out w5 hb5')
              go_ret3
              rw [HRR.out]
              exact ⟨_, _, _, rfl, ⟨rfl, World.ownsRow_nil _ _ _ _⟩, hb5'⟩

end Go.Proofs.YtledfniedoapiaaDoor

namespace Go.Proofs.YtledfniedoapiaaDoor
open Go.RowKit
set_option linter.unusedVariables false

set_option maxRecDepth 100000 in
theorem refOutside_any {a : Option Addr} {n cap : Nat} (i : Int) {w : World} (_hn : n ≤ 281474976710656) :
    Calls Tryd.prog 65 #[.slice a n cap, .int .i64 i] w fun e w' => e = .returned (.bool (decide (i < 0 ∨ (n : Int) < i))) ∧ w' = w := by
  by_cases h1 : i < 0
  · have hd : decide (i < 0) = true := by simpa using h1
    have h2 : decide (i < 0 ∨ (n : Int) < i) = true := by simp [h1]
    go_enter Tryd.func65, Tryd.ntmps65
    go_wp2
    go_ret
    exact ⟨by first | rfl | (rw [h2]; rfl), rfl⟩
  · have hd : decide (i < 0) = false := by simpa using h1
    go_enter Tryd.func65, Tryd.ntmps65
    go_wp2
    go_ret
    exact ⟨rfl, rfl⟩

set_option maxRecDepth 100000 in
set_option maxHeartbeats 1000000 in
theorem refOrdered_any {v : Value} {bs : List Nat} {w : World} (hr : Rd w v bs) (hl : (ordL bs).length ≤ 140737488355328) :
    Calls Tryd.prog 37 #[v] w fun e w' => ∃ a m c, e = .returned (.slice a m c) ∧ Own w' w.heap.size (.slice a m c) m (ordL bs) ∧ Below w.heap.size w w' := by
  obtain ⟨a, n, cap, rfl⟩ := rd_slice hr
  obtain ⟨hn, hle, hm, hl48⟩ := rd_lens hr
  have HN : Hid (n = bs.length) := hn
  have hol := ordL_len bs
  rw [← hn] at hol
  obtain ⟨C, hC⟩ : ∃ C, C = bs.count 0 := ⟨_, rfl⟩
  rw [← hC] at hol
  have hsum : n + C + 2 ≤ 140737488355328 := by omega
  have HOL : Hid ((ordL bs).length = n + C + 2) := hol
  clear hn hC hm hol hl
  go_enter Tryd.func37, Tryd.ntmps37
  go_wp2
  go_loopw [3, 4] (fun s i wr => ∃ t a m c, t ≤ n ∧ i = .int .i64 ((t : Nat) : Int) ∧ s = .slice a m c ∧ Own wr w.heap.size (.slice a m c) m (escL (bs.take t)) ∧ Below w.heap.size w wr) (fun _ i _ => n - (intOf i).toNat)
  case atStart => exact ⟨0, _, _, _, Nat.zero_le _, rfl, rfl, ⟨rfl, World.ownsRow_nil _ _ _ _⟩, Below.refl _ _⟩
  case round =>
    obtain ⟨t, a1, m1, c1, htl, rfl, rfl, own1, hb1⟩ := hrel
    have hs1 := hb1.size
    have hme := escL_le bs t
    have hm1 : m1 ≤ n + C := by
      rw [own1.1]
      have := HOL.out
      unfold ordL at this
      rw [List.length_append] at this
      simp at this
      omega
    clear hme
    by_cases hlt : t < n
    · have hlt2 : (t : Int) < (n : Int) := by omega
      rcases rd_some hr with ⟨_, h0, _⟩ | ⟨b, off, rfl⟩
      · omega
      obtain ⟨hcell0, hcl⟩ := rd_cell hr t hlt
      have hcell : wr.cell? ⟨b, off + t, none⟩ = some (.int .u8 ((bs.getD t 0 : Nat) : Int)) := by
        rw [hb1.cell (p := ⟨b, off + t, none⟩) (World.block_lt_of_cell? w _ hcell0)]; exact hcell0
      have htk := take_succ_getD bs t (by rw [← HN.out]; exact hlt)
      obtain ⟨c, hcd⟩ : ∃ c, c = bs.getD t 0 := ⟨_, rfl⟩
      rw [← hcd] at hcell hcl htk
      have hbc := World.block_lt_of_cell? wr _ hcell
      have HTK : Hid (bs.take (t + 1) = bs.take t ++ [c]) := htk
      clear hcd htk
      by_cases hc0 : c = 0
      · subst hc0
        have HE : Hid (escL (bs.take (t + 1)) = (escL (bs.take t) ++ [0]) ++ [255]) := by
          unfold Hid; rw [HTK.out, escL_append]; simp [escL]
        go_wp2_with (first
          | (at_builtin; refine wpList_append_new rfl (.tmp 11) _ rfl w.heap.size a1 m1 c1 _ rfl own1 [_] 1 rfl [0] rfl rfl (by omega) hs1 ?_; intro a3 m3 c3 w3 own3 hb3; have hcell3 : w3.cell? ⟨b, off + t, none⟩ = some (.int .u8 ((0 : Nat) : Int)) := by (rw [(hb1.trans hb3).cell (p := ⟨b, off + t, none⟩) (World.block_lt_of_cell? w _ hcell0), ← hb1.cell (p := ⟨b, off + t, none⟩) (World.block_lt_of_cell? w _ hcell0)]; exact hcell))
          | (at_builtin; refine wpList_append_new rfl (.tmp 23) _ rfl w.heap.size a3 m3 c3 _ rfl own3 [_] 1 rfl [255] rfl rfl (own_room own3 hm1 hsum own1.1) (hb1.trans hb3).size ?_; intro a4 m4 c4 w4 own4 hb4))
        go_roundw
        case rel => exact ⟨t + 1, a4, m4, c4, by omega, by go_num, rfl, by rw [HE.out]; exact own4, (hb1.trans hb3).trans hb4⟩
        case measure => simp [intOf]; omega
      · have HE : Hid (escL (bs.take (t + 1)) = escL (bs.take t) ++ [c]) := by
          unfold Hid; rw [HTK.out, escL_append]; simp [escL, hc0]
        have hcb : ((c : Int) == 0) = false := by simp; omega
        clear hc0
        go_wp2_with (at_builtin; refine wpList_append_new rfl (.tmp 11) _ rfl w.heap.size a1 m1 c1 _ rfl own1 [_] 1 rfl [c] rfl rfl (by omega) hs1 ?_; intro a3 m3 c3 w3 own3 hb3; have hcell3 : w3.cell? ⟨b, off + t, none⟩ = some (.int .u8 ((c : Nat) : Int)) := by (rw [(hb1.trans hb3).cell (p := ⟨b, off + t, none⟩) (World.block_lt_of_cell? w _ hcell0), ← hb1.cell (p := ⟨b, off + t, none⟩) (World.block_lt_of_cell? w _ hcell0)]; exact hcell))
        go_roundw
        case rel => exact ⟨t + 1, a3, m3, c3, by omega, by go_num, rfl, by rw [HE.out]; exact own3, hb1.trans hb3⟩
        case measure => simp [intOf]; omega
    · have hge : (n : Int) ≤ (t : Int) := by omega
      have HE : Hid (escL (bs.take t) = escL bs) := by unfold Hid; rw [List.take_of_length_le (by rw [← HN.out]; omega)]
      go_wp2_with (at_builtin; refine wpList_append_new rfl (.tmp 26) _ rfl w.heap.size a1 m1 c1 _ rfl own1 [_, _] 2 rfl [0, 1] rfl rfl (by omega) hs1 ?_; intro a3 m3 c3 w3 own3 hb3)
      go_ret
      refine ⟨a3, m3, c3, rfl, ?_, hb1.trans hb3⟩
      unfold ordL
      rw [← HE.out]
      exact own3

theorem rord_step (c : Nat) (r acc : List Nat) (i : Nat) (hc : c ≠ 0) : rord (c :: r) acc i = rord r (acc ++ [c]) (i + 1) := by
  cases r with
  | nil => rfl
  | cons d r => rw [rord, if_pos hc]
theorem rord_nil (acc : List Nat) (i : Nat) : rord [] acc i = ([], 0, 10) := by rw [rord]
theorem rord_zero (d : Nat) (r acc : List Nat) (i : Nat) : rord (0 :: d :: r) acc i = if d = 1 then (acc, i + 2, 0) else if d = 255 then rord r (acc ++ [0]) (i + 2) else ([], 0, 11) := by
  conv => lhs; rw [rord]
  exact if_neg (by simp)

set_option maxRecDepth 100000 in
set_option maxHeartbeats 1000000 in
theorem refReadOrdered_out {v : Value} {bs : List Nat} {w : World} (hr : Rd w v bs) (at_ : Int) (h : at_ < 0 ∨ (bs.length : Int) < at_) :
    Calls Tryd.prog 40 #[v, .int .i64 at_] w fun e w' => e = .returned (.tuple #[.slice none 0 0, .int .i64 0, .int .i64 1]) ∧ w' = w := by
  obtain ⟨a, n, cap, rfl⟩ := rd_slice hr
  obtain ⟨hn, hle, hm, hl48⟩ := rd_lens hr
  rw [← hn] at h
  clear hn hr
  have hd : decide (at_ < 0 ∨ (n : Int) < at_) = true := by simpa using h
  clear h
  go_enter Tryd.func40, Tryd.ntmps40
  go_wp2_with fail
  refine (refOutside_any at_ hl48).mono ?_
  rintro e w1 ⟨rfl, rfl⟩
  rw [hd]
  go_wp2
  go_ret3
  exact ⟨rfl, rfl⟩

set_option maxRecDepth 100000 in
set_option maxHeartbeats 2000000 in
theorem refReadOrdered_in {v : Value} {bs : List Nat} {w : World} (hr : Rd w v bs) (k : Nat) (hk : k ≤ bs.length) (h47 : bs.length ≤ 140737488355328) :
    Calls Tryd.prog 40 #[v, .int .i64 (k : Int)] w fun e w' => ∃ a m c, e = .returned (.tuple #[.slice a m c, .int .i64 (((ordR bs k).2.1 : Nat) : Int), .int .i64 (((ordR bs k).2.2 : Nat) : Int)]) ∧ Own w' w.heap.size (.slice a m c) m (ordR bs k).1 ∧ Below w.heap.size w w' := by
  obtain ⟨a, n, cap, rfl⟩ := rd_slice hr
  obtain ⟨hn, hle, hm, hl48⟩ := rd_lens hr
  rw [← hn] at hk h47
  have HN : Hid (n = bs.length) := hn
  clear hn
  unfold maxLen at hm
  have hd : decide ((k : Int) < 0 ∨ (n : Int) < (k : Int)) = false := by simp; omega
  obtain ⟨R, hR⟩ : ∃ R, R = ordR bs k := ⟨_, rfl⟩
  rw [← hR]
  have HR : Hid (R = ordR bs k) := hR
  clear hR
  go_enter Tryd.func40, Tryd.ntmps40
  go_wp2_with fail
  refine (refOutside_any _ hl48).mono ?_
  rintro e w1 ⟨rfl, rfl⟩
  rw [hd]
  go_wp2
  go_loopw [7, 8] (fun s x wr => ∃ p a m c acc, k ≤ p ∧ p ≤ n ∧ x = .int .i64 ((p : Nat) : Int) ∧ s = .slice a m c ∧ Own wr w1.heap.size (.slice a m c) m acc ∧ m ≤ p ∧ rord (bs.drop k) [] 0 = rord (bs.drop p) acc (p - k) ∧ Below w1.heap.size w1 wr) (fun _ x _ => n - (intOf x).toNat)
  case atStart => exact ⟨k, _, _, _, [], Nat.le_refl _, hk, rfl, rfl, ⟨rfl, World.ownsRow_nil _ _ _ _⟩, Nat.zero_le _, by simp, Below.refl _ _⟩
  case round =>
    obtain ⟨p, a1, m1, c1, acc, hkp, hpn, rfl, rfl, own1, hmp, hro, hb1⟩ := hrel
    have HO : Hid (rord (bs.drop k) [] 0 = rord (bs.drop p) acc (p - k)) := hro
    clear hro
    have hs1 := hb1.size
    by_cases hlt : p < n
    · have hlt2 : (p : Int) < (n : Int) := by omega
      rcases rd_some hr with ⟨_, h0, _⟩ | ⟨b, off, rfl⟩
      · omega
      obtain ⟨hcell0, hcl⟩ := rd_cell hr p hlt
      have hcell : wr.cell? ⟨b, off + p, none⟩ = some (.int .u8 ((bs.getD p 0 : Nat) : Int)) := by
        rw [hb1.cell (p := ⟨b, off + p, none⟩) (World.block_lt_of_cell? w1 _ hcell0)]; exact hcell0
      have hdr := drop_cons' bs p (by rw [← HN.out]; exact hlt)
      obtain ⟨c, hcd⟩ : ∃ c, c = bs.getD p 0 := ⟨_, rfl⟩
      rw [← hcd] at hcell hcl hdr
      have HDR : Hid (bs.drop p = c :: bs.drop (p + 1)) := hdr
      clear hcd hdr hcell0
      by_cases hc0 : c = 0
      · subst hc0
        by_cases hend : p + 1 = n
        · have he : ((p : Int) + 1 == (n : Int)) = true := by simp; omega
          have HRR : Hid (R = ([], 0, 10)) := by
            unfold Hid
            rw [HR.out]
            unfold ordR
            rw [HO.out, HDR.out, List.drop_eq_nil_of_le (by rw [← HN.out]; omega)]
            rfl
          clear hend
          go_wp2
          go_ret3
          rw [HRR.out]
          exact ⟨_, _, _, rfl, ⟨rfl, World.ownsRow_nil _ _ _ _⟩, hb1⟩
        · have he : ((p : Int) + 1 == (n : Int)) = false := by simp; omega
          have hlt3 : (p : Int) + 1 < (n : Int) := by omega
          have hlt4 : p + 1 < n := by omega
          obtain ⟨hcd0, hdl⟩ := rd_cell hr (p + 1) hlt4
          have hcellD : wr.cell? ⟨b, off + (p + 1), none⟩ = some (.int .u8 ((bs.getD (p + 1) 0 : Nat) : Int)) := by
            rw [hb1.cell (p := ⟨b, off + (p + 1), none⟩) (World.block_lt_of_cell? w1 _ hcd0)]; exact hcd0
          have hdr2 := drop_cons' bs (p + 1) (by rw [← HN.out]; exact hlt4)
          obtain ⟨d, hdd⟩ : ∃ d, d = bs.getD (p + 1) 0 := ⟨_, rfl⟩
          rw [← hdd] at hcellD hdl hdr2
          have HD : Hid (bs.drop p = 0 :: d :: bs.drop (p + 2)) := by unfold Hid; rw [HDR.out, hdr2]
          clear hdd hdr2 hcd0 hend
          by_cases hd1 : d = 1
          · subst hd1
            have HRR : Hid (R = (acc, p + 2, 0)) := by
              unfold Hid
              rw [HR.out]
              unfold ordR
              rw [HO.out, HD.out, rord_zero, if_pos rfl]
              simp; omega
            go_wp2
            go_ret3
            rw [HRR.out]
            exact ⟨a1, m1, c1, by go_num, own1, hb1⟩
          · have hdb : ((d : Int) == 1) = false := by simp; omega
            by_cases hd2 : d = 255
            · subst hd2
              have HO2 : Hid (rord (bs.drop k) [] 0 = rord (bs.drop (p + 2)) (acc ++ [0]) (p + 2 - k)) := by
                unfold Hid
                rw [HO.out, HD.out, rord_zero, if_neg (by omega), if_pos rfl, show p - k + 2 = p + 2 - k by omega]
              go_wp2_with (at_builtin; refine wpList_append_new rfl (.tmp 50) _ rfl w1.heap.size a1 m1 c1 _ rfl own1 [_] 1 rfl [0] rfl rfl (by omega) hs1 ?_; intro a3 m3 c3 w3 own3 hb3)
              go_roundw
              case rel => exact ⟨p + 2, a3, m3, c3, acc ++ [0], by omega, by omega, by go_num, rfl, own3, by rw [own3.1, List.length_append, ← own1.1]; simp; omega, HO2.out, hb1.trans hb3⟩
              case measure => simp [intOf]; omega
            · have hdc : ((d : Int) == 255) = false := by simp; omega
              have hde : ¬ ((d : Int) = 255) := by omega
              have HRR : Hid (R = ([], 0, 11)) := by
                unfold Hid
                rw [HR.out]
                unfold ordR
                rw [HO.out, HD.out, rord_zero, if_neg hd1, if_neg hd2]
                rfl
              go_wp2
              go_ret3
              rw [HRR.out]
              exact ⟨_, _, _, rfl, ⟨rfl, World.ownsRow_nil _ _ _ _⟩, hb1⟩
      · have HO2 : Hid (rord (bs.drop k) [] 0 = rord (bs.drop (p + 1)) (acc ++ [c]) (p + 1 - k)) := by
          unfold Hid
          rw [HO.out, HDR.out, rord_step _ _ _ _ hc0, show p - k + 1 = p + 1 - k by omega]
        have hcb : ((c : Int) == 0) = false := by simp; omega
        have hcc : ¬ ((c : Int) = 0) := by omega
        clear hc0
        go_wp2_with (at_builtin; refine wpList_append_new rfl (.tmp 24) _ rfl w1.heap.size a1 m1 c1 _ rfl own1 [_] 1 rfl [c] rfl rfl (by omega) hs1 ?_; intro a3 m3 c3 w3 own3 hb3)
        go_roundw
        case rel => exact ⟨p + 1, a3, m3, c3, acc ++ [c], by omega, by omega, by go_num, rfl, own3, by rw [own3.1, List.length_append, ← own1.1]; simp; omega, HO2.out, hb1.trans hb3⟩
        case measure => simp [intOf]; omega
    · have hge : (n : Int) ≤ (p : Int) := by omega
      have HRR : Hid (R = ([], 0, 10)) := by
        unfold Hid
        rw [HR.out]
        unfold ordR
        rw [HO.out, List.drop_eq_nil_of_le (by rw [← HN.out]; omega), rord_nil]
        rfl
      go_wp2
      go_ret3
      rw [HRR.out]
      exact ⟨_, _, _, rfl, ⟨rfl, World.ownsRow_nil _ _ _ _⟩, hb1⟩

end Go.Proofs.YtledfniedoapiaaDoor
