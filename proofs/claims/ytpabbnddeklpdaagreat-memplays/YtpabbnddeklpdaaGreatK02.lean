import Derived.Test.YtpabbnddeklpdaaGreatK01
import Derived.Lib.SmallJoins
import Derived.Lib.Hide
import Derived.Deep.DeepAppendRoom
import Derived.Maps.AppendAt
namespace Go.Proofs.YtpabbnddeklpdaaGreat
open Go.RowKit
set_option linter.unusedVariables false
theorem EBox.fz {w : World} {g : Nat} {e : EntD} (h : EBox w g e) (i : Nat) : w.frozen? ⟨g, i, none⟩ = false := by unfold EBox at h; simp [World.frozen?, h]
theorem EBox.apart {w w' : World} {g ge : Nat} {e : EntD} (h : EBox w ge e) (hw : Apart g w w') (hne : ge ≠ g) : EBox w' ge e := by
 unfold EBox at *
 rw [hw.block ge (Array.getElem?_eq_some_iff.1 h).1 hne]; exact h
theorem EBox.set0 {w : World} {g : Nat} {e : EntD} (h : EBox w g e) (x : Value) (l : List Nat) : EBox (w.setCell ⟨g, 0, none⟩ x) g { e with vr := x, row := l } := by
 unfold EBox EntD.cells at *; simp [World.setCell, Array.getElem?_modify, h]
theorem EBox.set1 {w : World} {g : Nat} {e : EntD} (h : EBox w g e) (x : Int) : EBox (w.setCell ⟨g, 1, none⟩ (.int .i64 x)) g { e with fam := x } := by
 unfold EBox EntD.cells at *; simp [World.setCell, Array.getElem?_modify, h]
theorem EBox.set2 {w : World} {g : Nat} {e : EntD} (h : EBox w g e) (x : Value) (l : List Nat) : EBox (w.setCell ⟨g, 2, none⟩ x) g { e with vq := x, qual := l } := by
 unfold EBox EntD.cells at *; simp [World.setCell, Array.getElem?_modify, h]
theorem EBox.set3 {w : World} {g : Nat} {e : EntD} (h : EBox w g e) (x : Int) : EBox (w.setCell ⟨g, 3, none⟩ (.int .i64 x)) g { e with ts := x } := by
 unfold EBox EntD.cells at *; simp [World.setCell, Array.getElem?_modify, h]
theorem EBox.set4 {w : World} {g : Nat} {e : EntD} (h : EBox w g e) (x : Int) : EBox (w.setCell ⟨g, 4, none⟩ (.int .i64 x)) g { e with seq := x } := by
 unfold EBox EntD.cells at *; simp [World.setCell, Array.getElem?_modify, h]
theorem EBox.set5 {w : World} {g : Nat} {e : EntD} (h : EBox w g e) (x : Int) : EBox (w.setCell ⟨g, 5, none⟩ (.int .i64 x)) g { e with kind := x } := by
 unfold EBox EntD.cells at *; simp [World.setCell, Array.getElem?_modify, h]
theorem EBox.set6 {w : World} {g : Nat} {e : EntD} (h : EBox w g e) (x : Value) (l : List Nat) : EBox (w.setCell ⟨g, 6, none⟩ x) g { e with vv := x, val := l } := by
 unfold EBox EntD.cells at *; simp [World.setCell, Array.getElem?_modify, h]
def filled (w : World) (g : Nat) (e : EntD) : World :=
 ((((((w.setCell ⟨g, 0, none⟩ e.vr).setCell ⟨g, 1, none⟩ (.int .i64 e.fam)).setCell ⟨g, 2, none⟩ e.vq).setCell ⟨g, 3, none⟩ (.int .i64 e.ts)).setCell ⟨g, 4, none⟩ (.int .i64 e.seq)).setCell ⟨g, 5, none⟩ (.int .i64 e.kind)).setCell ⟨g, 6, none⟩ e.vv
theorem filled_box {w : World} {g : Nat} {d : EntD} (h : EBox w g d) (e : EntD) : EBox (filled w g e) g e :=
 (((((((h.set0 e.vr e.row).set1 e.fam).set2 e.vq e.qual).set3 e.ts).set4 e.seq).set5 e.kind).set6 e.vv e.val)
theorem filled_apart (w : World) (g : Nat) (e : EntD) : Apart g w (filled w g e) :=
 ((((((apart_set _ _ _ _).trans (apart_set _ _ _ _)).trans (apart_set _ _ _ _)).trans (apart_set _ _ _ _)).trans (apart_set _ _ _ _)).trans (apart_set _ _ _ _)).trans (apart_set _ _ _ _)
end Go.Proofs.YtpabbnddeklpdaaGreat

namespace Go.Proofs.YtpabbnddeklpdaaGreat
open Go.RowKit
set_option linter.unusedVariables false

theorem own_nil (w : World) (B : Nat) : Own w B (.slice none 0 0) ([] : List Nat).length [] := ⟨rfl, rfl, .inl ⟨rfl, rfl⟩⟩

end Go.Proofs.YtpabbnddeklpdaaGreat

namespace Go.Proofs.YtpabbnddeklpdaaGreat
open Go.RowKit
set_option linter.unusedVariables false
set_option maxRecDepth 100000 in
set_option maxHeartbeats 1000000 in
theorem refOrdered_any {v : Value} {bs : List Nat} {w : World} (hr : Rd w v bs) (hl : (ordL bs).length ≤ 140737488355328) :
  Calls Tryz.prog 74 #[v] w fun e w' => ∃ a m c, e = .returned (.slice a m c) ∧ Own w' w.heap.size (.slice a m c) m (ordL bs) ∧ Below w.heap.size w w' := by
 obtain ⟨a, n, cap, rfl⟩ := rd_slice hr
 obtain ⟨hn, hle, hm, hl48⟩ := rd_lens hr
 have HN : Hid (n = bs.length) := hn
 have hol := ordL_len bs
 rw [← hn] at hol
 obtain ⟨C, hC⟩ : ∃ C, C = bs.count 0 := ⟨_, rfl⟩
 rw [← hC] at hol
 have hsum : n + C + 2 ≤ 140737488355328 := by omega
 have HOL : Hid ((ordL bs).length = n + C + 2) := hol
 clear hn hC hm hol hl
 go_enter Tryz.func74, Tryz.ntmps74
 go_wp2
 go_loopw [3, 4] (fun s i wr => ∃ t a m c, t ≤ n ∧ i = .int .i64 ((t : Nat) : Int) ∧ s = .slice a m c ∧ Own wr w.heap.size (.slice a m c) m (escL (bs.take t)) ∧ Below w.heap.size w wr) (fun _ i _ => n - (intOf i).toNat)
 case atStart => exact ⟨0, _, _, _, Nat.zero_le _, rfl, rfl, ⟨rfl, World.ownsRow_nil _ _ _ _⟩, Below.refl _ _⟩
 case round =>
  obtain ⟨t, a1, m1, c1, htl, rfl, rfl, own1, hb1⟩ := hrel
  have hs1 := hb1.size
  have hme := escL_le bs t
  have hm1 : m1 ≤ n + C := by
   rw [own1.1]
   have := HOL.out
   unfold ordL at this
   rw [List.length_append] at this
   simp at this
   omega
  clear hme
  by_cases hlt : t < n
  ·have hlt2 : (t : Int) < (n : Int) := by omega
   rcases rd_some hr with ⟨_, h0, _⟩ | ⟨b, off, rfl⟩
   ·omega
   obtain ⟨hcell0, hcl⟩ := rd_cell hr t hlt
   have hcell : wr.cell? ⟨b, off + t, none⟩ = some (.int .u8 ((bs.getD t 0 : Nat) : Int)) := by
    rw [hb1.cell (p := ⟨b, off + t, none⟩) (World.block_lt_of_cell? w _ hcell0)]; exact hcell0
   have htk := take_succ_getD bs t (by rw [← HN.out]; exact hlt)
   obtain ⟨c, hcd⟩ : ∃ c, c = bs.getD t 0 := ⟨_, rfl⟩
   rw [← hcd] at hcell hcl htk
   have hbc := World.block_lt_of_cell? wr _ hcell
   have HTK : Hid (bs.take (t + 1) = bs.take t ++ [c]) := htk
   clear hcd htk
   by_cases hc0 : c = 0
   ·subst hc0
    have HE : Hid (escL (bs.take (t + 1)) = (escL (bs.take t) ++ [0]) ++ [255]) := by
     unfold Hid; rw [HTK.out, escL_append]; simp [escL]
    go_wp2_with (first
     | (at_builtin; refine wpList_append_new rfl (.tmp 11) _ rfl w.heap.size a1 m1 c1 _ rfl own1 [_] 1 rfl [0] rfl rfl (by omega) hs1 ?_; intro a3 m3 c3 w3 own3 hb3; have hcell3 : w3.cell? ⟨b, off + t, none⟩ = some (.int .u8 ((0 : Nat) : Int)) := by (rw [(hb1.trans hb3).cell (p := ⟨b, off + t, none⟩) (World.block_lt_of_cell? w _ hcell0), ← hb1.cell (p := ⟨b, off + t, none⟩) (World.block_lt_of_cell? w _ hcell0)]; exact hcell))
     | (at_builtin; refine wpList_append_new rfl (.tmp 23) _ rfl w.heap.size a3 m3 c3 _ rfl own3 [_] 1 rfl [255] rfl rfl (own_room own3 hm1 hsum own1.1) (hb1.trans hb3).size ?_; intro a4 m4 c4 w4 own4 hb4))
    go_roundw
    case rel => exact ⟨t + 1, a4, m4, c4, by omega, by go_num, rfl, by rw [HE.out]; exact own4, (hb1.trans hb3).trans hb4⟩
    case measure => simp [intOf]; omega
   ·have HE : Hid (escL (bs.take (t + 1)) = escL (bs.take t) ++ [c]) := by
     unfold Hid; rw [HTK.out, escL_append]; simp [escL, hc0]
    have hcb : ((c : Int) == 0) = false := by simp; omega
    clear hc0
    go_wp2_with (at_builtin; refine wpList_append_new rfl (.tmp 11) _ rfl w.heap.size a1 m1 c1 _ rfl own1 [_] 1 rfl [c] rfl rfl (by omega) hs1 ?_; intro a3 m3 c3 w3 own3 hb3; have hcell3 : w3.cell? ⟨b, off + t, none⟩ = some (.int .u8 ((c : Nat) : Int)) := by (rw [(hb1.trans hb3).cell (p := ⟨b, off + t, none⟩) (World.block_lt_of_cell? w _ hcell0), ← hb1.cell (p := ⟨b, off + t, none⟩) (World.block_lt_of_cell? w _ hcell0)]; exact hcell))
    go_roundw
    case rel => exact ⟨t + 1, a3, m3, c3, by omega, by go_num, rfl, by rw [HE.out]; exact own3, hb1.trans hb3⟩
    case measure => simp [intOf]; omega
  ·have hge : (n : Int) ≤ (t : Int) := by omega
   have HE : Hid (escL (bs.take t) = escL bs) := by unfold Hid; rw [List.take_of_length_le (by rw [← HN.out]; omega)]
   go_wp2_with (at_builtin; refine wpList_append_new rfl (.tmp 26) _ rfl w.heap.size a1 m1 c1 _ rfl own1 [_, _] 2 rfl [0, 1] rfl rfl (by omega) hs1 ?_; intro a3 m3 c3 w3 own3 hb3)
   go_ret
   refine ⟨a3, m3, c3, rfl, ?_, hb1.trans hb3⟩
   unfold ordL
   rw [← HE.out]
   exact own3

end Go.Proofs.YtpabbnddeklpdaaGreat

namespace Go.Proofs.YtpabbnddeklpdaaGreat
open Go.RowKit
set_option linter.unusedVariables false

theorem uintF_len (f v : Nat) : 1 ≤ (uintF f v).length ∧ (uintF f v).length ≤ f + 1 := by
 induction f generalizing v with
 | zero => simp [uintF]
 | succ f ih =>
  unfold uintF
  split
  ·have := ih (v / 128); simp; omega
  ·simp
theorem uintL_len (v : Nat) : 1 ≤ (uintL v).length ∧ (uintL v).length ≤ 10 := uintF_len 9 v
theorem uintF_bys (f v : Nat) (h : v < 128 ^ (f + 1)) : Bys (uintF f v) := by
 induction f generalizing v with
 | zero => intro x hx; simp [uintF] at hx; simp at h; omega
 | succ f ih =>
  unfold uintF
  split
  ·intro x hx
   simp only [List.mem_cons] at hx
   rcases hx with rfl | hx
   ·omega
   ·exact ih (v / 128) (by rw [Nat.pow_succ] at h; exact Nat.div_lt_of_lt_mul (by rw [Nat.mul_comm]; exact h)) x hx
  ·intro x hx; simp at hx; omega
theorem uintL_bys (v : Nat) (h : v < 18446744073709551616) : Bys (uintL v) := uintF_bys 9 v (Nat.lt_of_lt_of_le h (by decide))

def bytesL (bs : List Nat) : List Nat := uintL bs.length ++ bs

theorem own_le10 {w : World} {B : Nat} {v : Value} {m n k : Nat} (h : Own w B v m ([] ++ uintL k)) (hl : n ≤ 140737488355312) : m + n ≤ 140737488355328 := by
 have h1 := h.1
 have h2 := uintL_len k
 rw [List.nil_append] at h1
 omega

set_option maxRecDepth 100000 in
set_option maxHeartbeats 1000000 in
theorem bytes_any {v : Value} {bs : List Nat} {w : World} (hr : Rd w v bs) (hl : bs.length ≤ 140737488355312) :
  Calls Tryz.prog 55 #[v] w fun e w' => ∃ a m c, e = .returned (.slice a m c) ∧ Own w' w.heap.size (.slice a m c) m (bytesL bs) ∧ Below w.heap.size w w' := by
 obtain ⟨i0, hi, hz0, hz1, hz2⟩ := info_parts info_byte
 obtain ⟨a, n, cap, rfl⟩ := rd_slice hr
 obtain ⟨hn, hle, hm, hl48⟩ := rd_lens hr
 rw [← hn] at hl
 have HN : Hid (n = bs.length) := hn
 clear hn hm
 have hem : (n : Int) % 18446744073709551616 = (n : Int) := by omega
 go_enter Tryz.func55, Tryz.ntmps55
 go_wp2_with fail
 refine (uint_at _ n rfl (by omega) _ rfl).mono ?_
 rintro e w1 ⟨a1, m1, c1, rfl, own1, hb1⟩
 have hl1 := uintL_len n
 rw [← own1.1] at hl1
 have r1 := own1.rd (uintL_bys n (by omega)) (by omega)
 have hs1 := hb1.size
 clear own1
 go_wp2_with (at_make; refine wpList_make_own _ rfl _ _ 34 rfl w.heap.size 5 i0 (.int .u8 0) 1 und_bytes hi hz0 hz1 .i64 .i64 _ (m1 + n) rfl rfl ?c0 ?c1 ?c2 ?c3 ?_)
 case c0 => omega
 case c1 => rw [hz2]; omega
 case c2 => unfold maxLen; omega
 case c3 => omega
 intro w2 hown2 hg2
 have hb2 : Below w1.heap.size w1 w2 := (Below.refl _ w1).grown hg2 (Nat.le_refl _) (fun k hk => by simp at hk)
 have hb2' := hb1.trans (hb2.mono hs1)
 have own2 : Own w2 w.heap.size (.slice (some ⟨w1.heap.size, 0, none⟩) 0 (m1 + n)) 0 [] := ⟨rfl, hown2⟩
 have r2 := r1.later hb2
 have hs2 := hb2'.size
 clear hg2 hb2 hown2 r1
 go_wp2_with (first
  | (at_builtin; refine wpList_append_at rfl (.tmp 15) _ rfl w.heap.size _ _ _ _ rfl own2 _ _ _ _ rfl r2 (by omega) hs2 ?_; intro a5 m5 c5 w5 own5 hb5)
  | (at_builtin; refine wpList_append_at rfl (.tmp 18) _ rfl w.heap.size _ _ _ _ rfl own5 _ _ _ _ rfl (hr.later (hb2'.trans hb5)) (own_le10 own5 hl) (hb2'.trans hb5).size ?_; intro a6 m6 c6 w6 own6 hb6))
 go_ret
 refine ⟨a6, m6, c6, rfl, ?_, (hb2'.trans hb5).trans hb6⟩
 have e := HN.out
 subst e
 simpa [bytesL] using own6

def bytesR (bs : List Nat) (k most : Nat) : List Nat × Nat × Nat :=
 if (uintR bs k).2.2 ≠ 0 then ([], 0, (uintR bs k).2.2)
 else if most < (uintR bs k).1 then ([], 0, 13)
 else if bs.length < (uintR bs k).2.1 + (uintR bs k).1 then ([], 0, 10)
 else ((bs.drop (uintR bs k).2.1).take (uintR bs k).1, (uintR bs k).2.1 + (uintR bs k).1, 0)

end Go.Proofs.YtpabbnddeklpdaaGreat

namespace Go.Proofs.YtpabbnddeklpdaaGreat
open Go.RowKit
set_option linter.unusedVariables false

set_option maxRecDepth 100000 in
set_option maxHeartbeats 1000000 in
theorem refUint_any (v : Nat) (hv : v < 18446744073709551616) (w : World) :
  Calls Tryz.prog 73 #[.int .u64 (v : Int)] w fun e w' => ∃ a m c, e = .returned (.slice a m c) ∧ Own w' w.heap.size (.slice a m c) m (uintL v) ∧ Below w.heap.size w w' := by
 go_enter Tryz.func73, Tryz.ntmps73
 go_wp2
 go_loopw [0, 3] (fun x s wr => ∃ (u f : Nat) (acc : List Nat) (a : Option Addr) (m c : Nat), x = .int .u64 (u : Int) ∧ u < 128 ^ (f + 1) ∧ u < 18446744073709551616 ∧ acc.length + f = 9 ∧ uintL v = acc ++ uintF f u ∧ s = .slice a m c ∧ Own wr w.heap.size (.slice a m c) m acc ∧ m ≤ 9 ∧ Below w.heap.size w wr)
  (fun x _ _ => (intOf x).toNat)
 case atStart => exact ⟨v, 9, [], _, _, _, rfl, by omega, hv, rfl, rfl, rfl, ⟨rfl, World.ownsRow_nil _ _ _ _⟩, by omega, Below.refl _ _⟩
 case round =>
  obtain ⟨u, f, acc, a1, m1, c1, rfl, hu, hu2, hacc, hl, rfl, own1, hm9, hb⟩ := hrel
  have HL : Hid (uintL v = acc ++ uintF f u) := hl
  have HU : Hid (u < 128 ^ (f + 1)) := hu
  have HA : Hid (acc.length + f = 9) := hacc
  clear hl hu hacc
  have hbs := hb.size
  by_cases hgt : 127 < u
  ·have hgt2 : (127 : Int) < (u : Int) := by omega
   obtain ⟨f', hf'⟩ : ∃ f', f = f' + 1 := ⟨f - 1, by
    have h1 : f ≠ 0 := by
     intro h0
     have := HU.out
     rw [h0] at this
     omega
    omega⟩
   have HF : Hid (f = f' + 1) := hf'
   clear hf'
   go_wp2_with (at_builtin; refine wpList_append_new rfl (.tmp 6) _ rfl w.heap.size a1 m1 c1 _ rfl own1 [_] 1 rfl [u % 128 + 128] (by first | rfl | (simp [bv]; done) | (simp [bv]; omega)) rfl (by omega) hbs ?_; intro a3 m3 c3 w3 own3 hb3)
   go_roundw
   case rel =>
    refine ⟨u / 128, f', acc ++ [u % 128 + 128], a3, m3, c3, by go_num, ?_, by omega, by have := HA.out; have := HF.out; simp; omega, ?_, rfl, own3, by have := HA.out; have := HF.out; rw [own3.1]; simp; omega, hb.trans hb3⟩
    ·have := HU.out
     rw [HF.out, Nat.pow_succ] at this
     exact Nat.div_lt_of_lt_mul (by rw [Nat.mul_comm]; exact this)
    ·rw [HL.out, HF.out, uintF_go f' u hgt]; simp
   case measure => simp [intOf]; omega
  ·have hgt2 : (u : Int) ≤ 127 := by omega
   go_wp2_with (at_builtin; refine wpList_append_new rfl (.tmp 15) _ rfl w.heap.size a1 m1 c1 _ rfl own1 [_] 1 rfl [u] (by first | rfl | (simp [bv]; done) | (simp [bv]; omega)) rfl (by omega) hbs ?_; intro a3 m3 c3 w3 own3 hb3)
   go_ret
   refine ⟨a3, m3, c3, rfl, ?_, hb.trans hb3⟩
   rw [HL.out, uintF_stop f u (by omega)]
   exact own3

set_option maxRecDepth 100000 in
set_option maxHeartbeats 1000000 in
theorem refBytes_any {v : Value} {bs : List Nat} {w : World} (hr : Rd w v bs) (hl : bs.length ≤ 140737488355312) :
  Calls Tryz.prog 52 #[v] w fun e w' => ∃ a m c, e = .returned (.slice a m c) ∧ Own w' w.heap.size (.slice a m c) m (bytesL bs) ∧ Below w.heap.size w w' := by
 obtain ⟨a, n, cap, rfl⟩ := rd_slice hr
 obtain ⟨hn, hle, hm, hl48⟩ := rd_lens hr
 rw [← hn] at hl
 have HN : Hid (n = bs.length) := hn
 clear hn
 have hn64 : n < 18446744073709551616 := by omega
 have hem : (n : Int) % 18446744073709551616 = (n : Int) := by omega
 have HU : ∀ m : Nat, m = (uintL n).length → m ≤ 10 := fun m h => by have := (uintL_len n).2; omega
 go_enter Tryz.func52, Tryz.ntmps52
 go_wp2_with fail
 refine (refUint_any n hn64 _).mono ?_
 rintro e w1 ⟨a1, m1, c1, rfl, own1, hb1⟩
 go_wp2_with (at_builtin; refine wpList_append_at rfl _ _ rfl w.heap.size a1 m1 c1 _ rfl own1 a n cap bs rfl (hr.later hb1) (by have := HU m1 own1.1; omega) hb1.size ?_; intro a5 m5 c5 w5 own5 hb5)
 go_ret
 refine ⟨a5, m5, c5, rfl, ?_, hb1.trans hb5⟩
 unfold bytesL
 rw [← HN.out]
 exact own5

end Go.Proofs.YtpabbnddeklpdaaGreat

namespace Go.Proofs.YtpabbnddeklpdaaGreat
open Go.RowKit
set_option linter.unusedVariables false

theorem heap_new (w : World) (o : Obj) : (w.alloc o).heap[w.heap.size]? = some o := by
 show (w.heap.push o)[w.heap.size]? = some o
 simp

theorem own_one (w : World) (B x : Nat) (hB : B ≤ w.heap.size) : Own (w.alloc (.cells #[.int .u8 (x : Int)] 5)) B (.slice (some ⟨w.heap.size, 0, none⟩) 1 1) 1 [x] := by
 refine ⟨rfl, rfl, .inr ⟨w.heap.size, 1, #[.int .u8 (x : Int)], rfl, hB, heap_new w _, Nat.le_refl _, by decide, rfl, rfl⟩⟩

end Go.Proofs.YtpabbnddeklpdaaGreat

namespace Go.Proofs.YtpabbnddeklpdaaGreat
open Go.RowKit
set_option linter.unusedVariables false
theorem own_one' (w : World) (B x : Nat) (z : Int) (hz : z = (x : Int)) (hB : B ≤ w.heap.size) : Own (w.alloc (.cells #[.int .u8 z] 5)) B (.slice (some ⟨w.heap.size, 0, none⟩) 1 1) 1 [x] := by
 subst hz; exact own_one w B x hB
theorem be8_step (V t : Nat) (h : t < 8) : (be8 V).drop (8 - (t + 1)) = [V / 256 ^ t % 256] ++ (be8 V).drop (8 - t) := by
 have hl : (be8 V).length = 8 := rfl
 rw [drop_cons' (be8 V) (8 - (t + 1)) (by rw [hl]; omega), be8_get V _ (by omega), show 8 - (t + 1) + 1 = 8 - t by omega, show 7 - (8 - (t + 1)) = t by omega, Nat.pow_mul]
 rfl

set_option maxRecDepth 100000 in
set_option maxHeartbeats 1000000 in
theorem eight_any (V : Nat) (hV : V < 18446744073709551616) (w : World) :
  Calls Tryz.prog 92 #[.int .u64 (V : Int)] w fun e w' => ∃ a m c, e = .returned (.slice a m c) ∧ Own w' w.heap.size (.slice a m c) m (be8 V) ∧ Below w.heap.size w w' := by
 have HB8 : Hid (∀ t, ((be8 V).drop (8 - t)).length ≤ t) := fun t => by rw [List.length_drop]; have : (be8 V).length = 8 := rfl; omega
 have HBY : Hid (∀ t, Bys ((be8 V).drop (8 - t))) := fun t x hx => be8_bys V x (List.mem_of_mem_drop hx)
 go_enter Tryz.func92, Tryz.ntmps92
 go_wp2
 go_loopw [0, 3, 4] (fun x s i wr => ∃ (t u : Nat) (a : Option Addr) (m c : Nat), t ≤ 8 ∧ x = .int .u64 (u : Int) ∧ u = V / 256 ^ t ∧ i = .int .i64 (t : Int) ∧ s = .slice a m c ∧ Own wr w.heap.size (.slice a m c) m ((be8 V).drop (8 - t)) ∧ Below w.heap.size w wr) (fun _ _ i _ => 8 - (intOf i).toNat)
 case atStart => exact ⟨0, V, _, _, _, by omega, rfl, by simp, rfl, rfl, ⟨rfl, World.ownsRow_nil _ _ _ _⟩, Below.refl _ _⟩
 case round =>
  obtain ⟨t, u, a1, m1, c1, ht, rfl, hu, rfl, rfl, own1, hb⟩ := hrel
  have HU : Hid (u = V / 256 ^ t) := hu
  have hu64 : u < 18446744073709551616 := by rw [hu]; exact Nat.lt_of_le_of_lt (Nat.div_le_self _ _) hV
  clear hu
  have hbs := hb.size
  have hm1 : m1 ≤ t := by rw [own1.1]; exact HB8.out t
  by_cases hlt : t < 8
  ·have hlt2 : (t : Int) < 8 := by omega
   have r1 := own1.rd (HBY.out t) (by omega)
   have HST : Hid ((be8 V).drop (8 - (t + 1)) = [u % 256] ++ (be8 V).drop (8 - t)) := by unfold Hid; rw [be8_step V t hlt, HU.out]
   go_wp2_with (at_builtin; refine wpList_append_at rfl (.tmp 12) _ rfl w.heap.size (some ⟨wr.heap.size, 0, none⟩) 1 1 [u % 256] rfl (own_one' wr w.heap.size (u % 256) _ (by first | rfl | omega | (simp; done) | (simp; omega)) hbs) a1 m1 c1 _ rfl (r1.later ((Below.refl _ _).alloc (Nat.le_refl _) _)) (by omega) (by simp; omega) ?_; intro a3 m3 c3 w3 own3 hb3)
   go_roundw
   case rel => exact ⟨t + 1, u / 256, a3, m3, c3, by omega, by go_num, by rw [HU.out, Nat.div_div_eq_div_mul, Nat.pow_succ], by go_num, rfl, by rw [HST.out]; exact own3, hb.trans (((Below.refl w.heap.size wr).alloc hbs _).trans hb3)⟩
   case measure => simp [intOf]; omega
  ·have hge : (8 : Int) ≤ (t : Int) := by omega
   have ht8 : t = 8 := by omega
   have HT : Hid (t = 8) := ht8
   clear ht8
   go_wp2
   go_ret
   refine ⟨a1, m1, c1, rfl, ?_, hb⟩
   have h := own1
   rw [HT.out] at h
   simpa using h

set_option maxRecDepth 100000 in
set_option maxHeartbeats 400000 in
theorem refRising_any (n : Nat) (hn : n < 9223372036854775808) (w : World) :
  Calls Tryz.prog 86 #[.int .i64 (n : Int)] w fun e w' => ∃ a m c, e = .returned (.tuple #[.slice a m c, .int .i64 0]) ∧ Own w' w.heap.size (.slice a m c) m (be8 n) ∧ Below w.heap.size w w' := by
 have h0 : (0 : Int) ≤ (n : Int) := by omega
 have hem : (n : Int) % 18446744073709551616 = (n : Int) := by omega
 go_enter Tryz.func86, Tryz.ntmps86
 go_wp2_with fail
 refine (eight_any n (by omega) _).mono ?_
 rintro e w1 ⟨a1, m1, c1, rfl, own1, hb1⟩
 go_wp2
 go_ret2
 exact ⟨a1, m1, c1, rfl, own1, hb1⟩
theorem refRising_at (z : Int) (n : Nat) (hz : z = (n : Int)) (hn : n < 9223372036854775808) (w : World) :
  Calls Tryz.prog 86 #[.int .i64 z] w fun e w' => ∃ a m c, e = .returned (.tuple #[.slice a m c, .int .i64 0]) ∧ Own w' w.heap.size (.slice a m c) m (be8 n) ∧ Below w.heap.size w w' := by
 subst hz; exact refRising_any n hn w
set_option maxRecDepth 100000 in
set_option maxHeartbeats 400000 in
theorem refFalling_any (n : Nat) (hn : n < 9223372036854775808) (w : World) :
  Calls Tryz.prog 75 #[.int .i64 (n : Int)] w fun e w' => ∃ a m c, e = .returned (.tuple #[.slice a m c, .int .i64 0]) ∧ Own w' w.heap.size (.slice a m c) m (be8 (9223372036854775807 - n)) ∧ Below w.heap.size w w' := by
 have h0 : (0 : Int) ≤ (n : Int) := by omega
 have h1 : (n : Int) ≤ 9223372036854775807 := by omega
 have HS : Hid ((9223372036854775807 : Int) - (n : Int) = ((9223372036854775807 - n : Nat) : Int)) := by unfold Hid; omega
 go_enter Tryz.func75, Tryz.ntmps75
 go_wp2_with fail
 refine (refRising_at _ (9223372036854775807 - n) HS.out (by omega) _).mono ?_
 rintro e w1 ⟨a1, m1, c1, rfl, own1, hb1⟩
 go_wp2
 go_ret2
 exact ⟨a1, m1, c1, rfl, own1, hb1⟩

end Go.Proofs.YtpabbnddeklpdaaGreat

namespace Go.Proofs.YtpabbnddeklpdaaGreat
open Go.RowKit
set_option linter.unusedVariables false

def plainD (vr vq vv : Value) : EntD := ⟨vr, 1, vq, 5, 32, 1, vv, [114], [113], [118]⟩
def zeroD : EntD := ⟨.slice none 0 0, 0, .slice none 0 0, 0, 0, 0, .slice none 0 0, [], [], []⟩
theorem rd_one {w : World} {g x : Nat} (h : w.cell? ⟨g, 0, none⟩ = some (.int .u8 (x : Int))) (hx : x < 256) : Rd w (.slice (some ⟨g, 0, none⟩) 1 1) [x] :=
 ⟨fun y hy => by simp at hy; omega, _, 1, rfl, Nat.le_refl _, by decide, by simp, .inr ⟨g, 0, rfl⟩, .inr ⟨g, 0, rfl, fun i hi => by
  obtain rfl : i = 0 := by simp at hi; omega
  simpa using h⟩⟩
theorem three (w : World) (E : EntD) : ∃ w4, w4 = (((w.alloc (.cells E.cells 38)).alloc (.cells #[.int .u8 114] 5 (1, 2))).alloc (.cells #[.int .u8 113] 5 (1, 2))).alloc (.cells #[.int .u8 118] 5 (1, 2)) ∧ EBox w4 w.heap.size E ∧
  w4.cell? ⟨w.heap.size + 1, 0, none⟩ = some (.int .u8 114) ∧ w4.cell? ⟨w.heap.size + 2, 0, none⟩ = some (.int .u8 113) ∧ w4.cell? ⟨w.heap.size + 3, 0, none⟩ = some (.int .u8 118) ∧ Below w.heap.size w w4 := by
 have A1 := (Below.refl w.heap.size w).alloc (Nat.le_refl _) (.cells E.cells 38)
 have b1 := EBox.new w E
 have s1 : (w.alloc (.cells E.cells 38)).heap.size = w.heap.size + 1 := by simp
 obtain ⟨w1, hw1⟩ : ∃ w1, w1 = w.alloc (.cells E.cells 38) := ⟨_, rfl⟩
 rw [← hw1] at A1 b1 s1
 have A2 := (Below.refl w1.heap.size w1).alloc (Nat.le_refl _) (.cells #[.int .u8 114] 5 (1, 2))
 have s2 : (w1.alloc (.cells #[.int .u8 114] 5 (1, 2))).heap.size = w.heap.size + 2 := by simp [s1]
 have c2 : (w1.alloc (.cells #[.int .u8 114] 5 (1, 2))).cell? ⟨w.heap.size + 1, 0, none⟩ = some (.int .u8 114) := by rw [Joins.cell_alloc_mark_at _ _ _ _ _ _ s1.symm]; rfl
 obtain ⟨w2, hw2⟩ : ∃ w2, w2 = w1.alloc (.cells #[.int .u8 114] 5 (1, 2)) := ⟨_, rfl⟩
 rw [← hw2] at A2 s2 c2
 have A3 := (Below.refl w2.heap.size w2).alloc (Nat.le_refl _) (.cells #[.int .u8 113] 5 (1, 2))
 have s3 : (w2.alloc (.cells #[.int .u8 113] 5 (1, 2))).heap.size = w.heap.size + 3 := by simp [s2]
 have c3 : (w2.alloc (.cells #[.int .u8 113] 5 (1, 2))).cell? ⟨w.heap.size + 2, 0, none⟩ = some (.int .u8 113) := by rw [Joins.cell_alloc_mark_at _ _ _ _ _ _ s2.symm]; rfl
 obtain ⟨w3, hw3⟩ : ∃ w3, w3 = w2.alloc (.cells #[.int .u8 113] 5 (1, 2)) := ⟨_, rfl⟩
 rw [← hw3] at A3 s3 c3
 have A4 := (Below.refl w3.heap.size w3).alloc (Nat.le_refl _) (.cells #[.int .u8 118] 5 (1, 2))
 have c4 : (w3.alloc (.cells #[.int .u8 118] 5 (1, 2))).cell? ⟨w.heap.size + 3, 0, none⟩ = some (.int .u8 118) := by rw [Joins.cell_alloc_mark_at _ _ _ _ _ _ s3.symm]; rfl
 obtain ⟨w4, hw4⟩ : ∃ w4, w4 = w3.alloc (.cells #[.int .u8 118] 5 (1, 2)) := ⟨_, rfl⟩
 rw [← hw4] at A4 c4
 refine ⟨w4, by rw [hw4, hw3, hw2, hw1], ((b1.later A2).later A3).later A4, ?_, ?_, c4, ((A1.trans (A2.mono A1.size)).trans (A3.mono (by omega))).trans (A4.mono (by omega))⟩
 ·rw [A4.cell (p := ⟨w.heap.size + 1, 0, none⟩) (by simp; omega), A3.cell (p := ⟨w.heap.size + 1, 0, none⟩) (by simp; omega)]; exact c2
 ·rw [A4.cell (p := ⟨w.heap.size + 2, 0, none⟩) (by simp; omega)]; exact c3

def plainK : List Nat := [114, 0, 1, 1, 1, 113, 0, 1, 1, 127, 255, 255, 255, 255, 255, 255, 250, 127, 255, 255, 255, 255, 255, 255, 223, 1]
set_option maxRecDepth 100000 in
theorem refOut_in (n lo hi : Int) (w : World) (h1 : lo ≤ n) (h2 : n ≤ hi) : Calls Tryz.prog 72 #[.int .i64 n, .int .i64 lo, .int .i64 hi] w fun e w' => e = .returned (.bool false) ∧ w' = w := by
 have d1 : decide (n < lo) = false := by simpa using h1
 have d2 : decide (hi < n) = false := by simpa using h2
 go_enter Tryz.func72, Tryz.ntmps72
 go_wp2
 go_ret
 exact ⟨by first | rfl | simp [d1, d2], rfl⟩

end Go.Proofs.YtpabbnddeklpdaaGreat

namespace Go.Proofs.YtpabbnddeklpdaaGreat
open Go.RowKit
set_option linter.unusedVariables false

theorem wpList_append_gr {w : World} {ops : Array Oper} {rest : List Oper} {o : Oper} {a : Act} {Q : Exit → Act → World → Prop} (hgd : o.guard = none) (s x : Operand)
  (ho : o.op = .call { callee := .builtin .append, args := #[s, x], argTypes := #[34, 34] })
  (B : Nat) (a0 : Option Addr) (m0 c0 : Nat) (acc : List Nat) (hs : a.eval s = .slice a0 m0 c0) (hown : Own w B (.slice a0 m0 c0) m0 acc)
  (ao : Option Addr) (m c : Nat) (bs : List Nat) (hx : a.eval x = .slice ao m c) (hrd : Rd w (.slice ao m c) bs)
  (hbytes : m0 + m ≤ 140737488355328) (hB : B ≤ w.heap.size)
  (h : ∀ a' m' c' w', Own w' B (.slice a' m' c') m' (acc ++ bs) → Below B w w' → w.grownBy w' (Value.slice a0 m0 c0).ownBlock → wpList Tryz.prog ops Q rest (a.put o.dst (.slice a' m' c')) w') : wpList Tryz.prog ops Q (o :: rest) a w := by
 obtain ⟨i0, hi, hz0, hz1, hz2⟩ := info_parts info_byte
 obtain ⟨hby, a1, c1, h2, hle, hm, hl48, hnone, hat⟩ := hrd
 simp only [Value.slice.injEq] at h2
 obtain ⟨rfl, rfl, rfl⟩ := h2
 cases ao with
 | none =>
  have hb0 : bs = [] ∧ c = 0 := by
   rcases hnone with h | ⟨b, off, h⟩
   ·exact ⟨List.eq_nil_of_length_eq_zero (by omega), h⟩
   ·cases h
  obtain ⟨rfl, rfl⟩ := hb0
  refine wpList_append_own_none hgd s x 34 ho B 5 i0 1 und_bytes hi _ _ _ hs hown.2 (by simpa using hx) ?_
  exact h _ _ _ _ (by simpa using hown) (Below.refl _ _) (World.grownBy.refl _ _)
 | some ad =>
  refine wpList_append_own _ hgd s x 34 ho B 5 i0 (.int .u8 0) 1 1 und_bytes hi hz0 hz1 hz2 rfl (by decide) _ m0 (bv acc) hs hown.2 ad bs.length c (bv bs) hx (by simp [bv]) hat.add (bv_oneCell bs) (by unfold maxLen; omega) (by omega) hB ?_
  intro v' w' h1 h2 _
  obtain ⟨a', c', rfl⟩ := own_form h1
  refine h a' _ c' w' ⟨by rw [hown.1]; simp, by simpa [bv] using h1⟩ ((Below.refl B w).grown h2 hB (fun k hk => (hown.2.lt k hk).1)) h2


theorem Own.grown {w w' : World} {B m : Nat} {v : Value} {o : Option Nat} {xs : List Nat} (h : Own w B v m xs) (k : w.grownBy w' o) (hne : ∀ g, o = some g → g < B) : Own w' B v m xs := by
 refine ⟨h.1, h.2.1, ?_⟩
 rcases h.2.2 with h2 | ⟨g, cap, cur, h3, h4, h5, h6⟩
 ·exact .inl h2
 ·refine .inr ⟨g, cap, cur, h3, h4, ?_, h6⟩
  rw [k.block g (Array.getElem?_eq_some_iff.1 h5).1 ?_]
  ·exact h5
  ·intro e
   have := hne g e.symm
   omega

end Go.Proofs.YtpabbnddeklpdaaGreat

namespace Go.Proofs.YtpabbnddeklpdaaGreat
open Go.RowKit
set_option linter.unusedVariables false

theorem take_eq {xs ys : List Nat} {t : Nat} (h1 : t < xs.length) (h2 : t < ys.length) (h : xs.take t = ys.take t) (he : xs.getD t 0 = ys.getD t 0) : xs.take (t + 1) = ys.take (t + 1) := by
 rw [List.take_add_one, List.take_add_one, h, List.getElem?_eq_getElem h1, List.getElem?_eq_getElem h2]
 simp [List.getD, List.getElem?_eq_getElem h1, List.getElem?_eq_getElem h2] at he
 simp [he]

end Go.Proofs.YtpabbnddeklpdaaGreat

namespace Go.Proofs.YtpabbnddeklpdaaGreat
open Go.RowKit
set_option linter.unusedVariables false

theorem EBox.cells7 {w : World} {g : Nat} {e : EntD} (h : EBox w g e) : w.cell? ⟨g, 0, none⟩ = some e.vr ∧ w.cell? ⟨g, 1, none⟩ = some (.int .i64 e.fam) ∧ w.cell? ⟨g, 2, none⟩ = some e.vq ∧ w.cell? ⟨g, 3, none⟩ = some (.int .i64 e.ts) ∧ w.cell? ⟨g, 4, none⟩ = some (.int .i64 e.seq) ∧ w.cell? ⟨g, 5, none⟩ = some (.int .i64 e.kind) ∧ w.cell? ⟨g, 6, none⟩ = some e.vv := ⟨h.vr, h.fam, h.vq, h.ts, h.seq, h.kind, h.vv⟩
def badD (vr vq vv : Value) (seq : Int) : EntD := ⟨vr, 1, vq, 0, seq, 1, vv, [114], [113], [118]⟩
end Go.Proofs.YtpabbnddeklpdaaGreat

namespace Go.Proofs.YtpabbnddeklpdaaGreat
open Go.RowKit
set_option linter.unusedVariables false

def marks5 : List Nat := [201, 202, 203, 204, 205]
theorem marks5_bys : Bys marks5 := by
 have h : ∀ x ∈ marks5, x < 256 := by decide
 exact h
theorem rep_bys (n m : Nat) (h : m < 256) : Bys (List.replicate n m) := by intro x hx; rw [List.eq_of_mem_replicate hx]; exact h

def Laid (w : World) (B : Nat) (u : Value) (bs : List Nat) : Prop := ∃ g c, u = .slice (some ⟨g, 0, none⟩) bs.length c ∧ bs.length + 75 ≤ c ∧ c ≤ maxLen ∧ Own w B (.slice (some ⟨g, 0, none⟩) (bs.length + 75) c) (bs.length + 75) ((bs ++ marks5) ++ List.replicate 70 206)
theorem Laid.later {w w' : World} {B : Nat} {u : Value} {bs : List Nat} (h : Laid w B u bs) (hb : Below w.heap.size w w') : Laid w' B u bs := by
 obtain ⟨g, c, h1, h2, h3, h4⟩ := h
 exact ⟨g, c, h1, h2, h3, h4.later hb⟩
theorem Laid.all {w : World} {B g c : Nat} {bs : List Nat} (h4 : Own w B (.slice (some ⟨g, 0, none⟩) (bs.length + 75) c) (bs.length + 75) ((bs ++ marks5) ++ List.replicate 70 206)) (hb : Bys bs) (hl : bs.length ≤ 140737488355328) : Rd w (.slice (some ⟨g, 0, none⟩) (bs.length + 75) c) ((bs ++ marks5) ++ List.replicate 70 206) :=
 h4.rd (Bys.app (Bys.app hb marks5_bys) (rep_bys _ _ (by decide))) (by omega)
theorem Laid.rd {w : World} {B : Nat} {u : Value} {bs : List Nat} (h : Laid w B u bs) (hb : Bys bs) (hl : bs.length ≤ 140737488355328) : Rd w u bs := by
 obtain ⟨g, c, rfl, h2, h3, h4⟩ := h
 have := (Laid.all h4 hb hl).upto bs.length (by omega)
 simpa using this

end Go.Proofs.YtpabbnddeklpdaaGreat

namespace Go.Proofs.YtpabbnddeklpdaaGreat
open Go.RowKit
set_option linter.unusedVariables false

def Dif (xs ys : List Nat) (c : Int) : Prop :=
 (c = 0 ∧ xs = ys) ∨ (c = -1 ∧ ∃ p x y r s, xs = p ++ x :: r ∧ ys = p ++ y :: s ∧ x < y) ∨ (c = 1 ∧ ∃ p x y r s, xs = p ++ x :: r ∧ ys = p ++ y :: s ∧ y < x)
theorem keyL_parts (e : EntD) : keyL e = ordL e.row ++ ([e.fam.toNat] ++ ([mark e.kind 5] ++ ((if e.kind = 5 then [] else ordL e.qual ++ [mark e.kind 4]) ++ (be8 (9223372036854775807 - e.ts.toNat) ++ (be8 (9223372036854775807 - e.seq.toNat) ++ ([e.kind.toNat] ++ [])))))) := by
 simp [keyL]

end Go.Proofs.YtpabbnddeklpdaaGreat

namespace Go.Proofs.YtpabbnddeklpdaaGreat
open Go.RowKit
set_option linter.unusedVariables false

def RowOk (bs : List Nat) : Prop := 1 ≤ bs.length ∧ bs.length ≤ 256
set_option maxRecDepth 100000 in
theorem refOut_out (n lo hi : Int) (w : World) (h : n < lo ∨ hi < n) : Calls Tryz.prog 72 #[.int .i64 n, .int .i64 lo, .int .i64 hi] w fun e w' => e = .returned (.bool true) ∧ w' = w := by
 by_cases h1 : n < lo
 ·have d1 : decide (n < lo) = true := by simpa using h1
  clear h
  go_enter Tryz.func72, Tryz.ntmps72
  go_wp2
  go_ret
  exact ⟨by first | rfl | simp [d1], rfl⟩
 ·have d1 : decide (n < lo) = false := by simpa using h1
  have h2 : hi < n := by omega
  have d2 : decide (hi < n) = true := by simpa using h2
  clear h
  go_enter Tryz.func72, Tryz.ntmps72
  go_wp2
  go_ret
  exact ⟨by first | rfl | simp [d1, d2], rfl⟩
set_option maxRecDepth 100000 in
theorem refNumber_any (a b : Int) (w : World) : Calls Tryz.prog 49 #[.int .i64 a, .int .i64 b] w fun e w' => e = .returned (.int .i64 (cmpI a b)) ∧ w' = w := by
 by_cases h1 : a < b
 ·go_enter Tryz.func49, Tryz.ntmps49
  go_wp2
  go_ret
  exact ⟨by unfold cmpI; rw [if_pos (by omega)]; rfl, rfl⟩
 ·have h1' : b ≤ a := by omega
  by_cases h2 : b < a
  ·go_enter Tryz.func49, Tryz.ntmps49
   go_wp2
   go_ret
   exact ⟨by unfold cmpI; rw [if_neg (by omega), if_pos (by omega)]; rfl, rfl⟩
  ·have h2' : a ≤ b := by omega
   go_enter Tryz.func49, Tryz.ntmps49
   go_wp2
   go_ret
   exact ⟨by unfold cmpI; rw [if_neg (by omega), if_neg (by omega)]; rfl, rfl⟩
set_option maxRecDepth 100000 in
set_option maxHeartbeats 1000000 in
theorem refBytesOrd_any {va vb : Value} {xs ys : List Nat} {w : World} (ha : Rd w va xs) (hb : Rd w vb ys) :
  Calls Tryz.prog 48 #[va, vb] w fun e w' => e = .returned (.int .i64 (ordC xs ys)) ∧ Below w.heap.size w w' := by
 obtain ⟨a, n, cap, rfl⟩ := rd_slice ha
 obtain ⟨b, m, capb, rfl⟩ := rd_slice hb
 obtain ⟨hn, _, _, hn48⟩ := rd_lens ha
 obtain ⟨hm, _, _, hm48⟩ := rd_lens hb
 have HN : Hid (n = xs.length) := hn
 have HM : Hid (m = ys.length) := hm
 clear hn hm
 go_enter Tryz.func48, Tryz.ntmps48
 go_wp2
 go_loopw [5] (fun i wr => ∃ t : Nat, t ≤ n ∧ t ≤ m ∧ i = .int .i64 (t : Int) ∧ ordC xs ys = ordC (xs.drop t) (ys.drop t) ∧ Below w.heap.size w wr) (fun i _ => n - (intOf i).toNat)
 case atStart => exact ⟨0, by omega, by omega, rfl, rfl, Below.refl _ _⟩
 case round =>
  obtain ⟨t, htn, htm, rfl, hord, hbk⟩ := hrel
  have HO : Hid (ordC xs ys = ordC (xs.drop t) (ys.drop t)) := hord
  clear hord
  by_cases hin : t < n ∧ t < m
  ·obtain ⟨h1, h2⟩ := hin
   have h1' : (t : Int) < (n : Int) := by omega
   have h2' : (t : Int) < (m : Int) := by omega
   rcases rd_some ha with ⟨_, h0, _⟩ | ⟨ba, oa, rfl⟩
   ·omega
   rcases rd_some hb with ⟨_, h0, _⟩ | ⟨bb, ob, rfl⟩
   ·omega
   obtain ⟨ca0, cal⟩ := rd_cell ha t h1
   obtain ⟨cb0, cbl⟩ := rd_cell hb t h2
   have ca : wr.cell? ⟨ba, oa + t, none⟩ = some (.int .u8 ((xs.getD t 0 : Nat) : Int)) := by
    rw [hbk.cell (p := ⟨ba, oa + t, none⟩) (World.block_lt_of_cell? w _ ca0)]; exact ca0
   have cb : wr.cell? ⟨bb, ob + t, none⟩ = some (.int .u8 ((ys.getD t 0 : Nat) : Int)) := by
    rw [hbk.cell (p := ⟨bb, ob + t, none⟩) (World.block_lt_of_cell? w _ cb0)]; exact cb0
   have da := drop_cons xs t (by rw [← HN.out]; exact h1)
   have db := drop_cons ys t (by rw [← HM.out]; exact h2)
   obtain ⟨x, hx⟩ : ∃ x, x = xs.getD t 0 := ⟨_, rfl⟩
   obtain ⟨y, hy⟩ : ∃ y, y = ys.getD t 0 := ⟨_, rfl⟩
   rw [← hx] at ca cal da
   rw [← hy] at cb cbl db
   have HOO : Hid (ordC xs ys = if x < y then -1 else if y < x then 1 else ordC (xs.drop (t + 1)) (ys.drop (t + 1))) := by
    unfold Hid; rw [HO.out, da, db]; rfl
   clear hx hy da db ca0 cb0
   have ht0 : (0 : Int) ≤ (t : Int) := by omega
   by_cases hxy : x < y
   ·have hxy' : (x : Int) < (y : Int) := by omega
    have HR : Hid (ordC xs ys = -1) := by unfold Hid; rw [HOO.out, if_pos hxy]
    go_wp2
    go_quiet (fail)
    go_wp2
    go_ret
    rw [HR.out]
    exact ⟨rfl, below_drewN hbk _⟩
   ·have hxy' : (y : Int) ≤ (x : Int) := by omega
    by_cases hyx : y < x
    ·have hyx' : (y : Int) < (x : Int) := by omega
     have HR : Hid (ordC xs ys = 1) := by unfold Hid; rw [HOO.out, if_neg hxy, if_pos hyx]
     go_wp2
     go_quiet (fail)
     go_wp2
     go_quiet (fail)
     go_wp2
     go_ret
     rw [HR.out]
     exact ⟨rfl, below_drewN (below_drewN hbk _) _⟩
    ·have hyx' : (x : Int) ≤ (y : Int) := by omega
     have HR : Hid (ordC xs ys = ordC (xs.drop (t + 1)) (ys.drop (t + 1))) := by unfold Hid; rw [HOO.out, if_neg hxy, if_neg hyx]
     go_wp2
     go_quiet (fail)
     go_wp2
     go_quiet (fail)
     go_wp2
     go_roundw
     case rel => exact ⟨t + 1, by omega, by omega, by go_num, HR.out, below_drewN hbk _⟩
     case measure => simp [intOf]; omega
  ·have HR : Hid (ordC xs ys = if n < m then -1 else if m < n then 1 else 0) := by
    unfold Hid
    rw [HO.out]
    by_cases h1 : t < n
    ·have h2 : m = t := by
      by_cases h : t < m
      ·exact absurd ⟨h1, h⟩ hin
      ·omega
     have e1 : ys.drop t = [] := by rw [← h2, HM.out]; simp
     rw [e1, drop_cons xs t (by rw [← HN.out]; exact h1), if_neg (by omega), if_pos (by omega)]
     rfl
    ·have h1' : n = t := by omega
     have e1 : xs.drop t = [] := by rw [← h1', HN.out]; simp
     rw [e1]
     by_cases h2 : t < m
     ·rw [drop_cons ys t (by rw [← HM.out]; exact h2), if_pos (by omega)]
      rfl
     ·have e2 : ys.drop t = [] := by rw [show t = m by omega, HM.out]; simp
      rw [e2, if_neg (by omega), if_neg (by omega)]
      rfl
   by_cases h1 : t < n
   ·have h1' : (t : Int) < (n : Int) := by omega
    have h2' : (m : Int) ≤ (t : Int) := by
     by_cases h : t < m
     ·exact absurd ⟨h1, h⟩ hin
     ·omega
    have hR := HR.out
    rw [if_neg (by omega), if_pos (by omega)] at hR
    have HR2 : Hid (ordC xs ys = 1) := hR
    clear hR hin
    have hd2 : decide ((t : Int) < (m : Int)) = false := by simp; omega
    go_wp2_with fail
    refine (refNumber_any _ _ _).mono ?_
    rintro e w9 ⟨rfl, rfl⟩
    rw [show cmpI (n : Int) (m : Int) = 1 by unfold cmpI; rw [if_neg (by omega), if_pos (by omega)]]
    go_wp2
    go_ret
    rw [HR2.out]
    exact ⟨rfl, hbk⟩
   ·have h1' : (n : Int) ≤ (t : Int) := by omega
    have hd : decide ((t : Int) < (n : Int)) = false := by simp; omega
    clear hin
    by_cases hnm : n < m
    ·have hnm' : (n : Int) < (m : Int) := by omega
     have hR := HR.out
     rw [if_pos hnm] at hR
     have HR2 : Hid (ordC xs ys = -1) := hR
     clear hR
     go_wp2_with fail
     refine (refNumber_any _ _ _).mono ?_
     rintro e w9 ⟨rfl, rfl⟩
     rw [show cmpI (n : Int) (m : Int) = -1 by unfold cmpI; rw [if_pos (by omega)]]
     go_wp2
     go_ret
     rw [HR2.out]
     exact ⟨rfl, hbk⟩
    ·have hnm' : (m : Int) ≤ (n : Int) := by omega
     have hmn' : (n : Int) ≤ (m : Int) := by omega
     have hR := HR.out
     rw [if_neg hnm, if_neg (by omega)] at hR
     have HR2 : Hid (ordC xs ys = 0) := hR
     clear hR
     go_wp2_with fail
     refine (refNumber_any _ _ _).mono ?_
     rintro e w9 ⟨rfl, rfl⟩
     rw [show cmpI (n : Int) (m : Int) = 0 by unfold cmpI; rw [if_neg (by omega), if_neg (by omega)]]
     go_wp2
     go_ret
     rw [HR2.out]
     exact ⟨rfl, hbk⟩


end Go.Proofs.YtpabbnddeklpdaaGreat

namespace Go.Proofs.YtpabbnddeklpdaaGreat
open Go.RowKit
set_option linter.unusedVariables false

theorem append_keep {w : World} {B n m c : Nat} {v : Value} {xs bs : List Nat} (ty : TypeId) (hown : Own w B v n xs) (ad : Addr) (hm : m = bs.length) (hnews : ∀ j u, (bv bs)[j]? = some u → w.cell? (ad.add j) = some u) (hp : 0 < m) (hbytes : n + m ≤ 140737488355328) (hB : B ≤ w.heap.size) :
  ∃ v' w', (Builtin.append_ #[34, 34] ty #[v, .slice (some ad) m c]).run Tryz.prog w = .ok v' w' ∧ Own w' B v' (n + m) (xs ++ bs) ∧ w.grownBy w' v.ownBlock ∧ Own w' B v n xs ∧ (v'.ownBlock = v.ownBlock ∨ v'.ownBlock = some w.heap.size) := by
 obtain ⟨i0, hi, hz0, hz1, hz2⟩ := info_parts info_byte
 have hl : (bv bs).length = m * 1 := by simp [bv, hm]
 obtain ⟨v', w', hr, h2, h3, _⟩ := run_append_own (P := Tryz.prog) w B 34 ty 5 i0 (.int .u8 0) 1 1 und_bytes hi hz0 hz1 hz2 rfl (by decide) v n (bv xs) hown.2 ad m c (bv bs) hl hnews (bv_oneCell bs) (by unfold maxLen; omega) (by omega) hB
 have o2 : Own w' B v' (n + m) (xs ++ bs) := ⟨by rw [hown.1, hm]; simp, by simpa [bv] using h2⟩
 refine ⟨v', w', hr, o2, h3, ?_⟩
 rcases hown.2.2 with ⟨rfl, h0⟩ | ⟨g, cap, cur, rfl, hg1, hg2, hg3, hg4, hg5, hg6⟩
 ·have hx : xs = [] := List.eq_nil_of_length_eq_zero (by rw [← hown.1]; exact h0)
  subst hx h0
  have hr2 := run_append_nil (P := Tryz.prog) w 34 ty 5 i0 (.int .u8 0) und_bytes hi hz0 ad m c (bv bs) (by rw [hz1]; exact hl) hnews hp (by omega) (by rw [hz2]; omega)
  rw [hr] at hr2
  injection hr2 with e1 e2
  subst e1
  exact ⟨own_nil _ _, .inr rfl⟩
 ·by_cases hroom : n + m ≤ cap
  ·obtain ⟨w2, hr2, k2, _⟩ := run_append_own_spare (P := Tryz.prog) w B 34 ty 5 i0 1 und_bytes hi hz1 g n cap (bv xs) hown.2 ad m c (bv bs) hl hnews (bv_oneCell bs) hroom
   rw [hr] at hr2
   injection hr2 with e1 e2
   subst e1 e2
   refine ⟨⟨hown.1, hown.2.1, ?_⟩, .inl rfl⟩
   rcases o2.2.2 with ⟨h5, _⟩ | ⟨g2, cap2, cur2, h5, h6, h7, h8, h9, h10, h11⟩
   ·cases h5
   ·simp only [Value.slice.injEq, Option.some.injEq] at h5
    obtain ⟨e3, _, rfl⟩ := h5
    obtain rfl : g = g2 := by injection e3
    refine .inr ⟨g, cap, cur2, rfl, h6, h7, hg3, hg4, h10, ?_⟩
    have e4 : cur2.toList.take (n * 1) = (cur2.toList.take ((n + m) * 1)).take (n * 1) := by
     rw [List.take_take, Nat.min_eq_left (by omega)]
    rw [e4, h11, bv_append, List.take_append_of_le_length (by rw [bv_length, ← hown.1]; omega), List.take_of_length_le (by rw [bv_length, ← hown.1]; omega)]
  ·have holds : ∀ j u, (bv xs)[j]? = some u → w.cell? ((⟨g, 0, none⟩ : Addr).add j) = some u := hown.2.cells (g := g) rfl
   have hr2 := run_append_grow (P := Tryz.prog) w 34 ty 5 i0 (.int .u8 0) und_bytes hi hz0 ⟨g, 0, none⟩ n cap (bv xs) (by rw [hz1, bv_length, ← hown.1]; omega) holds ad m c (bv bs) (by rw [hz1]; exact hl) hnews (by omega) (by omega) (by rw [hz2]; exact growslice_fits (by omega) (by omega))
   rw [hr] at hr2
   injection hr2 with e1 e2
   subst e1
   refine ⟨?_, .inr rfl⟩
   refine ⟨hown.1, hown.2.1, .inr ⟨g, cap, cur, rfl, hg1, ?_, hg3, hg4, hg5, hg6⟩⟩
   rw [e2, heap_alloc_old w.drew _ (Array.getElem?_eq_some_iff.1 hg2).1]
   exact hg2


def Keeps (mk : Nat) (w w' : World) : Prop := ∀ p : Addr, w.cell? p = some (.int .u8 (mk : Int)) → w'.cell? p = some (.int .u8 (mk : Int))
theorem Keeps.trans {mk : Nat} {a b c : World} (h : Keeps mk a b) (k : Keeps mk b c) : Keeps mk a c := fun p hp => k p (h p hp)
theorem Keeps.alloc (mk : Nat) (w : World) (o : Obj) : Keeps mk w (w.alloc o) := fun p hp => by
 have hb : Below w.heap.size w (w.alloc o) := (Below.refl _ _).alloc (Nat.le_refl _) o
 rw [hb.cell (World.block_lt_of_cell? w _ hp)]; exact hp
theorem Keeps.below {mk : Nat} {w w' : World} (hb : Below w.heap.size w w') : Keeps mk w w' := fun p hp => by
 rw [hb.cell (World.block_lt_of_cell? w _ hp)]; exact hp
theorem grown_trans {a b c : World} {o p : Option Nat} (h : a.grownBy b o) (k : b.grownBy c p) (hp : p = o ∨ ∀ g, p = some g → a.heap.size ≤ g) : a.grownBy c o :=
 ⟨k.os.trans h.os, k.tape.trans h.tape, k.output.trans h.output, Nat.le_trans h.size k.size, fun i hi hne => by
  rw [k.block i (Nat.lt_of_lt_of_le hi h.size) ?_, h.block i hi hne]
  rcases hp with rfl | hp
  ·exact hne
  ·intro e
   have := hp i e.symm
   omega⟩
theorem grown_alloc (w : World) (o : Obj) (p : Option Nat) : w.grownBy (w.alloc o) p := ⟨rfl, rfl, rfl, by simp, fun k hk _ => by
 have hb : Below w.heap.size w (w.alloc o) := (Below.refl _ _).alloc (Nat.le_refl _) o
 exact hb.block k hk⟩
theorem append_marks {w w' : World} {B n m c mk : Nat} {v v' : Value} {xs : List Nat} (ty : TypeId) (hown : Own w B v n xs) (ad : Addr) (hnews : ∀ j u, (bv (List.replicate m mk))[j]? = some u → w.cell? (ad.add j) = some u) (hp : 0 < m) (hbytes : n + m ≤ 140737488355328)
  (hr : (Builtin.append_ #[34, 34] ty #[v, .slice (some ad) m c]).run Tryz.prog w = .ok v' w') : Keeps mk w w' := by
 obtain ⟨i0, hi, hz0, hz1, hz2⟩ := info_parts info_byte
 have hl : (bv (List.replicate m mk)).length = m * 1 := by simp [bv]
 rcases hown.2.2 with ⟨rfl, h0⟩ | ⟨g, cap, cur, rfl, hg1, hg2, hg3, hg4, hg5, hg6⟩
 ·have hx : xs = [] := List.eq_nil_of_length_eq_zero (by rw [← hown.1]; exact h0)
  subst hx h0
  have hr2 := run_append_nil (P := Tryz.prog) w 34 ty 5 i0 (.int .u8 0) und_bytes hi hz0 ad m c _ (by rw [hz1]; exact hl) hnews hp (by omega) (by rw [hz2]; omega)
  rw [hr] at hr2
  injection hr2 with e1 e2
  rw [e2]
  exact Keeps.below (((Below.refl w.heap.size w).drew).alloc (Nat.le_refl _) _)
 ·by_cases hroom : n + m ≤ cap
  ·have hfit : n * i0.size + (bv (List.replicate m mk)).length ≤ cur.size := by rw [hz1, hl, hg5]; omega
   have hr2 := run_append_room (P := Tryz.prog) w 34 ty 5 i0 und_bytes hi g n cap cur hg2 ad m c _ (by rw [hz1]; exact hl) hnews (bv_oneCell _) hroom hfit
   rw [hr] at hr2
   injection hr2 with e1 e2
   rw [e2]
   intro p hc
   obtain ⟨pb, po, ps⟩ := p
   obtain rfl : ps = none := World.cell?_spot hc
   by_cases hb : pb = g
   ·subst hb
    rw [cell_setRow_same w pb po cur _ _ _ hg2]
    have hcur : cur[po]? = some (.int .u8 (mk : Int)) := by simpa [World.cell?, hg2] using hc
    have hlt : po < cur.size := (Array.getElem?_eq_some_iff.1 hcur).1
    have hcl : cur.toList[po]? = some (.int .u8 (mk : Int)) := by simpa using hcur
    simp only [hz1, Nat.mul_one, List.getElem?_toArray, hl] at *
    by_cases h1 : po < n
    ·rw [List.append_assoc, List.getElem?_append_left (by simp; omega), List.getElem?_take_of_lt h1]
     exact hcl
    ·by_cases h2 : po < n + m
     ·rw [List.getElem?_append_left (by simp [bv]; omega), List.getElem?_append_right (by simp; omega)]
      have e : (List.take n cur.toList).length = n := by simp; omega
      rw [e]
      simp [bv, List.getElem?_replicate]
      omega
     ·rw [List.getElem?_append_right (by simp [bv]; omega), List.getElem?_drop]
      have e : n + m + (po - (List.take n cur.toList ++ bv (List.replicate m mk)).length) = po := by simp [bv]; omega
      rw [e]
      exact hcl
   ·rw [cell_setRow_other w g _ ⟨pb, po, none⟩ hb]
    exact hc
  ·have holds : ∀ j u, (bv xs)[j]? = some u → w.cell? ((⟨g, 0, none⟩ : Addr).add j) = some u := hown.2.cells (g := g) rfl
   have hr2 := run_append_grow (P := Tryz.prog) w 34 ty 5 i0 (.int .u8 0) und_bytes hi hz0 ⟨g, 0, none⟩ n cap (bv xs) (by rw [hz1, bv_length, ← hown.1]; omega) holds ad m c _ (by rw [hz1]; exact hl) hnews (by omega) (by omega) (by rw [hz2]; exact growslice_fits (by omega) (by omega))
   rw [hr] at hr2
   injection hr2 with e1 e2
   rw [e2]
   exact Keeps.below (((Below.refl w.heap.size w).drew).alloc (Nat.le_refl _) _)

theorem wpList_append_mark {w : World} {ops : Array Oper} {rest : List Oper} {o : Oper} {a : Act} {Q : Exit → Act → World → Prop} (hgd : o.guard = none) (s x : Operand)
  (ho : o.op = .call { callee := .builtin .append, args := #[s, x], argTypes := #[34, 34] })
  (B : Nat) (a0 : Option Addr) (m0 c0 mk : Nat) (acc : List Nat) (hs : a.eval s = .slice a0 m0 c0) (hown : Own w B (.slice a0 m0 c0) m0 acc)
  (vs : List Value) (m : Nat) (hx : a.eval x = .slice (some ⟨w.heap.size, 0, none⟩) m m) (hvs : vs = bv (List.replicate m mk)) (hp : 0 < m)
  (hbytes : m0 + m ≤ 140737488355328) (hB : B ≤ w.heap.size)
  (h : ∀ a' m' c' w', Hid (m' = m0 + m) → Own w' B (.slice a' m' c') m' (acc ++ List.replicate m mk) → w.grownBy w' (Value.slice a0 m0 c0).ownBlock → Own w' B (.slice a0 m0 c0) m0 acc → ((Value.slice a' m' c').ownBlock = (Value.slice a0 m0 c0).ownBlock ∨ ∀ g, (Value.slice a' m' c').ownBlock = some g → w.heap.size ≤ g) → Keeps mk w w' → wpList Tryz.prog ops Q rest (a.put o.dst (.slice a' m' c')) w') : wpList Tryz.prog ops Q (o :: rest) a (w.alloc (.cells vs.toArray 5)) := by
 subst hvs
 have ho2 : Own (w.alloc (.cells (bv (List.replicate m mk)).toArray 5)) B (.slice a0 m0 c0) m0 acc := ⟨hown.1, hown.2.alloc _⟩
 obtain ⟨v', w', hr, h1, h2, h3, h4⟩ := append_keep (w := w.alloc (.cells (bv (List.replicate m mk)).toArray 5)) (B := B) (c := m) (bs := List.replicate m mk) o.type ho2 ⟨w.heap.size, 0, none⟩ (by simp) (news_new _ _ _) hp hbytes (by simp; omega)
 have hk := append_marks o.type ho2 ⟨w.heap.size, 0, none⟩ (news_new _ _ _) hp hbytes hr
 obtain ⟨a', c', rfl⟩ := own_form h1.2
 refine wpList_plain hgd fun K hK => ?_
 unfold Oper.wp execOp
 simp only [ho, resolve, invoke, builtin, Sem.run_bind, Sem.run_pure, Result.andThen_ok, List.map_toArray, List.map_cons, List.map_nil, hs, hx, hr]
 refine hK _ _ (h a' _ c' w' (by unfold Hid; rfl) h1 (grown_trans (grown_alloc w _ _) h2 (.inl rfl)) h3 ?_ ((Keeps.alloc mk w _).trans hk))
 rcases h4 with h4 | h4
 ·exact .inl h4
 ·refine .inr fun g hg => ?_
  rw [h4] at hg
  simp at hg
  omega

end Go.Proofs.YtpabbnddeklpdaaGreat

namespace Go.Proofs.YtpabbnddeklpdaaGreat
open Go.RowKit
set_option linter.unusedVariables false

structure Fb (w w' : World) (O : Nat → Prop) : Prop where
 os : w'.os = w.os
 tape : w'.tape = w.tape
 output : w'.output = w.output
 size : w.heap.size ≤ w'.heap.size
 block : ∀ k, k < w.heap.size → ¬ O k → w'.heap[k]? = w.heap[k]?
theorem Fb.refl (w : World) (O : Nat → Prop) : Fb w w O := ⟨rfl, rfl, rfl, Nat.le_refl _, fun _ _ _ => rfl⟩
theorem Fb.trans {w w' w2 : World} {O : Nat → Prop} (h : Fb w w' O) (k : Fb w' w2 O) : Fb w w2 O := ⟨k.os.trans h.os, k.tape.trans h.tape, k.output.trans h.output, Nat.le_trans h.size k.size, fun i hi ho => (k.block i (Nat.lt_of_lt_of_le hi h.size) ho).trans (h.block i hi ho)⟩
theorem Fb.mono {w w' : World} {O O' : Nat → Prop} (h : Fb w w' O) (k : ∀ i, i < w.heap.size → O i → O' i) : Fb w w' O' := ⟨h.os, h.tape, h.output, h.size, fun i hi ho => h.block i hi (fun z => ho (k i hi z))⟩
theorem Fb.of_below {w w' : World} {O : Nat → Prop} (h : Below w.heap.size w w') : Fb w w' O := ⟨h.os, h.tape, h.output, h.size, fun i hi _ => h.block i hi⟩
theorem Fb.below {w w' : World} {O : Nat → Prop} {B : Nat} (h : Fb w w' O) (hB : B ≤ w.heap.size) (k : ∀ i, O i → B ≤ i) : Below B w w' := ⟨h.os, h.tape, h.output, h.size, fun i hi => h.block i (by omega) (fun z => by have := k i z; omega)⟩
theorem Fb.of_apart {w w' : World} {g : Nat} {O : Nat → Prop} (h : Apart g w w') (hg : O g) : Fb w w' O := ⟨h.os, h.tape, h.output, h.size, fun k hk ho => h.block k hk (fun z => ho (by rw [z]; exact hg))⟩
theorem Fb.belowB {w w' : World} {O : Nat → Prop} {B : Nat} (f : Fb w w' O) (h : ∀ k, O k → B ≤ k) (hB : B ≤ w.heap.size) : Below B w w' := ⟨f.os, f.tape, f.output, f.size, fun k hk => f.block k (by omega) (fun o => by have := h k o; omega)⟩
theorem Fb.set1 {w : World} {O : Nat → Prop} {g : Nat} (h : O g) (x : Value) : Fb w (w.setCell ⟨g, 0, none⟩ x) O := have b := (Below.refl g w).setCell (p := ⟨g, 0, none⟩) (Nat.le_refl _) x
 ⟨b.os, b.tape, b.output, b.size, fun k _ ho => Below.heap_setCell _ _ _ _ (by rintro rfl; exact ho h)⟩
theorem Fb.trans' {w w' w2 : World} {O O' : Nat → Prop} (h : Fb w w' O) (k : Fb w' w2 O') (hs : w.heap.size ≤ w'.heap.size) (m : ∀ i, i < w.heap.size → O' i → O i) : Fb w w2 O :=
 ⟨k.os.trans h.os, k.tape.trans h.tape, k.output.trans h.output, Nat.le_trans h.size k.size, fun i hi ho => (k.block i (by omega) (fun z => ho (m i hi z))).trans (h.block i hi ho)⟩
theorem Fb.cellF {w w' : World} {O : Nat → Prop} {p : Addr} {v : Value} (f : Fb w w' O) (hn : ¬ O p.block) (h : w.cell? p = some v) : w'.cell? p = some v := by
 rw [← h]
 unfold World.cell?
 rw [f.block p.block (World.block_lt_of_cell? _ _ h) hn]
end Go.Proofs.YtpabbnddeklpdaaGreat

namespace Go.Proofs.YtpabbnddeklpdaaGreat
open Go.RowKit
set_option linter.unusedVariables false

def MkL (w : World) (O : Nat → Prop) (v : Value) (m : Nat) : Prop :=
 ∃ a n c, v = .slice a n c ∧ n ≤ 140737488355328 ∧ (n = 0 ∨ ∃ b, a = some ⟨b, 0, none⟩ ∧ O b ∧ ∀ i, i < n → w.cell? ⟨b, i, none⟩ = some (.int .u8 (m : Int)))
theorem MkL.keep {w w' : World} {O O' : Nat → Prop} {v : Value} {m : Nat} (h : MkL w O v m) (k : ∀ b, O b → w'.heap[b]? = w.heap[b]?) (ho : ∀ b, O b → O' b) : MkL w' O' v m := by
 obtain ⟨a, n, c, rfl, hn, h0 | ⟨b, rfl, hb, hc⟩⟩ := h
 ·exact ⟨a, n, c, rfl, hn, .inl h0⟩
 ·refine ⟨_, n, c, rfl, hn, .inr ⟨b, rfl, ho b hb, fun i hi => ?_⟩⟩
  rw [← hc i hi]
  unfold World.cell?
  rw [k b hb]
theorem MkL.of_own {w : World} {B n c m : Nat} {a : Option Addr} {O : Nat → Prop} (h : Own w B (.slice a n c) n (List.replicate n m)) (hn : n ≤ 140737488355328) (ho : ∀ g, (Value.slice a n c).ownBlock = some g → O g) : MkL w O (.slice a n c) m := by
 refine ⟨a, n, c, rfl, hn, ?_⟩
 rcases h.2.2 with ⟨h1, h0⟩ | ⟨g, cap, cur, h1, _⟩
 ·exact .inl h0
 ·simp only [Value.slice.injEq] at h1
  obtain ⟨rfl, -, -⟩ := h1
  refine .inr ⟨g, rfl, ho g rfl, fun i hi => ?_⟩
  rw [h.2.cellAt i (by omega)]
  simp [bv, hi]
structure Fu (w : World) (g : Nat) (O : Nat → Prop) (aL : Option Addr) (nL cL : Nat) (aM : Option Addr) (cM N : Nat) (vs : List Value) (ms : List Nat) : Prop where
 box : w.heap[g]? = some (.cells #[.slice aL nL cL, .slice aM nL cM, .int .i64 (N : Int)] 36 (0, 0))
 row : w.ownsRow 0 34 1 (.slice aL nL cL) nL vs
 own : Own w 0 (.slice aM nL cM) nL ms
 len : vs.length = nL
 bys : Bys ms
 marks : ∀ (i : Nat) v m, vs[i]? = some v → ms[i]? = some m → MkL w O v m
 few : nL * 50 ≤ N ∧ N ≤ 20000000
 lo : ∀ k, O k → k < w.heap.size
 ng : ¬ O g
 nL_ : ∀ k, (Value.slice aL nL cL).ownBlock = some k → ¬ O k ∧ k ≠ g
 nM : ∀ k, (Value.slice aM nL cM).ownBlock = some k → ¬ O k ∧ k ≠ g ∧ (Value.slice aL nL cL).ownBlock ≠ some k
def FuB (w : World) (g : Nat) (FO : Nat → Prop) : Prop := ∃ O aL nL cL aM cM N vs ms, Fu w g O aL nL cL aM cM N vs ms ∧ (∀ k, FO k → k < w.heap.size) ∧ FO g ∧ (∀ k, O k → FO k) ∧ (∀ k, (Value.slice aL nL cL).ownBlock = some k → FO k) ∧ (∀ k, (Value.slice aM nL cM).ownBlock = some k → FO k)
theorem row_same {w w' : World} {B ty n k : Nat} {v : Value} {xs : List Value} (h : w.ownsRow B ty k v n xs) (hs : ∀ g, v.ownBlock = some g → w'.heap[g]? = w.heap[g]?) : w'.ownsRow B ty k v n xs := by
 refine ⟨h.1, ?_⟩
 rcases h.2 with h2 | ⟨g, cap, cur, h3, h4, h5, h6⟩
 ·exact .inl h2
 ·exact .inr ⟨g, cap, cur, h3, h4, by rw [hs g (by rw [h3]; rfl)]; exact h5, h6⟩
theorem FuB.kept {w w' : World} {g : Nat} {FO : Nat → Prop} (h : FuB w g FO) (hsz : w.heap.size ≤ w'.heap.size) (k : ∀ i, FO i → w'.heap[i]? = w.heap[i]?) : FuB w' g FO := by
 obtain ⟨O, aL, nL, cL, aM, cM, N, vs, ms, h, f1, f2, f3, f4, f5⟩ := h
 refine ⟨O, aL, nL, cL, aM, cM, N, vs, ms, ⟨by rw [k g f2]; exact h.box, row_same h.row (fun i hi => k i (f4 i hi)), ⟨h.own.1, row_same h.own.2 (fun i hi => k i (f5 i hi))⟩, h.len, h.bys, fun i v m h1 h2 => (h.marks i v m h1 h2).keep (fun b hb => k b (f3 b hb)) (fun _ x => x), h.few, fun i hi => Nat.lt_of_lt_of_le (h.lo i hi) hsz, h.ng, h.nL_, h.nM⟩, fun i hi => Nat.lt_of_lt_of_le (f1 i hi) hsz, f2, f3, f4, f5⟩
theorem FuB.later {w w' : World} {g : Nat} {FO : Nat → Prop} (h : FuB w g FO) (b : Below w.heap.size w w') : FuB w' g FO := by
 have h1 := h
 obtain ⟨O, aL, nL, cL, aM, cM, N, vs, ms, h0, f1, f2, f3, f4, f5⟩ := h1
 exact h.kept b.size (fun i hi => b.block i (f1 i hi))
theorem FuB.lt {w : World} {g : Nat} {FO : Nat → Prop} (h : FuB w g FO) : ∀ k, FO k → k < w.heap.size := by
 obtain ⟨O, aL, nL, cL, aM, cM, N, vs, ms, h0, f1, f2, f3, f4, f5⟩ := h
 exact f1
theorem Fu.cells {w : World} {g : Nat} {O : Nat → Prop} {aL : Option Addr} {nL cL : Nat} {aM : Option Addr} {cM N : Nat} {vs : List Value} {ms : List Nat} (h : Fu w g O aL nL cL aM cM N vs ms) :
  w.cell? ⟨g, 0, none⟩ = some (.slice aL nL cL) ∧ w.cell? ⟨g, 1, none⟩ = some (.slice aM nL cM) ∧ w.cell? ⟨g, 2, none⟩ = some (.int .i64 (N : Int)) := by
 have := h.box
 simp [World.cell?, this]
theorem Fu.fz {w : World} {g : Nat} {O : Nat → Prop} {aL : Option Addr} {nL cL : Nat} {aM : Option Addr} {cM N : Nat} {vs : List Value} {ms : List Nat} (h : Fu w g O aL nL cL aM cM N vs ms) (j : Nat) : w.frozen? ⟨g, j, none⟩ = false := by
 have := h.box
 simp [World.frozen?, this]
theorem fu_new {w : World} {g : Nat} (h : w.heap[g]? = some (.cells #[.slice none 0 0, .slice none 0 0, .int .i64 0] 36 (0, 0))) : FuB w g (fun k => k = g) := by
 refine ⟨fun _ => False, none, 0, 0, none, 0, 0, [], [], ⟨h, World.ownsRow_nil _ _ _ _, ⟨rfl, World.ownsRow_nil _ _ _ _⟩, rfl, fun x hx => (by cases hx), fun i v m h1 => (by cases h1), ⟨by omega, by omega⟩, fun k hk => hk.elim, id, fun k hk => (by cases hk), fun k hk => (by cases hk)⟩, fun k hk => ?_, rfl, fun k hk => hk.elim, fun k hk => (by cases hk), fun k hk => (by cases hk)⟩
 subst hk
 exact (Array.getElem?_eq_some_iff.1 h).1
end Go.Proofs.YtpabbnddeklpdaaGreat

namespace Go.Proofs.YtpabbnddeklpdaaGreat
open Go.RowKit
set_option linter.unusedVariables false

def Near (w : World) (l u : Value) : Prop := u.ownBlock = l.ownBlock ∨ ∀ g, u.ownBlock = some g → w.heap.size ≤ g
theorem Near.on {w w' : World} {l u v : Value} (h : Near w l u) (k : v.ownBlock = u.ownBlock ∨ ∀ g, v.ownBlock = some g → w'.heap.size ≤ g) (hs : w.heap.size ≤ w'.heap.size) : Near w l v := by
 rcases k with k | k
 ·rcases h with h | h
  ·exact .inl (k.trans h)
  ·exact .inr fun g hg => h g (by rw [← k]; exact hg)
 ·exact .inr fun g hg => Nat.le_trans hs (k g hg)
def Marked (w w' : World) (l : Value) (G mk : Nat) : Prop := w.heap.size ≤ G ∧ ∀ i, i < 4 → ∃ ai ki ci, w'.cell? ⟨G, i, none⟩ = some (.slice ai ki ci) ∧ Rd w' (.slice ai ki ci) (List.replicate ki mk) ∧ Near w l (.slice ai ki ci)

theorem bv_at (L : List Nat) (t : Nat) (h : t < L.length) : (bv L)[t]? = some (.int .u8 ((L.getD t 0 : Nat) : Int)) := by
 simp [bv, List.getD, List.getElem?_eq_getElem h]
theorem fill_set {mk t : Nat} {xs : List Nat} (h : t < xs.length) : (List.replicate t mk ++ xs.drop t).set t mk = List.replicate (t + 1) mk ++ xs.drop (t + 1) := by
 rw [List.set_append_right _ _ (by simp), drop_cons xs t h]
 simp [List.replicate_succ']

def FullL (w : World) (G mk : Nat) : Prop := ∀ i, i < 4 → ∃ ai ki ci, w.cell? ⟨G, i, none⟩ = some (.slice ai ki ci) ∧ Rd w (.slice ai ki ci) (List.replicate ki mk)
end Go.Proofs.YtpabbnddeklpdaaGreat
