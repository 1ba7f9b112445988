import Derived.Test.YtchebhafabhabaaGreatDoorK25
import Derived.Test.YtchebhafabhabaaGreatDoorRows
import Derived.ProofKit
import Derived.OpenShut
import Derived.Deep.DeepHandedRow
import Derived.Lib.LaidTab
import Derived.Deep.Slices
namespace Go.Proofs.YtchebhafabhabaaGreatDoor
open Go.RowKit Go.Shelf
set_option linter.unusedVariables false

theorem row_two {w : World} {B t : Nat} {v : Value} {n : Nat} {xs : List Value} (h : w.ownsRow B t 1 v n xs) (hn : n = 2) : ∃ g c p q, v = .slice (some ⟨g, 0, none⟩) 2 c ∧ B ≤ g ∧ xs = [p, q] ∧ w.cell? ⟨g, 0, none⟩ = some p ∧ w.cell? ⟨g, 1, none⟩ = some q := by
 subst hn
 have hl := h.1
 obtain ⟨p, q, rfl⟩ : ∃ p q, xs = [p, q] := by
  match xs, hl with
  | [p, q], _ => exact ⟨p, q, rfl⟩
 have h0 := h
 rcases h.2 with ⟨-, h2⟩ | ⟨g, cap, cur, rfl, h3, -⟩
 ·omega
 ·exact ⟨g, cap, p, q, rfl, h3, rfl, h0.cellAt 0 (by omega), h0.cellAt 1 (by omega)⟩
theorem Bd.to0 {w : World} {B g r : Nat} {s : Bs} {ve vp vl : Value} (h : Bd w B g r s ve vp vl) : Bd w 0 g r s ve vp vl := ⟨h.box, h.es.mono (Nat.zero_le _), h.ps.mono (Nat.zero_le _), h.la.mono (Nat.zero_le _), h.ep, h.el, h.pl, Nat.zero_le _, h.size, h.lal, h.few, h.byE, h.byP, h.byL⟩
theorem bui_of {w : World} {B g r : Nat} {s : Bs} {ve vp vl : Value} {J : Nat → Prop} (h : Bd w B g r s ve vp vl) (hJ : ∀ j, (B ≤ j ∧ j < w.heap.size) → J j) : BuI w J r s (.pointer (some ⟨g, 0, none⟩)) := by
 refine ⟨g, ve, vp, vl, rfl, h.to0, fun k hk => hJ k ?_⟩
 rcases hk with (hk | hk | hk) | hk
 ·rw [hk]; exact ⟨h.bg, (Array.getElem?_eq_some_iff.1 h.box).1⟩
 ·exact h.es.2.lt k hk
 ·exact h.ps.2.lt k hk
 ·exact h.la.2.lt k hk
theorem opx_of {w : World} {B g r b ne ce np cp : Nat} {zs : List EntD} {s : Bs} {J : Nat → Prop} (h : Lk w B g r (kvL zs).length b ne ce s.es s.ps np cp) (hs : s.es ≠ []) (hJ : ∀ j, (B ≤ j ∧ j < w.heap.size) → J j) : OpX w J r zs s (.pointer (some ⟨g, 0, none⟩)) :=
 ⟨g, b, ne, ce, np, cp, rfl, ⟨h.box, h.ents, h.pls, Nat.zero_le _, Nat.zero_le _, h.ne⟩, hJ g ⟨h.bg, (Array.getElem?_eq_some_iff.1 h.box).1⟩, hJ b ⟨h.bb, World.block_lt_of_cell? _ _ (rd_cell h.ents 0 (by rw [(rd_lens h.ents).1]; exact List.length_pos_iff.2 hs)).1⟩⟩
theorem LU.es_ {U : World} {b4 b5 r m c na ca : Nat} {a aa : Option Addr} {zs : List EntD} {s : Bs} (h : LU U b4 b5 r m c na ca a aa zs s) : s.es ≠ [] := by
 intro e
 have := h.la.few
 rw [e] at this
 exact h.la.some_ (List.eq_nil_of_length_eq_zero (by simpa using this))
theorem lent_open {X : World} {b4 b5 r m c na ca : Nat} {a aa : Option Addr} {zs : List EntD} {s : Bs} (h : LU X b4 b5 r m c na ca a aa zs s) :
  Calls Tryz.prog 25 #[.slice aa na ca] X fun z w' => ∃ g b ne ce np cp, z = .returned (.tuple #[.pointer (some ⟨g, 0, none⟩), .int .i64 0]) ∧ Lk w' X.heap.size g r (kvL zs).length b ne ce s.es s.ps np cp ∧ Below X.heap.size X w' := by
 obtain ⟨o1, o2, o3, o4, o5⟩ := h.la.opens
 have hl : (kvL zs).length = m := by rw [kvL_len, h.hm]
 refine (open_any h.all h.tab).mono ?_
 rintro z w' ⟨b1, h1⟩
 rw [← hl] at h1
 rcases h1 with ⟨k, -⟩ | ⟨-, g, b, ne, ce, np, cp, rfl, hk⟩
 ·exact absurd o1 k
 ·rw [o2, o3, o4, o5] at hk
  exact ⟨g, b, ne, ce, np, cp, rfl, hk, b1⟩
theorem lv_of {V1 V : World} {r nb nx gk b8 gb cb gx cx i : Nat} {zs : List EntD} {s : Bs} {ps xs : List Value} {p x : Value} {J : Nat → Prop} (h : L1S V1 V r zs s (.slice (some ⟨gb, 0, none⟩) nb cb) (.slice (some ⟨gx, 0, none⟩) nx cx) nb nx ps xs J) (c8 : Cell1B V1 b8 (.pointer (some ⟨gk, 0, none⟩)) 81) (n8 : b8 ≠ gk) (hg : gk < V1.heap.size) (hp : p ∈ ps) (hx : x ∈ xs) (h1 : V.cell? ⟨gb, i, none⟩ = some p) (h2 : V.cell? ⟨gx, i, none⟩ = some x) :
  ∃ q x' b ne ce np cp ve vp vl, LV V b8 gk gb cb gx cx i q x' r b ne ce np cp zs s ve vp vl := by
 obtain ⟨q, ve, vp, vl, rfl, hb, hJ⟩ := h.ib p hp
 obtain ⟨x', b, ne, ce, np, cp, rfl, hk, j1, j2⟩ := h.ix x hx
 refine ⟨q, x', b, ne, ce, np, cp, ve, vp, vl, c8.later h.bel, h1, h2, hb, hk, n8, ?_, ?_, fun k hk => ?_, ?_, ?_⟩
 ·have := (h.rb.lt gb rfl).1; omega
 ·have := (h.rx.lt gx rfl).1; omega
 ·have := (h.lo k (hJ k hk)).1; omega
 ·have := (h.lo _ j1).1; omega
 ·have := (h.lo _ j2).1; omega
set_option maxRecDepth 100000 in
set_option maxHeartbeats 8000000 in
theorem lent_first {X : World} {B b4 b5 r m c : Nat} {a : Option Addr} {zs : List EntD} {Q : Exit → Act → World → Prop} {s1 s2 s3 s6 s7 s8 s9 s10 s11 s12 s13 s14 s15 s16 s17 s18 s19 s20 s21 s22 s23 s24 s25 s26 s27 s28 s29 s30 s31 s32 s33 s34 s35 s36 s37 s38 s39 s40 s41 s42 s43 s44 s45 s46 s47 s48 s49 s50 s51 s52 s53 s54 s55 s56 s57 s58 s59 s60 s61 s62 s63 s64 s65 s66 s67 s68 s69 s70 s71 s72 s73 s74 s75 s76 s77 s78 s79 s80 s81 s82 s83 s84 s85 s86 s87 s88 s89 s90 s91 s92 s93 s94 s95 s96 s97 s98 s99 s100 s101 s102 s103 s104 s105 s106 s107 s108 s109 s110 s111 s112 s113 s114 s115 s116 s117 s118 s119 s120 s121 s122 s123 s124 s125 s126 s127 s128 s129 s130 s131 s132 s133 s134 s135 s136 s137 s138 s139 s140 s141 s142 s143 s144 s145 s146 s147 s148 s149 s150 s151 s152 s153 s154 s155 s156 s157 s158 s159 s160 s161 s162 s163 s164 s165 s166 s167 s168 s169 s170 s171 s172 s173 s174 s175 s176 s177 s178 s179 s180 s181 s182 s183 s184 s185 s186 s187 s188 s189 s190 s191 s192 s193 s194 s195 s196 s197 s198 s199 s200 s201 s202 s203 s204 s205 s206 s207 s208 s209 s210 s211 s212 s213 s214 s215 s216 s217 s218 s219 s220 s221 s222 s223 s224 s225 s226 s227 s228 s229 s230 s231 s232 s233 s234 s235 s236 s237 s238 s239 s240 s241 s242 s243 s244 s245 s246 s247 s248 s249 s250 s251 : Value}
  (ht : Tab X) (hc4 : Cell1B X b4 (.bool false) 4) (hc5 : Cell1B X b5 (.slice a m c) 22) (hrd : RdL5 X a c zs) (hm : zs.length = m) (hck : ∀ e ∈ zs, checkS e = 0) (hne : zs ≠ []) (hlen : m ≤ 80) (hr1 : 1 ≤ r) (hr16 : r ≤ 16) (hB : B ≤ b4)
  (hQ : ∀ (A : Array Value) (Ds' : List Nat) (Z : World), A[4]? = some (.pointer (some ⟨b4, 0, none⟩)) → Cell1B Z b4 (.bool true) 4 → Below B X Z → Ds'.Nodup → (∀ D ∈ Ds', X.heap.size ≤ D ∧ Z.heap[D]? = some (.deferred (some []))) → Q .ret { tmps := A, defers := Ds'.map mkD5 } Z) :
  (nthC 4 ((Tryz.f6).body.getD .skip)).wp Tryz.prog Q { tmps := #[.int .i64 (r : Int), s1, s2, s3, .pointer (some ⟨b4, 0, none⟩), .pointer (some ⟨b5, 0, none⟩), s6, s7, s8, s9, s10, s11, s12, s13, s14, s15, s16, s17, s18, s19, s20, s21, s22, s23, s24, s25, s26, s27, s28, s29, s30, s31, s32, s33, s34, s35, s36, s37, s38, s39, s40, s41, s42, s43, s44, s45, s46, s47, s48, s49, s50, s51, s52, s53, s54, s55, s56, s57, s58, s59, s60, s61, s62, s63, s64, s65, s66, s67, s68, s69, s70, s71, s72, s73, s74, s75, s76, s77, s78, s79, s80, s81, s82, s83, s84, s85, s86, s87, s88, s89, s90, s91, s92, s93, s94, s95, s96, s97, s98, s99, s100, s101, s102, s103, s104, s105, s106, s107, s108, s109, s110, s111, s112, s113, s114, s115, s116, s117, s118, s119, s120, s121, s122, s123, s124, s125, s126, s127, s128, s129, s130, s131, s132, s133, s134, s135, s136, s137, s138, s139, s140, s141, s142, s143, s144, s145, s146, s147, s148, s149, s150, s151, s152, s153, s154, s155, s156, s157, s158, s159, s160, s161, s162, s163, s164, s165, s166, s167, s168, s169, s170, s171, s172, s173, s174, s175, s176, s177, s178, s179, s180, s181, s182, s183, s184, s185, s186, s187, s188, s189, s190, s191, s192, s193, s194, s195, s196, s197, s198, s199, s200, s201, s202, s203, s204, s205, s206, s207, s208, s209, s210, s211, s212, s213, s214, s215, s216, s217, s218, s219, s220, s221, s222, s223, s224, s225, s226, s227, s228, s229, s230, s231, s232, s233, s234, s235, s236, s237, s238, s239, s240, s241, s242, s243, s244, s245, s246, s247, s248, s249, s250, s251], defers := [] } X := by
 have HQ := Lib.hid hQ
 have hb4 : b4 < X.heap.size := hc4.lt
 have HRb := Lib.hid (refBuild5_any hrd hr1 hr16 (by omega))
 rw [hm] at HRb
 have HX := Lib.hid (And.intro ht (And.intro hc4 (And.intro hc5 (And.intro hrd (And.intro hck hm)))))
 have wc := hc5.cell
 clear hQ ht hc4 hc5 hrd hm hck
 show Code.wp _ (Code.seq _ _) _ _ _
 go_wp2_with fail
 refine HRb.out.mono ?_
 rintro z Y ⟨bY, a1, m1, c1, E, rfl, hA, -, hC⟩
 by_cases h0 : (bldS r Bs.zero zs).1 = 0
 case neg =>
  as_aux_lemma =>
   have hE : ¬ E = 0 := by rw [(hA h0).1]; exact h0
   have hE1 : ¬ (E : Int) = 0 := by omega
   have hE2 : ((E : Int) == 0) = false := by simp; omega
   have hE3 : ((E : Int) != 0) = true := by simp; omega
   have HTo := Lib.hid (told5_any Y (HX.out.1.later bY))
   have HBY := Lib.hid bY
   clear hA hC h0 HRb wc bY
   go_wp2_with fail
   refine HTo.out.mono ?_
   rintro z Z ⟨rfl, bZ⟩
   have b2 := HBY.out.trans (bZ.mono HBY.out.size)
   have c4 := HX.out.2.1.later b2
   have rc := c4.cell
   have rf := c4.fz
   have HEnd : Hid (Cell1B (Z.setCell ⟨b4, 0, none⟩ (.bool true)) b4 (.bool true) 4 ∧ Below B X (Z.setCell ⟨b4, 0, none⟩ (.bool true))) := ⟨c4.set _, (b2.mono (by omega)).setCell (p := ⟨b4, 0, none⟩) (by show B ≤ b4; exact hB) (.bool true)⟩
   clear HTo bZ b2 c4
   go_wp2
   exact HQ.out _ [] _ rfl HEnd.out.1 HEnd.out.2 List.nodup_nil (fun D h => (List.not_mem_nil h).elim)
 obtain ⟨rfl, o1⟩ := hC h0 hne
 obtain ⟨s, hs⟩ : ∃ s, s = (bldS r Bs.zero zs).2 := ⟨_, rfl⟩
 have hla : Blad r (kvL zs) s.es s.ps := by rw [hs]; exact laid_of hr1 hr16 h0 hne
 have hbd : bldS r Bs.zero zs = (0, s) := by rw [hs]; exact Prod.ext h0 rfl
 rw [← hs, HX.out.2.2.2.2.2] at o1
 have hby : Bys (blockL s.es s.ps m r) := by
  have := hla.bys (HX.out.2.2.2.1.bys HX.out.2.2.2.2.1)
  rwa [kvL_len, HX.out.2.2.2.2.2] at this
 have hl1 : m1 = (blockL s.es s.ps m r).length := o1.1
 have hlb : (blockL s.es s.ps m r).length ≤ 131072 := by rw [blockL_len]; exact hla.size
 have hu : LU Y b4 b5 r m c m1 c1 a a1 zs s := ⟨HX.out.1.later bY, HX.out.2.1.later bY, HX.out.2.2.1.later bY, HX.out.2.2.2.1.later bY, HX.out.2.2.2.2.2, HX.out.2.2.2.2.1, hla, hbd, hlen, o1.rd hby (by omega)⟩
 obtain ⟨V1, hV1, bV1, sV1, hKt, c8⟩ : ∃ V1, V1 = (Y.alloc (.cells #[.slice none 0 0, .slice none 0 0] 83)).alloc (.cells #[.pointer (some ⟨Y.heap.size, 0, none⟩)] 81) ∧ Below Y.heap.size Y V1 ∧ V1.heap.size = Y.heap.size + 2 ∧ V1.heap[Y.heap.size]? = some (.cells #[.slice none 0 0, .slice none 0 0] 83 (0, 0)) ∧ Cell1B V1 (Y.heap.size + 1) (.pointer (some ⟨Y.heap.size, 0, none⟩)) 81 := by
  refine ⟨_, rfl, ((Below.refl Y.heap.size Y).alloc (Nat.le_refl _) _).alloc (by simp) _, by simp, (Below.heap_alloc _ _ _ (by simp)).trans (World.alloc_heap_new Y _), ?_⟩
  have := heap_alloc_new (Y.alloc (.cells #[.slice none 0 0, .slice none 0 0] 83)) (.cells #[.pointer (some ⟨Y.heap.size, 0, none⟩)] 81)
  rwa [World.size_alloc] at this
 have HV1 := Lib.hid hV1
 have HU := Lib.hid hu
 have HUv := Lib.hid (hu.later bV1)
 have HB1 := Lib.hid bV1
 have HKt := Lib.hid hKt
 have HC8 := Lib.hid c8
 have HBY := Lib.hid bY
 have HS1 := Lib.hid sV1
 clear hA hC h0 o1 hs hla hbd hby hl1 hlb hu hV1 bV1 sV1 hKt c8 HRb wc bY hb4
 go_wp2_with fail
 rw [← HV1.out]
 clear HV1
 rename_i K0 hK0
 have HK0 := Lib.hid hK0
 clear hK0
 have hgkV : Y.heap.size < V1.heap.size := by have := HS1.out; omega
 go_loopw [9, 10, 11, 12, 13, 14, 15, 16] (fun vb vx iv _ _ _ _ _ wr => ∃ (t : Nat) (ab ax : Option Addr) (cb cx : Nat), t ≤ 2 ∧ vb = .slice ab t cb ∧ vx = .slice ax t cx ∧ iv = .int .i64 (t : Int) ∧ Hid (∃ ps xs J, L1S V1 wr r zs s (.slice ab t cb) (.slice ax t cx) t t ps xs J)) (fun _ _ iv _ _ _ _ _ _ => 2 - (intOf iv).toNat)
 case atStart => exact ⟨0, none, none, 0, 0, by omega, rfl, rfl, rfl, _, _, _, l1s_nil⟩
 case round =>
  obtain ⟨t, ab, ax, cb, cx, ht2, rfl, rfl, rfl, HL⟩ := hrel
  by_cases hlt : t < 2
  case neg =>
   as_aux_lemma =>
    obtain rfl : t = 2 := by omega
    obtain ⟨ps, xs, J, hl⟩ := HL.out
    obtain ⟨gb, cb', p1, p2, e1, lo1, rfl, c1', c2'⟩ := row_two hl.rb rfl
    cases e1
    obtain ⟨gx, cx', x1, x2, e2, lo2, rfl, d1', d2'⟩ := row_two hl.rx rfl
    cases e2
    obtain ⟨q, x', b, ne, ce, np, cp, ve, vp, vl, lv0⟩ := lv_of hl HC8.out (by omega) hgkV (by simp) (by simp) c1' d1'
    obtain ⟨q2, x2', b2, ne2, ce2, np2, cp2, ve2, vp2, vl2, lv1⟩ := lv_of hl HC8.out (by omega) hgkV (by simp) (by simp) c2' d2'
    have hbl := hl.bel
    have hB1 := HB1.out
    have bV := hB1.trans (hbl.mono hB1.size)
    have HGo := Lib.hid (And.intro bV (And.intro lv0 (And.intro lv1 ((bkb_new HKt.out).later hbl))))
    have hsz : Y.heap.size < wr.heap.size := by have := hbl.size; omega
    have hX4 := HX.out.2.1.lt
    have hXY := HBY.out.size
    clear hl c1' c2' d1' d2' lv0 lv1 hbl bV hB1 HL
    go_wp2
    refine HK0.out _ _ ?_
    refine wpIn_wide.1 (lent_two HU.out rfl HGo.out.1 HGo.out.2.1 HGo.out.2.2.1 HGo.out.2.2.2 hsz hB (by omega) ?_)
    intro A Ds' Z k1 k2 k3 k4 k5
    have hYX := HBY.out.mono (show B ≤ X.heap.size by omega)
    exact HQ.out A Ds' Z k1 k2 (hYX.trans k3) k4 (fun D hD => ⟨by have := (k5 D hD).1; omega, (k5 D hD).2⟩)
  obtain ⟨wo, hwo⟩ : ∃ wo, wo = wr := ⟨_, rfl⟩
  subst hwo
  have hlt2 : (t : Int) < 2 := by omega
  have hlt3 : decide ((t : Int) < 2) = true := by simp; omega
  have hlt4 : decide (t < 2) = true := by simp; omega
  obtain ⟨ps, xs, J, hl⟩ := HL.out
  have HBg := Lib.hid (begin_any (r : Int) wo)
  have HL1 := Lib.hid hl
  clear hl HL
  go_wp2_with fail
  refine HBg.out.mono ?_
  rintro z W1 ⟨b1, h | ⟨-, g, hg, rfl, hbx⟩⟩
  ·exact absurd ⟨by omega, by omega⟩ h.1
  have HAd : Hid (AdI wo W1 g r zs 0) := ⟨Bs.zero, _, _, _, bd_zero hbx hg, by rw [List.take_zero]; rfl, b1⟩
  have hVw : V1.heap.size ≤ wo.heap.size := HL1.out.bel.size
  clear b1 hbx hg HBg
  go_wp2_with fail
  rename_i K1 hK1
  have HK1 := Lib.hid hK1
  clear hK1
  go_loopw [14] (fun cv wx => ∃ k : Nat, k ≤ m ∧ cv = .int .i64 (k : Int) ∧ Hid (AdI wo wx g r zs k)) (fun cv _ => m - (intOf cv).toNat)
  case atStart => exact ⟨0, by omega, rfl, HAd.out⟩
  case round =>
   obtain ⟨k, hkm, rfl, HA⟩ := hrel
   obtain ⟨wx, hwx⟩ : ∃ wx, wx = wr := ⟨_, rfl⟩
   subst hwx
   have bwx : Below wo.heap.size wo wx := by obtain ⟨_, _, _, _, _, _, h⟩ := HA.out; exact h
   have bVx : Below V1.heap.size V1 wx := HL1.out.bel.trans (bwx.mono hVw)
   have hux := HUv.out.later bVx
   have huo := HUv.out.later HL1.out.bel
   have wc := hux.c5.cell
   have HBx := Lib.hid (And.intro bwx bVx)
   have HUx := Lib.hid hux
   by_cases hk : k < m
   case pos =>
    as_aux_lemma =>
     have hk1 : (k : Int) < (m : Int) := by omega
     have hk2 : decide ((k : Int) < (m : Int)) = true := by simp; omega
     have hk3 : decide (k < m) = true := by simp; omega
     have hk0 : (0 : Int) ≤ (k : Int) := by omega
     have hkz : k < zs.length := by rw [hux.hm]; exact hk
     obtain ⟨e, he⟩ : ∃ e, zs[k]? = some e := ⟨_, List.getElem?_eq_getElem hkz⟩
     obtain ⟨bz, oz, rfl, e0, e1, e2, e3, e4, e5, e6⟩ := hux.rd.cel he
     have HAdd := Lib.hid (HA.out.adds ⟨hr1, hr16⟩ he (huo.rd.ok e (List.mem_of_getElem? he)) huo.bd)
     unfold EntD.cells at HAdd
     clear hux huo bwx bVx he hkz HA
     go_wp2_with fail
     refine HAdd.out.mono ?_
     rintro z wy ⟨rfl, h2⟩
     have HNx := Lib.hid h2
     clear h2 HAdd e0 e1 e2 e3 e4 e5 e6 wc
     go_wp2
     go_roundw
     case rel => exact ⟨k + 1, by omega, by go_num, HNx.out⟩
     case measure => simp [intOf] <;> omega
   have hk1 : ¬ (k : Int) < (m : Int) := by omega
   have hk2 : decide ((k : Int) < (m : Int)) = false := by simp; omega
   have hk3 : decide (k < m) = false := by simp; omega
   obtain ⟨s', ve, vp, vl, hbd', hb', -⟩ := HA.out
   obtain rfl : s = s' := by
    rw [List.take_of_length_le (by rw [hux.hm]; omega), huo.bd] at hb'
    exact (Prod.mk.inj hb').2
   have HOp := Lib.hid (lent_open hux)
   have HBd := Lib.hid hbd'
   clear hux huo bwx bVx HA hbd' hb'
   go_wp2
   refine HK1.out _ _ ?_
   clear HK1 wc
   go_wp2_with fail
   refine HOp.out.mono ?_
   rintro z W2 ⟨g2, b2, ne, ce, np, cp, rfl, hk2', b2'⟩
   have bo2 : Below wo.heap.size wo W2 := HBx.out.1.trans (b2'.mono HBx.out.1.size)
   have hro : ∀ j, (Value.slice ab t cb).ownBlock = some j ∨ (Value.slice ax t cx).ownBlock = some j → j < wo.heap.size := fun j hj => by
    rcases hj with hj | hj
    ·exact (HL1.out.rb.lt j hj).2
    ·exact (HL1.out.rx.lt j hj).2
   have hl2 := (HL1.out.later bo2).more hVw hro
   have hbu : BuI W2 (fun j => J j ∨ (wo.heap.size ≤ j ∧ j < W2.heap.size)) r s (.pointer (some ⟨g, 0, none⟩)) := bui_of (HBd.out.later b2') (fun j h => .inr h)
   have hox : OpX W2 (fun j => J j ∨ (wo.heap.size ≤ j ∧ j < W2.heap.size)) r zs s (.pointer (some ⟨g2, 0, none⟩)) := opx_of hk2' HUx.out.es_ (fun j h => .inr ⟨by have := HBx.out.1.size; omega, h.2⟩)
   have bA := (Below.refl W2.heap.size W2).alloc (Nat.le_refl _) (.cells #[.pointer (some ⟨g, 0, none⟩)] 25)
   have hcA : (W2.alloc (.cells #[.pointer (some ⟨g, 0, none⟩)] 25)).cell? ⟨W2.heap.size, 0, none⟩ = some (.pointer (some ⟨g, 0, none⟩)) := Cell1B.cell (t := 25) (heap_alloc_new W2 _)
   have HA5 := Lib.hid (hl2.later bA)
   have HBu5 := Lib.hid (hbu.fb (O := fun _ => False) (Fb.of_below bA) (fun _ _ h => h))
   have HOx5 := Lib.hid (hox.fb (O := fun _ => False) (Fb.of_below bA) (fun _ _ h => h))
   have HcA := Lib.hid hcA
   clear bo2 hro hl2 hbu hox hk2' b2' bA hcA HOp HBd HBx HUx
   go_upto_region 28 with (at_builtin; refine wpl_append1 rfl _ _ 25 84 8 (.pointer none) und_bptrs info_bptrs rfl (by omega) rfl V1.heap.size ab t cb ps rfl HA5.out.rb _ _ rfl HcA.out rfl (by omega) HA5.out.bel.size ?_; intro a6 c6 X6 r6 g6 l6)
   have HA6 := Lib.hid (HA5.out.pushB HBu5.out g6 r6 l6)
   have HOx6 := Lib.hid (HOx5.out.fb (Fb.of_grown (O := fun k => (Value.slice ab t cb).ownBlock = some k) g6 (fun i e => e)) (fun k hk e => HA5.out.nb_ k e hk))
   have bB := (Below.refl X6.heap.size X6).alloc (Nat.le_refl _) (.cells #[.pointer (some ⟨g2, 0, none⟩)] 58)
   have hcB : (X6.alloc (.cells #[.pointer (some ⟨g2, 0, none⟩)] 58)).cell? ⟨X6.heap.size, 0, none⟩ = some (.pointer (some ⟨g2, 0, none⟩)) := Cell1B.cell (t := 58) (heap_alloc_new X6 _)
   have HA7 := Lib.hid (HA6.out.later bB)
   have HOx7 := Lib.hid (HOx6.out.fb (O := fun _ => False) (Fb.of_below bB) (fun _ _ h => h))
   have HcB := Lib.hid hcB
   clear r6 g6 l6 HA5 HBu5 HOx5 HcA HA6 HOx6 bB hcB
   go_upto_region 15 with (at_builtin; refine wpl_append1 rfl _ _ 58 74 8 (.pointer none) und_ptrs info_ptrs rfl (by omega) rfl V1.heap.size ax t cx xs rfl HA7.out.rx _ _ rfl HcB.out rfl (by omega) HA7.out.bel.size ?_; intro a8 c8 X8 r8 g8 l8)
   have HS : Hid (∃ ps xs J, L1S V1 X8 r zs s (.slice a6 (t + 1) c6) (.slice a8 (t + 1) c8) (t + 1) (t + 1) ps xs J) := ⟨_, _, _, HA7.out.pushX HOx7.out g8 r8 l8⟩
   clear r8 g8 l8 HA7 HOx7 HcB
   go_wp2
   go_roundw
   case rel => exact ⟨t + 1, a6, a8, c6, c8, by omega, rfl, rfl, by go_num, HS.out⟩
   case measure => simp [intOf] <;> omega
end Go.Proofs.YtchebhafabhabaaGreatDoor

namespace Go.Proofs.YtchebhafabhabaaGreatDoor
open Go.RowKit Go.Shelf
set_option linter.unusedVariables false

structure Shut5 (B : Nat) (w w' : World) : Prop where
 below : Below B w w'
 cells : ∀ (i : Nat) (o : Obj), w.heap[i]? = some o → o.isCells = true → w'.heap[i]? = some o
theorem leaves_marks5 {fn : Func} {tmps : Array Value} {R : Ending → World → Prop} {n B : Nat} : ∀ (Ds : List Nat) (w : World), B ≤ w.heap.size → (Ds.Nodup ∧ ∀ D ∈ Ds, B ≤ D ∧ w.heap[D]? = some (.deferred (some []))) →
  (∀ w', Shut5 B w w' → LeavesIn Fence.wide n Tryz.prog fn tmps R [] .returning w') → LeavesInM Fence.wide n Tryz.prog fn tmps R (Ds.map mkD5) .returning w
 | [], w, _, _, h => h w ⟨Below.refl _ _, fun _ _ h _ => h⟩
 | D :: Ds, w, hB, ⟨hnd, hm⟩, h => by
  have hD := hm D (by simp)
  have hlt := (Array.getElem?_eq_some_iff.1 hD.2).1
  refine ⟨by simp, .inl ⟨D, _, rfl, run_takeDeferred hD.2, ?_⟩⟩
  refine leaves_marks5 Ds _ (by simpa using hB) ⟨(List.nodup_cons.1 hnd).2, fun E hE => ?_⟩ fun w' hs => h w' ?_
  ·have := hm E (by simp [hE])
   refine ⟨this.1, ?_⟩
   rw [World.putObj_heap_other (fun e => (List.nodup_cons.1 hnd).1 (by rw [← e]; exact hE))]
   exact this.2
  ·have b0 : Below B w (w.putObj D (.deferred none)) := ⟨rfl, rfl, rfl, by simp, fun k hk => World.putObj_heap_other (by omega)⟩
   refine ⟨b0.trans hs.below, fun i o hi ho => hs.cells i o ?_ ho⟩
   rw [World.putObj_heap_other (fun e => by subst e; rw [hi] at hD; have := hD.2; cases this; cases ho)]
   exact hi
theorem Rd.box {w w' : World} {v : Value} {bs : List Nat} {g t m' c' : Nat} {a' : Option Addr} (h : Rd w v bs) (hC : Cell1B w g (.slice a' m' c') t) (f : Fb w w' (fun k => k = g)) : Rd w' v bs := by
 obtain ⟨h1, a, cap, rfl, h3, h4, h5, h6, h7⟩ := h
 refine ⟨h1, a, cap, rfl, h3, h4, h5, h6, ?_⟩
 rcases h7 with h7 | ⟨b, off, rfl, hc⟩
 ·exact .inl h7
 ·refine .inr ⟨b, off, rfl, fun i hi => ?_⟩
  have h0 := hc i hi
  have hb := World.block_lt_of_cell? _ _ h0
  have hne : ¬ b = g := by
   intro e
   subst e
   unfold Cell1B at hC
   simp only [World.cell?, hC] at h0
   rcases Nat.eq_zero_or_pos (off + i) with k | k
   ·rw [k] at h0; simp at h0
   ·obtain ⟨j, hj⟩ : ∃ j, off + i = j + 1 := ⟨off + i - 1, by omega⟩
    rw [hj] at h0
    simp at h0
  rw [← h0]
  unfold World.cell?
  rw [f.block b hb hne]
theorem RdL5.box {w w' : World} {a : Option Addr} {c : Nat} {l : List EntD} {g t m' c' : Nat} {a' : Option Addr} (h : RdL5 w a c l) (hC : Cell1B w g (.slice a' m' c') t) (f : Fb w w' (fun k => k = g)) (ha : ∀ k, adB a k → ¬ k = g) : RdL5 w' a c l := by
 refine ⟨h.cap, ?_, fun x hx => ⟨(h.ok x hx).1.box hC f, (h.ok x hx).2.1.box hC f, (h.ok x hx).2.2.box hC f⟩, h.nn⟩
 rcases h.at_ with h1 | ⟨b, off, rfl, hc⟩
 ·exact .inl h1
 ·refine .inr ⟨b, off, rfl, fun i x hi j u hj => ?_⟩
  have h0 := hc i x hi j u hj
  have hb := World.block_lt_of_cell? _ _ h0
  rw [← h0]
  unfold World.cell?
  rw [f.block b hb (ha b ⟨_, rfl, rfl⟩)]
set_option maxRecDepth 100000 in
theorem wp_build_three5 {a : Act} {w : World} {K : Act → World → Prop} {Q : Exit → Act → World → Prop} {p q r : Nat} {d : Option Nat} {ps : String} {af : Array Edge} {a1 aq1 av1 a2 aq2 av2 a3 aq3 av3 : Option Addr} {k1 c1 kq1 cq1 kv1 cv1 k2 c2 kq2 cq2 kv2 cv2 k3 c3 kq3 cq3 kv3 cv3 : Nat}
  (hp : a.tmps[p]?.getD undef = .agg #[.slice a1 k1 c1, .int .i64 0, .slice aq1 kq1 cq1, .int .i64 5, .int .i64 32, .int .i64 1, .slice av1 kv1 cv1]) (hq : a.tmps[q]?.getD undef = .agg #[.slice a2 k2 c2, .int .i64 0, .slice aq2 kq2 cq2, .int .i64 4, .int .i64 32, .int .i64 1, .slice av2 kv2 cv2]) (hr : a.tmps[r]?.getD undef = .agg #[.slice a3 k3 c3, .int .i64 0, .slice aq3 kq3 cq3, .int .i64 3, .int .i64 32, .int .i64 1, .slice av3 kv3 cv3])
  (hk : K (a.put d (.slice (some ⟨w.heap.size, 0, none⟩) 3 3)) (w.alloc (.cells #[.slice a1 k1 c1, .int .i64 0, .slice aq1 kq1 cq1, .int .i64 5, .int .i64 32, .int .i64 1, .slice av1 kv1 cv1, .slice a2 k2 c2, .int .i64 0, .slice aq2 kq2 cq2, .int .i64 4, .int .i64 32, .int .i64 1, .slice av2 kv2 cv2, .slice a3 k3 c3, .int .i64 0, .slice aq3 kq3 cq3, .int .i64 3, .int .i64 32, .int .i64 1, .slice av3 kv3 cv3] 40))) :
  Oper.wp Tryz.prog { dst := d, op := Op.buildSlice 22 3 #[(0, Operand.tmp p), (1, Operand.tmp q), (2, Operand.tmp r)], type := 22, pos := ps, after := af, guard := none } a w K Q := by
 go_simp
 exact hk
set_option maxRecDepth 100000 in
theorem wp_store_slice5 {a : Act} {w : World} {K : Act → World → Prop} {Q : Exit → Act → World → Prop} {p q g n c : Nat} {ad : Option Addr} {v0 : Value} {ps : String} {af : Array Edge} (hp : a.tmps[p]?.getD undef = .pointer (some ⟨g, 0, none⟩)) (hq : a.tmps[q]?.getD undef = .slice ad n c) (hc : w.cell? ⟨g, 0, none⟩ = some v0) (hf : w.frozen? ⟨g, 0, none⟩ = false)
  (hk : K a (w.setCell ⟨g, 0, none⟩ (.slice ad n c))) :
  Oper.wp Tryz.prog { dst := none, op := Op.store 22 (Operand.tmp p) (Operand.tmp q), type := 0, pos := ps, after := af, guard := none } a w K Q := by
 go_simp
 exact hk
set_option maxRecDepth 100000 in
set_option maxHeartbeats 8000000 in
theorem blockLent_walk {W : World} {rs : Int} {a0 : Option Addr} {c0 : Nat} {l0 : List EntD} (hr : RdL5 W a0 c0 l0) (ht : Tab W) :
  Calls Tryz.prog 6 #[.int .i64 rs, .slice a0 l0.length c0] W fun x w' => x = .returned (.bool true) ∧ Below W.heap.size W w' := by
 obtain ⟨X0, hX0, b0, s0, c4⟩ := new1 W (.bool false) 4
 have HX0 := Lib.hid hX0
 have HTo := Lib.hid (told5_any X0 (ht.later b0))
 have HT := Lib.hid (ht.later b0)
 have HR := Lib.hid (hr.later b0)
 have HC0 := Lib.hid c4
 have HB0 := Lib.hid b0
 obtain ⟨m0, hm0⟩ : ∃ m0, m0 = l0.length := ⟨_, rfl⟩
 rw [← hm0]
 have HM0 := Lib.hid hm0
 clear hX0 b0 c4 hr ht hm0 s0
 refine (callsIn_wide (n := 9)).1 ?_
 refine callsIn_of_wp_marks Tryz.func6 rfl trivial ?_ rfl
 simp only [Tryz.ntmps6, List.size_toArray, List.length_cons, List.length_nil, Nat.reduceAdd, Nat.reduceSub, Array.replicate_succ, Array.replicate_zero, List.push_toArray, List.append_toArray, List.nil_append, List.cons_append]
 refine wpIn_wide.2 ?_
 refine wp_seq_k (fun Ka hKa => ?_)
 have HKa := Lib.hid hKa
 clear hKa
 go_wp2
 refine HKa.out _ _ ?_
 clear HKa
 rw [← HX0.out]
 clear HX0
 refine wp_seq_k (fun Kb hKb => ?_)
 have HKb := Lib.hid hKb
 clear hKb
 go_wp2_with fail
 refine HTo.out.mono ?_
 rintro z X1 ⟨rfl, b1⟩
 have HSo := Lib.hid (sorted5_any (HR.out.later b1))
 rw [← HM0.out] at HSo
 have HB1 := Lib.hid b1
 clear b1 HTo HM0
 go_wp2
 refine HKb.out _ _ ?_
 clear HKb
 refine wp_seq_k (fun Kc hKc => ?_)
 have HKc := Lib.hid hKc
 clear hKc
 go_wp2_with fail
 refine HSo.out.mono ?_
 rintro z X2 ⟨a, m, c, zs, rfl, hm, hrd, hck, -, hlen, b2⟩
 have b02 : Below X0.heap.size X0 X2 := HB1.out.trans (b2.mono HB1.out.size)
 obtain ⟨Y, hY, bY, sY, c5⟩ := new1 X2 (.slice a m c) 22
 have hbW : Below W.heap.size W X2 := HB0.out.trans (b02.mono HB0.out.size)
 have HBW := Lib.hid hbW
 have HTX := Lib.hid (HT.out.later b02)
 have HC4 := Lib.hid (HC0.out.later b02)
 have HZs := Lib.hid (And.intro hrd (And.intro hck hm))
 have HC5 := Lib.hid c5
 have HBY := Lib.hid bY
 have HY := Lib.hid hY
 have hl80 : m ≤ 80 := by omega
 have hWX : W.heap.size < X2.heap.size := by have := HC4.out.lt; omega
 clear b02 b2 hbW hrd hck hm hlen hY bY c5 sY HSo HB1 HB0 HT HR HC0
 go_wp2
 refine HKc.out _ _ ?_
 clear HKc
 refine wp_seq_k (fun K1 hK1 => ?_)
 have HK1 := Lib.hid hK1
 clear hK1
 have wc : (X2.alloc (.cells #[.slice a m c] 22)).cell? ⟨X2.heap.size, 0, none⟩ = some (.slice a m c) := Cell1B.cell (t := 22) (heap_alloc_new X2 _)
 by_cases h1 : rs < 1
 case pos =>
  as_aux_lemma =>
   have hd1 : decide (rs < 1) = true := by simp; omega
   go_wp2_with fail
   rw [← HY.out]
   refine Calls.mono (at_any 5 Y) ?_
   rintro z Z1 ⟨vr1, vq1, vv1, rfl, ok1, b1'⟩
   obtain ⟨a1, k1, c1, e1⟩ := rd_slice ok1.1
   obtain ⟨aq1, kq1, cq1, eq1⟩ := rd_slice ok1.2.1
   obtain ⟨av1, kv1, cv1, ev1⟩ := rd_slice ok1.2.2
   simp only [atD] at e1 eq1 ev1
   subst e1 eq1 ev1
   simp only [atD, EntD.cells]
   go_wp2_with fail
   skip
   refine Calls.mono (at_any 4 Z1) ?_
   rintro z Z2 ⟨vr2, vq2, vv2, rfl, ok2, b2'⟩
   obtain ⟨a2, k2, c2, e2⟩ := rd_slice ok2.1
   obtain ⟨aq2, kq2, cq2, eq2⟩ := rd_slice ok2.2.1
   obtain ⟨av2, kv2, cv2, ev2⟩ := rd_slice ok2.2.2
   simp only [atD] at e2 eq2 ev2
   subst e2 eq2 ev2
   simp only [atD, EntD.cells]
   go_wp2_with fail
   skip
   refine Calls.mono (at_any 3 Z2) ?_
   rintro z Z3 ⟨vr3, vq3, vv3, rfl, ok3, b3'⟩
   obtain ⟨a3, k3, c3, e3⟩ := rd_slice ok3.1
   obtain ⟨aq3, kq3, cq3, eq3⟩ := rd_slice ok3.2.1
   obtain ⟨av3, kv3, cv3, ev3⟩ := rd_slice ok3.2.2
   simp only [atD] at e3 eq3 ev3
   subst e3 eq3 ev3
   simp only [atD, EntD.cells]
   have bZ3 : Below Y.heap.size Y Z3 := (b1'.trans (b2'.mono b1'.size)).trans (b3'.mono (Nat.le_trans b1'.size b2'.size))
   have hrd3 := rdl5_three Z3 _ _ _ ((ok1.later b2').later b3') (ok2.later b3') ok3 Z3.heap.size rfl
   simp only [atD] at hrd3
   have bZ4 := bZ3.alloc bZ3.size (.cells #[.slice a1 k1 c1, .int .i64 0, .slice aq1 kq1 cq1, .int .i64 5, .int .i64 32, .int .i64 1, .slice av1 kv1 cv1, .slice a2 k2 c2, .int .i64 0, .slice aq2 kq2 cq2, .int .i64 4, .int .i64 32, .int .i64 1, .slice av2 kv2 cv2, .slice a3 k3 c3, .int .i64 0, .slice aq3 kq3 cq3, .int .i64 3, .int .i64 32, .int .i64 1, .slice av3 kv3 cv3] 40)
   obtain ⟨Z4, hZ4⟩ : ∃ Z4, Z4 = Z3.alloc (.cells #[.slice a1 k1 c1, .int .i64 0, .slice aq1 kq1 cq1, .int .i64 5, .int .i64 32, .int .i64 1, .slice av1 kv1 cv1, .slice a2 k2 c2, .int .i64 0, .slice aq2 kq2 cq2, .int .i64 4, .int .i64 32, .int .i64 1, .slice av2 kv2 cv2, .slice a3 k3 c3, .int .i64 0, .slice aq3 kq3 cq3, .int .i64 3, .int .i64 32, .int .i64 1, .slice av3 kv3 cv3] 40) := ⟨_, rfl⟩
   rw [← hZ4] at hrd3 bZ4
   obtain ⟨l, hl⟩ : ∃ l, l = [(atD (.slice a1 k1 c1) (.slice aq1 kq1 cq1) (.slice av1 kv1 cv1) 5), (atD (.slice a2 k2 c2) (.slice aq2 kq2 cq2) (.slice av2 kv2 cv2) 4), (atD (.slice a3 k3 c3) (.slice aq3 kq3 cq3) (.slice av3 kv3 cv3) 3)] := ⟨_, rfl⟩
   have hrd4 : RdL5 Z4 (some ⟨Z3.heap.size, 0, none⟩) 3 [(atD (.slice a1 k1 c1) (.slice aq1 kq1 cq1) (.slice av1 kv1 cv1) 5), (atD (.slice a2 k2 c2) (.slice aq2 kq2 cq2) (.slice av2 kv2 cv2) 4), (atD (.slice a3 k3 c3) (.slice aq3 kq3 cq3) (.slice av3 kv3 cv3) 3)] := hrd3
   have hat := at_list (.slice a1 k1 c1) (.slice aq1 kq1 cq1) (.slice av1 kv1 cv1) (.slice a2 k2 c2) (.slice aq2 kq2 cq2) (.slice av2 kv2 cv2) (.slice a3 k3 c3) (.slice aq3 kq3 cq3) (.slice av3 kv3 cv3)
   have hl3 : l.length = 3 := by rw [hl]; rfl
   have hl0 : l ≠ [] := by rw [hl]; simp
   rw [← hl] at hrd4 hat
   have c5' := HC5.out.later bZ4
   have rc := c5'.cell
   have rf := c5'.fz
   have c53 := HC5.out.later bZ3
   have rc3 := c53.cell
   have rf3 := c53.fz
   have hlt3 : X2.heap.size < Z3.heap.size := c53.lt
   clear c53
   obtain ⟨Z5, hZ5⟩ : ∃ Z5, Z5 = Z4.setCell ⟨X2.heap.size, 0, none⟩ (.slice (some ⟨Z3.heap.size, 0, none⟩) 3 3) := ⟨_, rfl⟩
   have hs4 := bZ4.size
   have f5 : Fb Z4 Z5 (fun k => k = X2.heap.size) := by rw [hZ5]; exact Fb.set1 (O := fun k => k = X2.heap.size) rfl _
   have bX5 : Below X2.heap.size X2 Z5 := ((HBY.out.trans (bZ4.mono HBY.out.size))).trans (f5.belowB (fun k e => by have e' : k = X2.heap.size := e; omega) (by have := HBY.out.size; omega))
   have c55 : Cell1B Z5 X2.heap.size (.slice (some ⟨Z3.heap.size, 0, none⟩) 3 3) 22 := by rw [hZ5]; exact c5'.set _
   have hrd5 : RdL5 Z5 (some ⟨Z3.heap.size, 0, none⟩) 3 l := hrd4.box c5' f5 (fun k hk => by obtain ⟨ad, e1, e2⟩ := hk; cases e1; have := bZ3.size; have := HBY.out.size; have hz : Z3.heap.size = k := e2; have := HC5.out.lt; omega)
   have HGo := Lib.hid (And.intro (HTX.out.later bX5) (And.intro (HC4.out.later bX5) (And.intro c55 (And.intro hrd5 (And.intro hl3 (And.intro hat.1 hl0))))))
   have hbW := HBW.out.trans (bX5.mono HBW.out.size)
   have HBW5 := Lib.hid hbW
   have hZ45 : Z5 = (Z3.alloc (.cells #[.slice a1 k1 c1, .int .i64 0, .slice aq1 kq1 cq1, .int .i64 5, .int .i64 32, .int .i64 1, .slice av1 kv1 cv1, .slice a2 k2 c2, .int .i64 0, .slice aq2 kq2 cq2, .int .i64 4, .int .i64 32, .int .i64 1, .slice av2 kv2 cv2, .slice a3 k3 c3, .int .i64 0, .slice aq3 kq3 cq3, .int .i64 3, .int .i64 32, .int .i64 1, .slice av3 kv3 cv3] 40)).setCell ⟨X2.heap.size, 0, none⟩ (.slice (some ⟨Z3.heap.size, 0, none⟩) 3 3) := by rw [hZ5, hZ4]
   have HZ45 := Lib.hid hZ45
   have rc4 : (Z3.alloc (.cells #[.slice a1 k1 c1, .int .i64 0, .slice aq1 kq1 cq1, .int .i64 5, .int .i64 32, .int .i64 1, .slice av1 kv1 cv1, .slice a2 k2 c2, .int .i64 0, .slice aq2 kq2 cq2, .int .i64 4, .int .i64 32, .int .i64 1, .slice av2 kv2 cv2, .slice a3 k3 c3, .int .i64 0, .slice aq3 kq3 cq3, .int .i64 3, .int .i64 32, .int .i64 1, .slice av3 kv3 cv3] 40)).cell? ⟨X2.heap.size, 0, none⟩ = some (.slice a m c) := by rw [← hZ4]; exact rc
   have rf4 : (Z3.alloc (.cells #[.slice a1 k1 c1, .int .i64 0, .slice aq1 kq1 cq1, .int .i64 5, .int .i64 32, .int .i64 1, .slice av1 kv1 cv1, .slice a2 k2 c2, .int .i64 0, .slice aq2 kq2 cq2, .int .i64 4, .int .i64 32, .int .i64 1, .slice av2 kv2 cv2, .slice a3 k3 c3, .int .i64 0, .slice aq3 kq3 cq3, .int .i64 3, .int .i64 32, .int .i64 1, .slice av3 kv3 cv3] 40)).frozen? ⟨X2.heap.size, 0, none⟩ = false := by rw [← hZ4]; exact rf
   clear ok1 ok2 ok3 b1' b2' b3' bZ3 bZ4 hrd3 hrd4 hZ4 hZ5 hZ45 hat hl hl3 hl0 c5' f5 bX5 c55 hrd5 hbW hs4 rc rf
   rename_i K9 hK9
   refine hK9 _ _ ?_
   refine wpList_step (fun K hK => ?_)
   rw [if_pos (by rfl)]
   refine wp_build_three5 rfl rfl rfl ?_
   refine hK _ _ ?_
   clear hK
   try simp only [Act.put, List.setIfInBounds_toArray, List.set_cons_zero, List.set_cons_succ]
   refine wpList_step (fun K hK => ?_)
   rw [if_pos (by rfl)]
   refine wp_store_slice5 rfl rfl rc4 rf4 ?_
   refine hK _ _ (wpList_nil ?_)
   clear hK
   refine HK1.out _ _ ?_
   rw [← HZ45.out]
   refine lent_first (r := 2) HGo.out.1 HGo.out.2.1 HGo.out.2.2.1 HGo.out.2.2.2.1 HGo.out.2.2.2.2.1 HGo.out.2.2.2.2.2.1 HGo.out.2.2.2.2.2.2 (by omega) (by omega) (by omega) (Nat.le_refl _) ?_
   intro A Ds Z hA hc hb hnd hmk
   have hs := HBW5.out.size
   refine leaves_marks5 (B := W.heap.size) Ds Z (by have := hb.size; omega) ⟨hnd, fun D hD => ⟨by have := (hmk D hD).1; omega, (hmk D hD).2⟩⟩ (fun w' hw => ?_)
   have hcw : w'.cell? ⟨W.heap.size, 0, none⟩ = some (.bool true) := Cell1B.cell (t := 4) (hw.cells _ _ hc rfl)
   exact ⟨.bool true, by simp [results, Tryz.results6, go_sem, hA, hcw], rfl, (HBW5.out.trans hb).trans hw.below⟩

 by_cases h2 : 16 < rs
 case pos =>
  as_aux_lemma =>
   have hd1 : decide (rs < 1) = false := by simp; omega
   have hd2 : decide (16 < rs) = true := by simp; omega
   go_wp2_with fail
   rw [← HY.out]
   refine Calls.mono (at_any 5 Y) ?_
   rintro z Z1 ⟨vr1, vq1, vv1, rfl, ok1, b1'⟩
   obtain ⟨a1, k1, c1, e1⟩ := rd_slice ok1.1
   obtain ⟨aq1, kq1, cq1, eq1⟩ := rd_slice ok1.2.1
   obtain ⟨av1, kv1, cv1, ev1⟩ := rd_slice ok1.2.2
   simp only [atD] at e1 eq1 ev1
   subst e1 eq1 ev1
   simp only [atD, EntD.cells]
   go_wp2_with fail
   skip
   refine Calls.mono (at_any 4 Z1) ?_
   rintro z Z2 ⟨vr2, vq2, vv2, rfl, ok2, b2'⟩
   obtain ⟨a2, k2, c2, e2⟩ := rd_slice ok2.1
   obtain ⟨aq2, kq2, cq2, eq2⟩ := rd_slice ok2.2.1
   obtain ⟨av2, kv2, cv2, ev2⟩ := rd_slice ok2.2.2
   simp only [atD] at e2 eq2 ev2
   subst e2 eq2 ev2
   simp only [atD, EntD.cells]
   go_wp2_with fail
   skip
   refine Calls.mono (at_any 3 Z2) ?_
   rintro z Z3 ⟨vr3, vq3, vv3, rfl, ok3, b3'⟩
   obtain ⟨a3, k3, c3, e3⟩ := rd_slice ok3.1
   obtain ⟨aq3, kq3, cq3, eq3⟩ := rd_slice ok3.2.1
   obtain ⟨av3, kv3, cv3, ev3⟩ := rd_slice ok3.2.2
   simp only [atD] at e3 eq3 ev3
   subst e3 eq3 ev3
   simp only [atD, EntD.cells]
   have bZ3 : Below Y.heap.size Y Z3 := (b1'.trans (b2'.mono b1'.size)).trans (b3'.mono (Nat.le_trans b1'.size b2'.size))
   have hrd3 := rdl5_three Z3 _ _ _ ((ok1.later b2').later b3') (ok2.later b3') ok3 Z3.heap.size rfl
   simp only [atD] at hrd3
   have bZ4 := bZ3.alloc bZ3.size (.cells #[.slice a1 k1 c1, .int .i64 0, .slice aq1 kq1 cq1, .int .i64 5, .int .i64 32, .int .i64 1, .slice av1 kv1 cv1, .slice a2 k2 c2, .int .i64 0, .slice aq2 kq2 cq2, .int .i64 4, .int .i64 32, .int .i64 1, .slice av2 kv2 cv2, .slice a3 k3 c3, .int .i64 0, .slice aq3 kq3 cq3, .int .i64 3, .int .i64 32, .int .i64 1, .slice av3 kv3 cv3] 40)
   obtain ⟨Z4, hZ4⟩ : ∃ Z4, Z4 = Z3.alloc (.cells #[.slice a1 k1 c1, .int .i64 0, .slice aq1 kq1 cq1, .int .i64 5, .int .i64 32, .int .i64 1, .slice av1 kv1 cv1, .slice a2 k2 c2, .int .i64 0, .slice aq2 kq2 cq2, .int .i64 4, .int .i64 32, .int .i64 1, .slice av2 kv2 cv2, .slice a3 k3 c3, .int .i64 0, .slice aq3 kq3 cq3, .int .i64 3, .int .i64 32, .int .i64 1, .slice av3 kv3 cv3] 40) := ⟨_, rfl⟩
   rw [← hZ4] at hrd3 bZ4
   obtain ⟨l, hl⟩ : ∃ l, l = [(atD (.slice a1 k1 c1) (.slice aq1 kq1 cq1) (.slice av1 kv1 cv1) 5), (atD (.slice a2 k2 c2) (.slice aq2 kq2 cq2) (.slice av2 kv2 cv2) 4), (atD (.slice a3 k3 c3) (.slice aq3 kq3 cq3) (.slice av3 kv3 cv3) 3)] := ⟨_, rfl⟩
   have hrd4 : RdL5 Z4 (some ⟨Z3.heap.size, 0, none⟩) 3 [(atD (.slice a1 k1 c1) (.slice aq1 kq1 cq1) (.slice av1 kv1 cv1) 5), (atD (.slice a2 k2 c2) (.slice aq2 kq2 cq2) (.slice av2 kv2 cv2) 4), (atD (.slice a3 k3 c3) (.slice aq3 kq3 cq3) (.slice av3 kv3 cv3) 3)] := hrd3
   have hat := at_list (.slice a1 k1 c1) (.slice aq1 kq1 cq1) (.slice av1 kv1 cv1) (.slice a2 k2 c2) (.slice aq2 kq2 cq2) (.slice av2 kv2 cv2) (.slice a3 k3 c3) (.slice aq3 kq3 cq3) (.slice av3 kv3 cv3)
   have hl3 : l.length = 3 := by rw [hl]; rfl
   have hl0 : l ≠ [] := by rw [hl]; simp
   rw [← hl] at hrd4 hat
   have c5' := HC5.out.later bZ4
   have rc := c5'.cell
   have rf := c5'.fz
   have c53 := HC5.out.later bZ3
   have rc3 := c53.cell
   have rf3 := c53.fz
   have hlt3 : X2.heap.size < Z3.heap.size := c53.lt
   clear c53
   obtain ⟨Z5, hZ5⟩ : ∃ Z5, Z5 = Z4.setCell ⟨X2.heap.size, 0, none⟩ (.slice (some ⟨Z3.heap.size, 0, none⟩) 3 3) := ⟨_, rfl⟩
   have hs4 := bZ4.size
   have f5 : Fb Z4 Z5 (fun k => k = X2.heap.size) := by rw [hZ5]; exact Fb.set1 (O := fun k => k = X2.heap.size) rfl _
   have bX5 : Below X2.heap.size X2 Z5 := ((HBY.out.trans (bZ4.mono HBY.out.size))).trans (f5.belowB (fun k e => by have e' : k = X2.heap.size := e; omega) (by have := HBY.out.size; omega))
   have c55 : Cell1B Z5 X2.heap.size (.slice (some ⟨Z3.heap.size, 0, none⟩) 3 3) 22 := by rw [hZ5]; exact c5'.set _
   have hrd5 : RdL5 Z5 (some ⟨Z3.heap.size, 0, none⟩) 3 l := hrd4.box c5' f5 (fun k hk => by obtain ⟨ad, e1, e2⟩ := hk; cases e1; have := bZ3.size; have := HBY.out.size; have hz : Z3.heap.size = k := e2; have := HC5.out.lt; omega)
   have HGo := Lib.hid (And.intro (HTX.out.later bX5) (And.intro (HC4.out.later bX5) (And.intro c55 (And.intro hrd5 (And.intro hl3 (And.intro hat.1 hl0))))))
   have hbW := HBW.out.trans (bX5.mono HBW.out.size)
   have HBW5 := Lib.hid hbW
   have hZ45 : Z5 = (Z3.alloc (.cells #[.slice a1 k1 c1, .int .i64 0, .slice aq1 kq1 cq1, .int .i64 5, .int .i64 32, .int .i64 1, .slice av1 kv1 cv1, .slice a2 k2 c2, .int .i64 0, .slice aq2 kq2 cq2, .int .i64 4, .int .i64 32, .int .i64 1, .slice av2 kv2 cv2, .slice a3 k3 c3, .int .i64 0, .slice aq3 kq3 cq3, .int .i64 3, .int .i64 32, .int .i64 1, .slice av3 kv3 cv3] 40)).setCell ⟨X2.heap.size, 0, none⟩ (.slice (some ⟨Z3.heap.size, 0, none⟩) 3 3) := by rw [hZ5, hZ4]
   have HZ45 := Lib.hid hZ45
   have rc4 : (Z3.alloc (.cells #[.slice a1 k1 c1, .int .i64 0, .slice aq1 kq1 cq1, .int .i64 5, .int .i64 32, .int .i64 1, .slice av1 kv1 cv1, .slice a2 k2 c2, .int .i64 0, .slice aq2 kq2 cq2, .int .i64 4, .int .i64 32, .int .i64 1, .slice av2 kv2 cv2, .slice a3 k3 c3, .int .i64 0, .slice aq3 kq3 cq3, .int .i64 3, .int .i64 32, .int .i64 1, .slice av3 kv3 cv3] 40)).cell? ⟨X2.heap.size, 0, none⟩ = some (.slice a m c) := by rw [← hZ4]; exact rc
   have rf4 : (Z3.alloc (.cells #[.slice a1 k1 c1, .int .i64 0, .slice aq1 kq1 cq1, .int .i64 5, .int .i64 32, .int .i64 1, .slice av1 kv1 cv1, .slice a2 k2 c2, .int .i64 0, .slice aq2 kq2 cq2, .int .i64 4, .int .i64 32, .int .i64 1, .slice av2 kv2 cv2, .slice a3 k3 c3, .int .i64 0, .slice aq3 kq3 cq3, .int .i64 3, .int .i64 32, .int .i64 1, .slice av3 kv3 cv3] 40)).frozen? ⟨X2.heap.size, 0, none⟩ = false := by rw [← hZ4]; exact rf
   clear ok1 ok2 ok3 b1' b2' b3' bZ3 bZ4 hrd3 hrd4 hZ4 hZ5 hZ45 hat hl hl3 hl0 c5' f5 bX5 c55 hrd5 hbW hs4 rc rf
   rename_i K9 hK9
   refine hK9 _ _ ?_
   refine wpList_step (fun K hK => ?_)
   rw [if_pos (by rfl)]
   refine wp_build_three5 rfl rfl rfl ?_
   refine hK _ _ ?_
   clear hK
   try simp only [Act.put, List.setIfInBounds_toArray, List.set_cons_zero, List.set_cons_succ]
   refine wpList_step (fun K hK => ?_)
   rw [if_pos (by rfl)]
   refine wp_store_slice5 rfl rfl rc4 rf4 ?_
   refine hK _ _ (wpList_nil ?_)
   clear hK
   refine HK1.out _ _ ?_
   rw [← HZ45.out]
   refine lent_first (r := 2) HGo.out.1 HGo.out.2.1 HGo.out.2.2.1 HGo.out.2.2.2.1 HGo.out.2.2.2.2.1 HGo.out.2.2.2.2.2.1 HGo.out.2.2.2.2.2.2 (by omega) (by omega) (by omega) (Nat.le_refl _) ?_
   intro A Ds Z hA hc hb hnd hmk
   have hs := HBW5.out.size
   refine leaves_marks5 (B := W.heap.size) Ds Z (by have := hb.size; omega) ⟨hnd, fun D hD => ⟨by have := (hmk D hD).1; omega, (hmk D hD).2⟩⟩ (fun w' hw => ?_)
   have hcw : w'.cell? ⟨W.heap.size, 0, none⟩ = some (.bool true) := Cell1B.cell (t := 4) (hw.cells _ _ hc rfl)
   exact ⟨.bool true, by simp [results, Tryz.results6, go_sem, hA, hcw], rfl, (HBW5.out.trans hb).trans hw.below⟩

 by_cases h3 : m = 0
 case pos =>
  as_aux_lemma =>
   have hd1 : decide (rs < 1) = false := by simp; omega
   have hd2 : decide (16 < rs) = false := by simp; omega
   subst h3
   go_wp2_with fail
   rw [← HY.out]
   refine Calls.mono (at_any 5 Y) ?_
   rintro z Z1 ⟨vr1, vq1, vv1, rfl, ok1, b1'⟩
   obtain ⟨a1, k1, c1, e1⟩ := rd_slice ok1.1
   obtain ⟨aq1, kq1, cq1, eq1⟩ := rd_slice ok1.2.1
   obtain ⟨av1, kv1, cv1, ev1⟩ := rd_slice ok1.2.2
   simp only [atD] at e1 eq1 ev1
   subst e1 eq1 ev1
   simp only [atD, EntD.cells]
   go_wp2_with fail
   skip
   refine Calls.mono (at_any 4 Z1) ?_
   rintro z Z2 ⟨vr2, vq2, vv2, rfl, ok2, b2'⟩
   obtain ⟨a2, k2, c2, e2⟩ := rd_slice ok2.1
   obtain ⟨aq2, kq2, cq2, eq2⟩ := rd_slice ok2.2.1
   obtain ⟨av2, kv2, cv2, ev2⟩ := rd_slice ok2.2.2
   simp only [atD] at e2 eq2 ev2
   subst e2 eq2 ev2
   simp only [atD, EntD.cells]
   go_wp2_with fail
   skip
   refine Calls.mono (at_any 3 Z2) ?_
   rintro z Z3 ⟨vr3, vq3, vv3, rfl, ok3, b3'⟩
   obtain ⟨a3, k3, c3, e3⟩ := rd_slice ok3.1
   obtain ⟨aq3, kq3, cq3, eq3⟩ := rd_slice ok3.2.1
   obtain ⟨av3, kv3, cv3, ev3⟩ := rd_slice ok3.2.2
   simp only [atD] at e3 eq3 ev3
   subst e3 eq3 ev3
   simp only [atD, EntD.cells]
   have bZ3 : Below Y.heap.size Y Z3 := (b1'.trans (b2'.mono b1'.size)).trans (b3'.mono (Nat.le_trans b1'.size b2'.size))
   have hrd3 := rdl5_three Z3 _ _ _ ((ok1.later b2').later b3') (ok2.later b3') ok3 Z3.heap.size rfl
   simp only [atD] at hrd3
   have bZ4 := bZ3.alloc bZ3.size (.cells #[.slice a1 k1 c1, .int .i64 0, .slice aq1 kq1 cq1, .int .i64 5, .int .i64 32, .int .i64 1, .slice av1 kv1 cv1, .slice a2 k2 c2, .int .i64 0, .slice aq2 kq2 cq2, .int .i64 4, .int .i64 32, .int .i64 1, .slice av2 kv2 cv2, .slice a3 k3 c3, .int .i64 0, .slice aq3 kq3 cq3, .int .i64 3, .int .i64 32, .int .i64 1, .slice av3 kv3 cv3] 40)
   obtain ⟨Z4, hZ4⟩ : ∃ Z4, Z4 = Z3.alloc (.cells #[.slice a1 k1 c1, .int .i64 0, .slice aq1 kq1 cq1, .int .i64 5, .int .i64 32, .int .i64 1, .slice av1 kv1 cv1, .slice a2 k2 c2, .int .i64 0, .slice aq2 kq2 cq2, .int .i64 4, .int .i64 32, .int .i64 1, .slice av2 kv2 cv2, .slice a3 k3 c3, .int .i64 0, .slice aq3 kq3 cq3, .int .i64 3, .int .i64 32, .int .i64 1, .slice av3 kv3 cv3] 40) := ⟨_, rfl⟩
   rw [← hZ4] at hrd3 bZ4
   obtain ⟨l, hl⟩ : ∃ l, l = [(atD (.slice a1 k1 c1) (.slice aq1 kq1 cq1) (.slice av1 kv1 cv1) 5), (atD (.slice a2 k2 c2) (.slice aq2 kq2 cq2) (.slice av2 kv2 cv2) 4), (atD (.slice a3 k3 c3) (.slice aq3 kq3 cq3) (.slice av3 kv3 cv3) 3)] := ⟨_, rfl⟩
   have hrd4 : RdL5 Z4 (some ⟨Z3.heap.size, 0, none⟩) 3 [(atD (.slice a1 k1 c1) (.slice aq1 kq1 cq1) (.slice av1 kv1 cv1) 5), (atD (.slice a2 k2 c2) (.slice aq2 kq2 cq2) (.slice av2 kv2 cv2) 4), (atD (.slice a3 k3 c3) (.slice aq3 kq3 cq3) (.slice av3 kv3 cv3) 3)] := hrd3
   have hat := at_list (.slice a1 k1 c1) (.slice aq1 kq1 cq1) (.slice av1 kv1 cv1) (.slice a2 k2 c2) (.slice aq2 kq2 cq2) (.slice av2 kv2 cv2) (.slice a3 k3 c3) (.slice aq3 kq3 cq3) (.slice av3 kv3 cv3)
   have hl3 : l.length = 3 := by rw [hl]; rfl
   have hl0 : l ≠ [] := by rw [hl]; simp
   rw [← hl] at hrd4 hat
   have c5' := HC5.out.later bZ4
   have rc := c5'.cell
   have rf := c5'.fz
   have c53 := HC5.out.later bZ3
   have rc3 := c53.cell
   have rf3 := c53.fz
   have hlt3 : X2.heap.size < Z3.heap.size := c53.lt
   clear c53
   obtain ⟨Z5, hZ5⟩ : ∃ Z5, Z5 = Z4.setCell ⟨X2.heap.size, 0, none⟩ (.slice (some ⟨Z3.heap.size, 0, none⟩) 3 3) := ⟨_, rfl⟩
   have hs4 := bZ4.size
   have f5 : Fb Z4 Z5 (fun k => k = X2.heap.size) := by rw [hZ5]; exact Fb.set1 (O := fun k => k = X2.heap.size) rfl _
   have bX5 : Below X2.heap.size X2 Z5 := ((HBY.out.trans (bZ4.mono HBY.out.size))).trans (f5.belowB (fun k e => by have e' : k = X2.heap.size := e; omega) (by have := HBY.out.size; omega))
   have c55 : Cell1B Z5 X2.heap.size (.slice (some ⟨Z3.heap.size, 0, none⟩) 3 3) 22 := by rw [hZ5]; exact c5'.set _
   have hrd5 : RdL5 Z5 (some ⟨Z3.heap.size, 0, none⟩) 3 l := hrd4.box c5' f5 (fun k hk => by obtain ⟨ad, e1, e2⟩ := hk; cases e1; have := bZ3.size; have := HBY.out.size; have hz : Z3.heap.size = k := e2; have := HC5.out.lt; omega)
   have HGo := Lib.hid (And.intro (HTX.out.later bX5) (And.intro (HC4.out.later bX5) (And.intro c55 (And.intro hrd5 (And.intro hl3 (And.intro hat.1 hl0))))))
   have hbW := HBW.out.trans (bX5.mono HBW.out.size)
   have HBW5 := Lib.hid hbW
   have hZ45 : Z5 = (Z3.alloc (.cells #[.slice a1 k1 c1, .int .i64 0, .slice aq1 kq1 cq1, .int .i64 5, .int .i64 32, .int .i64 1, .slice av1 kv1 cv1, .slice a2 k2 c2, .int .i64 0, .slice aq2 kq2 cq2, .int .i64 4, .int .i64 32, .int .i64 1, .slice av2 kv2 cv2, .slice a3 k3 c3, .int .i64 0, .slice aq3 kq3 cq3, .int .i64 3, .int .i64 32, .int .i64 1, .slice av3 kv3 cv3] 40)).setCell ⟨X2.heap.size, 0, none⟩ (.slice (some ⟨Z3.heap.size, 0, none⟩) 3 3) := by rw [hZ5, hZ4]
   have HZ45 := Lib.hid hZ45
   have rc4 : (Z3.alloc (.cells #[.slice a1 k1 c1, .int .i64 0, .slice aq1 kq1 cq1, .int .i64 5, .int .i64 32, .int .i64 1, .slice av1 kv1 cv1, .slice a2 k2 c2, .int .i64 0, .slice aq2 kq2 cq2, .int .i64 4, .int .i64 32, .int .i64 1, .slice av2 kv2 cv2, .slice a3 k3 c3, .int .i64 0, .slice aq3 kq3 cq3, .int .i64 3, .int .i64 32, .int .i64 1, .slice av3 kv3 cv3] 40)).cell? ⟨X2.heap.size, 0, none⟩ = some (.slice a 0 c) := by rw [← hZ4]; exact rc
   have rf4 : (Z3.alloc (.cells #[.slice a1 k1 c1, .int .i64 0, .slice aq1 kq1 cq1, .int .i64 5, .int .i64 32, .int .i64 1, .slice av1 kv1 cv1, .slice a2 k2 c2, .int .i64 0, .slice aq2 kq2 cq2, .int .i64 4, .int .i64 32, .int .i64 1, .slice av2 kv2 cv2, .slice a3 k3 c3, .int .i64 0, .slice aq3 kq3 cq3, .int .i64 3, .int .i64 32, .int .i64 1, .slice av3 kv3 cv3] 40)).frozen? ⟨X2.heap.size, 0, none⟩ = false := by rw [← hZ4]; exact rf
   clear ok1 ok2 ok3 b1' b2' b3' bZ3 bZ4 hrd3 hrd4 hZ4 hZ5 hZ45 hat hl hl3 hl0 c5' f5 bX5 c55 hrd5 hbW hs4 rc rf
   rename_i K9 hK9
   refine hK9 _ _ ?_
   refine wpList_step (fun K hK => ?_)
   rw [if_pos (by rfl)]
   refine wp_build_three5 rfl rfl rfl ?_
   refine hK _ _ ?_
   clear hK
   try simp only [Act.put, List.setIfInBounds_toArray, List.set_cons_zero, List.set_cons_succ]
   refine wpList_step (fun K hK => ?_)
   rw [if_pos (by rfl)]
   refine wp_store_slice5 rfl rfl rc4 rf4 ?_
   refine hK _ _ (wpList_nil ?_)
   clear hK
   refine HK1.out _ _ ?_
   rw [← HZ45.out]
   refine lent_first (r := 2) HGo.out.1 HGo.out.2.1 HGo.out.2.2.1 HGo.out.2.2.2.1 HGo.out.2.2.2.2.1 HGo.out.2.2.2.2.2.1 HGo.out.2.2.2.2.2.2 (by omega) (by omega) (by omega) (Nat.le_refl _) ?_
   intro A Ds Z hA hc hb hnd hmk
   have hs := HBW5.out.size
   refine leaves_marks5 (B := W.heap.size) Ds Z (by have := hb.size; omega) ⟨hnd, fun D hD => ⟨by have := (hmk D hD).1; omega, (hmk D hD).2⟩⟩ (fun w' hw => ?_)
   have hcw : w'.cell? ⟨W.heap.size, 0, none⟩ = some (.bool true) := Cell1B.cell (t := 4) (hw.cells _ _ hc rfl)
   exact ⟨.bool true, by simp [results, Tryz.results6, go_sem, hA, hcw], rfl, (HBW5.out.trans hb).trans hw.below⟩

 have hd1 : decide (rs < 1) = false := by simp; omega
 have hd2 : decide (16 < rs) = false := by simp; omega
 obtain ⟨r, rfl⟩ : ∃ r : Nat, rs = (r : Int) := ⟨rs.toNat, by omega⟩
 have hd3 : ¬ (m : Int) = 0 := by omega
 have hd4 : ((m : Int) == 0) = false := by simp; omega
 have hne : zs ≠ [] := fun e => h3 (by rw [HZs.out.2.2, e]; rfl)
 go_wp2
 refine HK1.out _ _ ?_
 rw [← HY.out]
 refine lent_first (HTX.out.later HBY.out) (HC4.out.later HBY.out) HC5.out (HZs.out.1.later HBY.out) HZs.out.2.2.symm HZs.out.2.1 hne hl80 (by omega) (by omega) (Nat.le_refl _) ?_
 intro A Ds Z hA hc hb hnd hmk
 have hbY := HBW.out.trans (HBY.out.mono HBW.out.size)
 have hs := hbY.size
 refine leaves_marks5 (B := W.heap.size) Ds Z (by have := hb.size; omega) ⟨hnd, fun D hD => ⟨by have := (hmk D hD).1; omega, (hmk D hD).2⟩⟩ (fun w' hw => ?_)
 have hcw : w'.cell? ⟨W.heap.size, 0, none⟩ = some (.bool true) := Cell1B.cell (t := 4) (hw.cells _ _ hc rfl)
 exact ⟨.bool true, by simp [results, Tryz.results6, go_sem, hA, hcw], rfl, (hbY.trans hb).trans hw.below⟩
end Go.Proofs.YtchebhafabhabaaGreatDoor

namespace Go.Proofs.YtchebhafabhabaaGreatDoor
open Go.ChangeShapes Go.WideShapes Go.ChangeAt Go.RowKit
set_option linter.unusedVariables false

theorem own_knob : ownKnob Tryz.prog.godebug = none := by kernel_rfl
theorem laid_out : laidOutB Tryz.prog = true := by kernel_rfl
theorem g_tab : Tryz.prog.globalNamed "strata/wire.halves" = some 0 := by kernel_rfl
theorem g_tab_type : (Tryz.prog.globals[0]?).map (·.type) = some 128 := by kernel_rfl
theorem und_tab : Tryz.prog.underlying 128 = some (.array 16 98) := by kernel_rfl
theorem und_u32 : Tryz.prog.underlying 98 = some (.int .u32) := by kernel_rfl
theorem und_int : Tryz.prog.underlying 3 = some (.int .i64) := by kernel_rfl
theorem und_bool : Tryz.prog.underlying 4 = some .bool := by kernel_rfl
theorem cells_tab : Tryz.prog.cellsOf 128 = 16 := by kernel_rfl
theorem cells_u32 : Tryz.prog.cellsOf 98 = 1 := by kernel_rfl
theorem cells_byte : Tryz.prog.cellsOf 5 = 1 := by kernel_rfl
theorem cells_bytes : Tryz.prog.cellsOf 36 = 1 := by kernel_rfl

theorem tab_of {W : World} (h : laidMetH Tryz.prog Rows.blockBuildsRow.laid W) : Tab W := by
 have t : Lib.TabIs Tryz.prog W "strata/wire.halves" .u32 [0, 274646895, 549293790, 820201905, 1098587580, 1361435347, 1640403810, 1905808397, 2197175160, 2460548119, 2722870694, 2987750089, 3280807620, 3553878443, 3811616794, 4084100981] :=
  Lib.tabIs_of_head (rest := []) g_tab g_tab_type und_tab und_u32 cells_u32 cells_tab h
 intro i hi
 have := t.cell g_tab i (by simpa using hi)
 rw [this]
 have key : ∀ j, j < 16 → ([0, 274646895, 549293790, 820201905, 1098587580, 1361435347, 1640403810, 1905808397, 2197175160, 2460548119, 2722870694, 2987750089, 3280807620, 3553878443, 3811616794, 4084100981] : List Int).getD j 0 = ((tab.getD j 0 : Nat) : Int) := by decide
 rw [key i hi]

theorem bulk_pos {H : Type} (d : DataW H) : 1 ≤ Rows.uptoBulk d := by
 cases d with
 | lit l => cases l <;> simp [Rows.uptoBulk]
 | nil => simp [Rows.uptoBulk]
 | ptr d => simp [Rows.uptoBulk]
 | slice elems spare => simp [Rows.uptoBulk]
 | agg parts => simp [Rows.uptoBulk]
 | iface t d => simp [Rows.uptoBulk]
 | map entries => simp [Rows.uptoBulk]
 | held h => simp [Rows.uptoBulk]
theorem bulk_len {H : Type} (l : List (DataW H)) : l.length ≤ Rows.uptoBulkAll l := by
 induction l with
 | nil => simp [Rows.uptoBulkAll]
 | cons x r ih => have := bulk_pos x; simp only [Rows.uptoBulkAll, List.length_cons]; omega

theorem open_bytes {H : Type} {enc : TypeId × Value → H} {W : World} {v : Value} {d : DataW H} {p : List MemPlace} {base : Nat} {held : Bool} (h : DataW.Trod enc Tryz.prog W base (fun _ => true) held 36 v d p) (hs : ∃ a n c, v = .slice a n c) :
  ∃ bs : List Nat, (bs.length ≤ 281474976710656 → Rd W v bs) ∧ bs.length + 1 ≤ Rows.uptoBulk d ∧ (bs = [] ∨ ∃ elems spare, d = .slice elems spare ∧ elems.length = bs.length) := by
 obtain ⟨a, n, c, rfl⟩ := hs
 obtain ⟨fuel, hf⟩ := h
 rcases open_ints und_bytes und_byte cells_byte hf with ⟨hcs, hx⟩ | ⟨x, l, c', zs, hcs, _, hl, hm, hz, hx, hcell, hwz⟩
 ·simp [Value.cells] at hcs
  obtain ⟨rfl, rfl, rfl⟩ := hcs
  refine ⟨[], fun _ => Rd.nil W, ?_, .inl rfl⟩
  have := bulk_pos d
  simpa using this
 ·simp [Value.cells] at hcs
  obtain ⟨rfl, rfl, rfl⟩ := hcs
  simp only [if_true] at hz
  simp only [Prod.mk.injEq] at hx
  obtain ⟨rfl, _⟩ := hx
  have hby : ∀ i, i < zs.length → 0 ≤ zs.getD i 0 ∧ zs.getD i 0 < 256 := by
   intro i hi
   have hmem : zs.getD i 0 ∈ zs := by simp [List.getD, List.getElem?_eq_getElem hi]
   have := bounds_u8 (hwz _ hmem)
   omega
  refine ⟨(zs.take n).map Int.toNat, fun hlen => ⟨?_, some x, c, ?_, ?_, hm, hlen, ?_, ?_⟩, ?_, .inr ⟨_, _, rfl, by simp [lits]⟩⟩
  ·intro y hy
   simp only [List.mem_map] at hy
   obtain ⟨z, hz1, rfl⟩ := hy
   have := bounds_u8 (hwz z (List.mem_of_mem_take hz1))
   omega
  ·simp; omega
  ·simp; omega
  ·by_cases hc0 : c = 0
   ·exact .inl hc0
   ·right
    obtain ⟨b, off, spot⟩ := x
    have hc := hcell 0 (by omega)
    have hspot : spot = none := by simpa [Addr.add] using World.cell?_spot hc
    subst hspot
    exact ⟨b, off, rfl⟩
  ·by_cases hn0 : n = 0
   ·left; simp [hn0]
   ·right
    obtain ⟨b, off, spot⟩ := x
    have hc := hcell 0 (by omega)
    have hspot : spot = none := by simpa [Addr.add] using World.cell?_spot hc
    subst hspot
    refine ⟨b, off, rfl, fun i hi => ?_⟩
    have hin : i < n := by simp at hi; omega
    have hc := hcell i (by omega)
    have e : (⟨b, off, none⟩ : Addr).add i = ⟨b, off + i, none⟩ := by unfold Addr.add; split <;> simp_all
    rw [e] at hc
    rw [hc]
    have hb := hby i (by omega)
    have e2 : ((zs.take n).map Int.toNat).getD i 0 = (zs.getD i 0).toNat := by
     simp [List.getElem?_take_of_lt hin, List.getElem?_eq_getElem (show i < zs.length by omega)]
    rw [e2, Int.toNat_of_nonneg hb.1]
  ·have h1 := bulk_len (H := H) (lits .u8 (zs.take n))
   simp only [Rows.uptoBulk]
   simp [lits] at h1 ⊢
   omega

theorem reach_bytes {H : Type} {ts : List TypeId} {ds gs : List (DataW H)} (h : (DataW.weightsEach Tryz.prog ts (ds ++ gs)).all (fun x => decide (x ≤ reachBytes)) = true) (j : Nat) (ht : ts[j]? = some 36) {d : DataW H} (hd : ds[j]? = some d) {bs : List Nat} (hx : bs = [] ∨ ∃ elems spare, d = .slice elems spare ∧ elems.length = bs.length) : bs.length ≤ 140737488351232 := by
 rcases hx with rfl | ⟨elems, spare, rfl, hl⟩
 ·simp
 ·have hd2 : (ds ++ gs)[j]? = some (.slice elems spare) := by
   rw [List.getElem?_append_left (List.getElem?_eq_some_iff.1 hd).1]
   exact hd
  have := sized_slice h ht hd2 und_bytes
  rw [show Tryz.prog.bytesOf 5 = 1 by kernel_rfl] at this
  unfold reachBytes at this
  omega

end Go.Proofs.YtchebhafabhabaaGreatDoor
