/-
  The statement PackTells answers true, whatever comes in: over this seat's translation.
-/
import Derived.Test.YtkcjgncpcidfoaaGreatDoorPacked
import Derived.Test.YtkcjgncpcidfoaaGreatDoorRefReadPack
import Derived.Test.YtkcjgncpcidfoaaGreatDoorRefSame
import Derived.Test.YtkcjgncpcidfoaaGreatDoorLawTreeCame
namespace Go.Proofs.YtkcjgncpcidfoaaGreatDoor
open Go.RowKit Go.Shelf

/-- A fault kept in a block of two numbers. -/
def Kept2 (w : World) (fb : Nat) (c i : Int) : Prop := w.heap[fb]? = some (.cells #[.int .i64 c, .int .i64 i] 31 (0, 0))
theorem Kept2.cells {w : World} {fb : Nat} {c i : Int} (h : Kept2 w fb c i) : w.cell? ⟨fb, 0, none⟩ = some (.int .i64 c) ∧ w.cell? ⟨fb, 1, none⟩ = some (.int .i64 i) ∧ w.frozen? ⟨fb, 0, none⟩ = false ∧ w.frozen? ⟨fb, 1, none⟩ = false := by
  unfold Kept2 at h
  exact ⟨by simp [World.cell?, h], by simp [World.cell?, h], by simp [World.frozen?, h], by simp [World.frozen?, h]⟩
theorem Kept2.only {w : World} {fb : Nat} {c i : Int} (h : Kept2 w fb c i) {o : Nat} {v : Value} (hv : w.cell? ⟨fb, o, none⟩ = some v) : ∃ n, v = .int .i64 n := by
  unfold Kept2 at h
  rcases o with _ | _ | o
  · exact ⟨c, by simpa [World.cell?, h] using hv.symm⟩
  · exact ⟨i, by simpa [World.cell?, h] using hv.symm⟩
  · simp [World.cell?, h] at hv
theorem Kept2.below {w w' : World} {fb : Nat} {c i : Int} (h : Kept2 w fb c i) (hb : Below w.heap.size w w') : Kept2 w' fb c i := (hb.block fb (Array.getElem?_eq_some_iff.1 h).1).trans h
theorem Kept2.store {w : World} {fb : Nat} {c i : Int} (h : Kept2 w fb c i) (x y : Int) : Kept2 ((w.setCell ⟨fb, 0, none⟩ (.int .i64 x)).setCell ⟨fb, 1, none⟩ (.int .i64 y)) fb x y := by
  unfold Kept2 at h ⊢
  simp only [World.setCell, Array.getElem?_modify, if_true, h, Option.map_some]
  rfl
theorem far_store {w : World} {fb b o : Nat} {v u u' : Value} (h : w.cell? ⟨b, o, none⟩ = some v) (hne : b ≠ fb) : ((w.setCell ⟨fb, 0, none⟩ u).setCell ⟨fb, 1, none⟩ u').cell? ⟨b, o, none⟩ = some v := by
  rw [cell_far (a := ⟨fb, 1, none⟩) (b := ⟨b, o, none⟩) hne, cell_far (a := ⟨fb, 0, none⟩) (b := ⟨b, o, none⟩) hne]
  exact h
theorem ErrAt.store {p : Nat → Addr} {w : World} {v : Value} {c : Nat} {i : Int} {fb : Nat} {c0 i0 : Int} (h : ErrAt p w v c i) (hk : Kept2 w fb c0 i0) (x y : Int) : ErrAt p ((w.setCell ⟨fb, 0, none⟩ (.int .i64 x)).setCell ⟨fb, 1, none⟩ (.int .i64 y)) v c i := by
  rcases h with h | h | ⟨j, b, o, h0, h1, h2, h3, h4⟩
  · exact .inl h
  · exact .inr (.inl h)
  · have hne : b ≠ fb := fun e => by
      subst e
      obtain ⟨n, hn⟩ := hk.only h4
      cases hn
    exact .inr (.inr ⟨j, b, o, h0, h1, h2, far_store h3 hne, far_store h4 hne⟩)
theorem LiesAt.store {w : World} {a : Option Addr} {l : List F} {fb : Nat} {c0 i0 : Int} (h : LiesAt w a l) (hk : Kept2 w fb c0 i0) (x y : Int) : LiesAt ((w.setCell ⟨fb, 0, none⟩ (.int .i64 x)).setCell ⟨fb, 1, none⟩ (.int .i64 y)) a l := fun hl => by
  obtain ⟨b, o, e, hc⟩ := h hl
  refine ⟨b, o, e, fun k hlt => ?_⟩
  obtain ⟨h0, h1, h2⟩ := hc k hlt
  have hne : b ≠ fb := fun e => by
    subst e
    obtain ⟨n, hn⟩ := hk.only h0
    cases hn
  exact ⟨far_store h0 hne, far_store h1 hne, far_store h2 hne⟩
theorem below_store {w0 w : World} {fb : Nat} (hb : Below w0.heap.size w0 w) (hf : w0.heap.size ≤ fb) (x y : Value) : Below w0.heap.size w0 ((w.setCell ⟨fb, 0, none⟩ x).setCell ⟨fb, 1, none⟩ y) :=
  (hb.setCell (p := ⟨fb, 0, none⟩) hf _).setCell (p := ⟨fb, 1, none⟩) hf _

theorem readP_few (s : List UInt8) : (readP s).1.length ≤ 100000 := by
  rcases readP_cases s with ⟨r, hr, _, ht⟩ | ⟨c, i, hr, _⟩
  · rw [hr]
    have := (tree_good.1 ht).2.1
    show r.length ≤ 100000
    omega
  · rw [hr]
    simp

set_option maxRecDepth 100000 in
set_option maxHeartbeats 8000000 in
open Classical in
theorem packTells_any (p : Nat → Addr) (l : List F) (a : Option Addr) (ca : Nat) (s : List UInt8) (w : World) (hE : Env p w) (hS : SEnv p w) (hC : Came w a ca l) :
    Calls Tryz.prog 3 #[.slice a l.length ca, .string ⟨s.toArray⟩] w fun e w' => e = .returned (.bool true) ∧ Below w.heap.size w w' := by
  have HE := Lib.hid hE
  have HS := Lib.hid hS
  have HC := Lib.hid hC
  clear hE hS hC
  go_enter Tryz.func3, Tryz.ntmps3
  go_wp2_with fail
  refine (packed_any p _ HE.out HS.out).mono ?_
  rintro e w1 ⟨rfl, hb1⟩
  have HB1 := Lib.hid hb1
  clear hb1
  rcases longL_or l with hlong | hlong
  case inr =>
    go_wp2_with fail
    refine (long_is (HC.out.below HB1.out) 1 hlong).mono ?_
    rintro e w2 ⟨rfl, rfl⟩
    go_wp2
    go_ret
    exact ⟨rfl, HB1.out⟩
  go_wp2_with fail
  refine (long_is (HC.out.below HB1.out) 0 hlong).mono ?_
  rintro e w2 ⟨rfl, rfl⟩
  have HSM := Lib.hid (small_of_long hlong)
  have hln := HSM.out.few
  clear hlong
  by_cases hs : 2000 < s.length ∧ s.length ≠ 20001
  · have hs1 : (2000 : Int) < (s.length : Int) := by omega
    have hs2 : ¬ ((s.length : Int) = 20001) := by omega
    go_wp2
    go_ret
    exact ⟨rfl, HB1.out⟩
  have hsl : s.length ≤ 90000 := by omega
  rcases (show ((s.length : Int) ≤ 2000) ∨ ((2000 : Int) < (s.length : Int) ∧ (s.length : Int) = 20001) by omega) with hs1 | ⟨hs1, hs2⟩
  case' inl => have hs1' : decide ((2000 : Int) < (s.length : Int)) = false := by simp; omega
  all_goals
    clear hs
    go_wp2_with fail
    refine (ownFiles_any l a ca _ (HC.out.lies.below HB1.out) HC.out.nil hln).mono ?_
    rintro e w3 ⟨⟨v, rfl, hown⟩, hb3⟩
    obtain ⟨oa, oc, rfl, hol, hoc⟩ := owns_files hown
    have HB3 := Lib.hid (HB1.out.trans (hb3.mono HB1.out.size))
    have HOL := Lib.hid hol
    clear hown hol hb3
    go_wp2_with fail
    refine (packMake_any p l oa oc _ (HE.out.below HB3.out) (HS.out.below HB3.out) HOL.out hoc HSM.out).mono ?_
    rintro e w4 ⟨⟨v4, rfl, hv4⟩, hb4⟩
    have HB4 := Lib.hid (HB3.out.trans (hb4.mono HB3.out.size))
    have HV4 := Lib.hid hv4
    clear hv4 hb4 HOL hoc
    go_wp2_with fail
    refine (packOf_any l a ca _ (HC.out.lies.below HB4.out) HSM.out).mono ?_
    rintro e w5 ⟨rfl, hb5⟩
    have HB5 := Lib.hid (HB4.out.trans (hb5.mono HB4.out.size))
    have HV5 := Lib.hid (HV4.out.below hb5)
    clear hb5 HV4
    obtain ⟨c, i, hci⟩ := fault_nat l
    rw [hci] at HV5 ⊢
    have HCI := Lib.hid hci
    clear hci
    generalize makeL l = mk
    go_wp2_with fail
    obtain ⟨W, hW⟩ : ∃ W, W = w5.alloc (.cells #[.int .i64 c, .int .i64 i] 31) := ⟨_, rfl⟩
    have hk0 : Kept2 W w5.heap.size c i := by rw [hW]; exact heap_new _ _
    have hbW : Below w5.heap.size w5 W := by rw [hW]; exact (Below.refl _ _).alloc (Nat.le_refl _) _
    have HBW := Lib.hid (HB5.out.trans (hbW.mono HB5.out.size))
    have HVW := Lib.hid (HV5.out.below hbW)
    have hfb : w.heap.size ≤ w5.heap.size := HB5.out.size
    rw [← hW]
    clear hW hbW HV5
    generalize w5.heap.size = fb at hk0 hfb ⊢
    have HK0 := Lib.hid hk0
    clear hk0
    refine (faulted_err HVW.out (HE.out.below HBW.out)).mono ?_
    rintro e w6 ⟨rfl, hb6⟩
    have HB6 := Lib.hid (HBW.out.trans (hb6.mono HBW.out.size))
    have HK6 := Lib.hid (HK0.out.below hb6)
    clear hb6 HVW HK0
    go_wp2_with fail
    refine (ownFiles_any l a ca _ (HC.out.lies.below HB6.out) HC.out.nil hln).mono ?_
    rintro e w7 ⟨⟨v, rfl, hown⟩, hb7⟩
    obtain ⟨oa2, oc2, rfl, hol, hoc⟩ := owns_files hown
    have HB7 := Lib.hid (HB6.out.trans (hb7.mono HB6.out.size))
    have HK7 := Lib.hid (HK6.out.below hb7)
    have HOL := Lib.hid hol
    clear hown hol hb7 HK6
    go_wp2_with fail
    refine (packSum_any p l oa2 oc2 _ (HE.out.below HB7.out) (HS.out.below HB7.out) HOL.out hoc HSM.out).mono ?_
    rintro e w8 ⟨⟨v8, rfl, hv8⟩, hb8⟩
    have HB8 := Lib.hid (HB7.out.trans (hb8.mono HB7.out.size))
    have HK8 := Lib.hid (HK7.out.below hb8)
    have HV8 := Lib.hid hv8
    clear hv8 hb8 HOL hoc HK7
    go_wp2_with fail
    refine (treeSum_any l a ca _ (HC.out.lies.below HB8.out) HSM.out).mono ?_
    rintro e w9 ⟨rfl, hb9⟩
    have HB9 := Lib.hid (HB8.out.trans (hb9.mono HB8.out.size))
    have HK9 := Lib.hid (HK8.out.below hb9)
    have hv9 := HV8.out.below hb9
    rw [HCI.out] at hv9 ⊢
    have HV9 := Lib.hid hv9
    obtain ⟨k0, k1, z0, z1⟩ := HK9.out.cells
    clear hb9 HK8 HV8 hv9
    generalize sumT l = sm
    obtain ⟨q0, q1, _⟩ := slot_set (w := w9) (wr := w9) (b := fb) (.int .i64 c) (.int .i64 i) k0 k1 (Below.refl _ _)
    go_wp2_with fail
    refine (faulted_err (HV9.out.store HK9.out c i) (HE.out.below (below_store HB9.out hfb _ _))).mono ?_
    rintro e w10 ⟨rfl, hb10⟩
    have HBS := below_store HB9.out hfb (.int .i64 c) (.int .i64 i)
    have HB10 := Lib.hid (HBS.trans (hb10.mono HBS.size))
    have HK10 := Lib.hid ((HK9.out.store c i).below hb10)
    clear hb10 HK9 HV9 HBS k0 k1 z0 z1 q0 q1
    obtain ⟨r, rc, ri, hr⟩ : ∃ r rc ri, readP s = (r, rc, ri) := ⟨_, _, _, rfl⟩
    have HR := Lib.hid hr
    have hrl : r.length ≤ 100000 := by
      have := readP_few s
      rw [hr] at this
      exact this
    clear hr
    go_wp2_with fail
    refine (told_open (packRead_any p s _ (HE.out.below HB10.out) (HS.out.below HB10.out) hsl) HR.out).mono ?_
    rintro e w11 ⟨⟨ya, yc, v11, rfl, hyl, hv11⟩, hb11⟩
    have HB11 := Lib.hid (HB10.out.trans (hb11.mono HB10.out.size))
    have HK11 := Lib.hid (HK10.out.below hb11)
    have HV11 := Lib.hid hv11
    have HY11 := Lib.hid hyl
    clear hyl hv11 hb11 HK10
    go_wp2_with fail
    refine (ref_open (refReadPack_any s _ hsl) HR.out).mono ?_
    rintro e w12 ⟨⟨xa, xc, rfl, hxl⟩, hb12⟩
    have HB12 := Lib.hid (HB11.out.trans (hb12.mono HB11.out.size))
    have HK12 := Lib.hid (HK11.out.below hb12)
    have HV12 := Lib.hid (HV11.out.below hb12)
    have HY12 := Lib.hid (HY11.out.below hb12)
    have HX12 := Lib.hid hxl
    obtain ⟨k0, k1, z0, z1⟩ := HK12.out.cells
    clear hxl hb12 HK11 HV11 HY11
    obtain ⟨q0, q1, _⟩ := slot_set (w := w12) (wr := w12) (b := fb) (.int .i64 rc) (.int .i64 ri) k0 k1 (Below.refl _ _)
    go_wp2_with fail
    refine (faulted_err (HV12.out.store HK12.out rc ri) (HE.out.below (below_store HB12.out hfb _ _))).mono ?_
    rintro e w13 ⟨rfl, hb13⟩
    have HBS := below_store HB12.out hfb (.int .i64 rc) (.int .i64 ri)
    have HB13 := Lib.hid (HBS.trans (hb13.mono HBS.size))
    have HY13 := Lib.hid ((HY12.out.store HK12.out rc ri).below hb13)
    have HX13 := Lib.hid ((HX12.out.store HK12.out rc ri).below hb13)
    clear hb13 HBS k0 k1 z0 z1 q0 q1 HK12 HV12
    go_wp2_with fail
    refine (sameTrees_any r r ya xa yc xc _ HY13.out HX13.out hrl hrl).mono ?_
    rintro e w14 ⟨rfl, hb14⟩
    have HB14 := Lib.hid (HB13.out.trans (hb14.mono HB13.out.size))
    rw [decide_eq_true rfl]
    clear hb14
    go_wp2
    go_ret
    exact ⟨rfl, HB14.out⟩
end Go.Proofs.YtkcjgncpcidfoaaGreatDoor
