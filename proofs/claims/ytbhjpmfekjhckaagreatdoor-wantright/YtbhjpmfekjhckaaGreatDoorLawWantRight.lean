/-
  The statement WantRight answers true, whatever comes in: over this seat's translation.
-/
import Derived.Test.YtbhjpmfekjhckaaGreatDoorPkWantReadWantBox
import Derived.Test.YtbhjpmfekjhckaaGreatDoorPkWantOpenPkWantRight
import Derived.Test.YtbhjpmfekjhckaaGreatDoorPkGraft
import Derived.Test.YtbhjpmfekjhckaaGreatDoorPkSame
import Derived.Test.YtbhjpmfekjhckaaGreatDoorPkPress
import Derived.Test.YtbhjpmfekjhckaaGreatDoorSumTreePkMakePkPackMakePkPackSum
import Derived.Test.YtbhjpmfekjhckaaGreatDoorTreePureTreeSortTreeFactsTreeInsertGraftFine
import Derived.Test.YtbhjpmfekjhckaaGreatDoorLawTreeCame
import Derived.Test.YtbhjpmfekjhckaaGreatDoorOpenedWantOpened
import Derived.Test.YtbhjpmfekjhckaaGreatDoorRefCut
import Derived.Test.YtbhjpmfekjhckaaGreatDoorCodedCodedV
namespace Go.Proofs.YtbhjpmfekjhckaaGreatDoor
open Go.RowKit Go.Shelf

theorem press_small {n u k : List UInt8} {S : Int} {N : Nat} {s : List UInt8} {l : List F} (hN : N = sumL (packL l)) (h1 : openW ⟨n, u, k, S, N⟩ s = (l, 0)) (hl : (treeFault l).1 = 0) : rightW ⟨n, u, k, S, N⟩ s = (l, 0) := by
  rw [rightW_is h1 hl]
  show (if ((sumL (packL l) : Nat) : Int) = (N : Int) then _ else _) = _
  rw [hN, if_pos rfl]
/-- What is packed, or pressed, is what it was, below what is stripped; with another sum nothing is right. -/
theorem want_facts {n u k : List UInt8} {s0 S : Int} {N : Nat} {l T : List F} {s : List UInt8} (hc : wantCode ⟨n, u, k, s0, N⟩ = 0) (hS : 0 ≤ S ∧ S ≤ 6) (hT : (treeFault T).1 = 0) (hST : stripT T S = (l, 0, -1))
    (hk : (k = [112, 97, 99, 107] ∧ s = packL T) ∨ (k = [112, 114, 101, 115, 115] ∧ s = pressL (packL T))) (hs : ¬ 20000 < s.length) (hl : (treeFault l).1 = 0) (hN : N = sumL (packL l)) :
    openW ⟨n, u, k, S, N⟩ s = (l, 0) ∧ rightW ⟨n, u, k, S, N⟩ s = (l, 0) ∧ rightW ⟨n, u, k, S, (((N + 1) % 1000000007 : Nat) : Int)⟩ s = ([], 12) := by
  have hlt : N < 1000000007 := by rw [hN]; exact sumL_lt _
  have hkp : k ≠ kPlain := by
    rcases hk with ⟨rfl, _⟩ | ⟨rfl, _⟩
    · decide
    · decide
  have isn : ∀ z : Nat, z < 1000000007 → isS (z : Int) = true := fun z hz => by
    unfold isS
    rw [decide_eq_true_eq]
    omega
  have hcode : ∀ z : Nat, z < 1000000007 → wantCode ⟨n, u, k, S, (z : Int)⟩ = 0 := fun z hz => want_other (x := ⟨n, u, k, s0, N⟩) hc hkp hS (isn z hz)
  have hopen : ∀ z : Nat, z < 1000000007 → openW ⟨n, u, k, S, (z : Int)⟩ s = (l, 0) := fun z hz => by
    rcases hk with ⟨rfl, rfl⟩ | ⟨rfl, rfl⟩
    · rw [openW_pack (hcode z hz) hs rfl]
      show ((packT S (packL T)).1, (packT S (packL T)).2.1) = _
      rw [packT_back hT hST]
    · rw [openW_press (hcode z hz) hs rfl]
      show ((pressT S (pressL (packL T))).1, (pressT S (pressL (packL T))).2.1) = _
      rw [pressT_back hT hST]
  refine ⟨hopen N hlt, press_small hN (hopen N hlt) hl, ?_⟩
  have hz : (N + 1) % 1000000007 < 1000000007 := Nat.mod_lt _ (by decide)
  rw [rightW_is (hopen _ hz) hl]
  show (if ((sumL (packL l) : Nat) : Int) = (((N + 1) % 1000000007 : Nat) : Int) then _ else _) = _
  rw [← hN, if_neg]
  intro e
  have e' : N = (N + 1) % 1000000007 := by exact_mod_cast e
  rcases Nat.lt_or_ge (N + 1) 1000000007 with h | h
  · rw [Nat.mod_eq_of_lt h] at e'
    omega
  · have : N + 1 = 1000000007 := by omega
    rw [this, Nat.mod_self] at e'
    omega

theorem toldB_bad {f : Nat} {args : Array Value} {p : Nat → Addr} {W : World} {r : List F × Nat} {c : Nat} (h : Calls Tryz.prog f args W fun e w' => ToldB p w' e r ∧ Below W.heap.size W w') (hr : r = ([], c)) :
    Calls Tryz.prog f args W fun e w' => (∃ a ca, e = .returned (.tuple #[.slice a 0 ca, errV p c])) ∧ Below W.heap.size W w' := by
  subst hr
  exact h.mono fun e w' ⟨⟨a, ca, he, _⟩, hb⟩ => ⟨⟨a, ca, he⟩, hb⟩
theorem wrap_one {N : Nat} (h : N < 1000000007) : IntKind.i64.wrap ((N : Int) + 1) = ((N + 1 : Nat) : Int) := by
  rw [IntKind.wrap_i64]
  omega
theorem mod_one (N : Nat) : Int.tmod ((N + 1 : Nat) : Int) 1000000007 = (((N + 1) % 1000000007 : Nat) : Int) := by
  rw [Int.tmod_eq_emod_of_nonneg (by omega)]
  omega
theorem mod_cast' (N : Nat) : (((N + 1) % 1000000007 : Nat) : Int) = ((N : Int) + 1) % 1000000007 := by omega
theorem coded_sum (p : Nat → Addr) (w : World) (hE : Env p w) : Calls Tryz.prog 17 #[errV p 12, .int .i64 12] w fun e w' => e = .returned (.bool true) ∧ Below w.heap.size w w' := coded_errV p 12 w hE (by decide)
theorem pieces_few {d : List UInt8} (h : checkCode d = 0) : (pieces d).length ≤ 6 := (checkCode_zero.1 h).2

set_option maxRecDepth 100000 in
set_option maxHeartbeats 20000000 in
open Classical in
theorem wantRight_law (p : Nat → Addr) (n u k : List UInt8) (s0 m0 : Int) (l : List F) (a : Option Addr) (ca : Nat) (dir : List UInt8) (w : World) (hE : WEnv p w) (hC : Came w a ca l) :
    Calls Tryz.prog 3 #[wv ⟨n, u, k, s0, m0⟩, .slice a l.length ca, .string ⟨dir.toArray⟩] w fun e w' => e = .returned (.bool true) ∧ Below w.heap.size w w' := by
  have HE := Lib.hid hE
  have HC := Lib.hid hC
  have HE0 : Hid (WEnv p (w.alloc (wo n u k s0 m0))) := hE.below ((Below.refl _ _).alloc (Nat.le_refl _) _)
  clear hE hC
  go_enter Tryz.func3, Tryz.ntmps3
  go_wp2_with fail
  refine (wanted_any p _ HE0.out).mono ?_
  rintro e w1 ⟨rfl, hb1⟩
  have HK1 := Lib.hid (BlockAt.box hb1)
  have HB1 := Lib.hid (want_box hb1).2
  have hBw : w.heap.size ≤ w.heap.size := Nat.le_refl _
  clear hb1 HE0
  obtain ⟨c0, c1, c2, c3, c4⟩ := HK1.out.at
  rcases longW_or n u k with hlw | hlw
  case inr =>
    go_wp2_with fail
    refine (longWant_is n u k s0 m0 1 _ (by rw [hlw]; rfl)).mono ?_
    rintro e w2 ⟨rfl, hb2⟩
    have HB2 := Lib.hid (HB1.out.trans (hb2.mono HB1.out.size))
    clear hb2
    go_wp2
    go_ret
    exact ⟨rfl, HB2.out⟩
  obtain ⟨hn, hu, hk20⟩ := longW_zero hlw
  go_wp2_with fail
  refine (longWant_is n u k s0 m0 0 _ (by rw [hlw]; rfl)).mono ?_
  rintro e w2 ⟨rfl, hb2⟩
  have HB2 := Lib.hid (HB1.out.trans (hb2.mono HB1.out.size))
  have HK2 := Lib.hid (HK1.out.below hb2)
  clear hb2 hlw c0 c1 c2 c3 c4 HK1 HB1
  rcases longL_or l with hlong | hlong
  case inr =>
    go_wp2_with fail
    refine (long_is (HC.out.below HB2.out) 1 hlong).mono ?_
    rintro e w' ⟨rfl, hw'⟩
    obtain rfl : w2 = w' := hw'.symm
    go_wp2
    go_ret
    exact ⟨rfl, HB2.out⟩
  go_wp2_with fail
  refine (long_is (HC.out.below HB2.out) 0 hlong).mono ?_
  rintro e w' ⟨rfl, hw'⟩
  obtain rfl : w2 = w' := hw'.symm
  have HSM := Lib.hid (small_of_long hlong)
  have hln := HSM.out.few
  clear hlong hw'
  by_cases hd60 : 60 < dir.length
  · have hd60' : (60 : Int) < (dir.length : Int) := by omega
    go_wp2
    go_ret
    exact ⟨rfl, HB2.out⟩
  have hd60' : decide ((60 : Int) < (dir.length : Int)) = false := by simp; omega
  go_wp2_with fail
  refine (ownFiles_any l a ca _ (HC.out.lies.below HB2.out) HC.out.nil hln).mono ?_
  rintro e w3 ⟨⟨v, rfl, hown⟩, hb3⟩
  obtain ⟨oa, oc, rfl, hol, hoc⟩ := owns_files hown
  have HB3 := Lib.hid (HB2.out.trans (hb3.mono HB2.out.size))
  have HK3 := Lib.hid (HK2.out.below hb3)
  have HOL := Lib.hid hol
  clear hown hol hb3 HB2 HK2 hd60'
  go_wp2_with fail
  refine (packSum_any p l oa oc _ (HE.out.below HB3.out).env (HE.out.below HB3.out).sum HOL.out hoc HSM.out).mono ?_
  rintro e w4 ⟨⟨v, rfl, hv⟩, hb4⟩
  have HB4 := Lib.hid (HB3.out.trans (hb4.mono HB3.out.size))
  have HK4 := Lib.hid (HK3.out.below hb4)
  clear hb4 HB3 HK3 HOL
  obtain ⟨N, hN⟩ : ∃ N, sumT l = N := ⟨_, rfl⟩
  rw [hN]
  obtain ⟨c0, c1, c2, c3, c4⟩ := HK4.out.at
  have z4 := HK4.out.live 4
  by_cases hz : (treeFault l).1 = 0
  case neg =>
    obtain ⟨T, y, rfl⟩ := hv.some hz
    have HBX : Hid (Below w.heap.size w (w4.setCell ⟨w.heap.size, 4, none⟩ (.int .i64 N))) := HB4.out.setCell (p := ⟨w.heap.size, 4, none⟩) (Nat.le_refl _) _
    clear hv hz
    go_wp2
    go_ret
    exact ⟨rfl, HBX.out⟩
  rw [hz] at hv
  have := hv.isNil
  subst this
  have HZ := Lib.hid hz
  have HN : Hid (N = sumL (packL l)) := hN.symm.trans (sum_yes hz)
  clear hv hz hN
  go_wp2_with fail
  have HB5 : Hid (Below w.heap.size w (w4.setCell ⟨w.heap.size, 4, none⟩ (.int .i64 N))) := HB4.out.setCell (p := ⟨w.heap.size, 4, none⟩) (Nat.le_refl _) _
  have HK5 := Lib.hid (HK4.out.setM (N : Int))
  generalize w4.setCell ⟨w.heap.size, 4, none⟩ (.int .i64 N) = w5 at HB5 HK5 ⊢
  clear c0 c1 c2 c3 c4 z4 HB4 HK4 w4
  obtain ⟨cd, hcd⟩ : ∃ c, wantCode ⟨n, u, k, s0, N⟩ = c := ⟨_, rfl⟩
  refine (wantCheck_is p n u k s0 N cd _ (HE.out.below HB5.out) (by omega) (by omega) hcd).mono ?_
  rintro e w6 ⟨rfl, hb6⟩
  have HB6 := Lib.hid (HB5.out.trans (hb6.mono HB5.out.size))
  have HK6 := Lib.hid (HK5.out.below hb6)
  clear hb6 HB5 HK5
  obtain ⟨c0, c1, c2, c3, c4⟩ := HK6.out.at
  cases cd with
  | succ j =>
    rw [errV_some p (Nat.succ_ne_zero j)]
    go_wp2
    go_ret
    exact ⟨rfl, HB6.out⟩
  | zero =>
    rw [errV_zero]
    have HCD := Lib.hid hcd
    have hkk := kind_cases (want_zero hcd).2.2.1
    have z3 := HK6.out.live 3
    clear hcd
    rcases hkk with hk | hk | hk
    · replace hk : k = [112, 108, 97, 105, 110] := hk
      subst hk
      go_wp2
      go_ret
      exact ⟨rfl, HB6.out⟩
    · replace hk : k = [112, 97, 99, 107] := hk
      subst hk
      go_wp2_with fail
      have HB7 : Hid (Below w.heap.size w (w6.setCell ⟨w.heap.size, 3, none⟩ (.int .i64 0))) := HB6.out.setCell (p := ⟨w.heap.size, 3, none⟩) (Nat.le_refl _) _
      have HK7 := Lib.hid (HK6.out.setS 0)
      generalize w6.setCell ⟨w.heap.size, 3, none⟩ (.int .i64 0) = w7 at HB7 HK7 ⊢
      clear c0 c1 c2 c3 c4 z3 HB6 HK6 w6
      refine (ownFiles_any l a ca _ (HC.out.lies.below HB7.out) HC.out.nil hln).mono ?_
      rintro e w8 ⟨⟨v, rfl, hown⟩, hb8⟩
      obtain ⟨ta, tc, rfl, htl, htc⟩ := owns_files hown
      have HB8 := Lib.hid (HB7.out.trans (hb8.mono HB7.out.size))
      have HK8 := Lib.hid (HK7.out.below hb8)
      have HTL := Lib.hid htl
      clear hown htl hb8 HB7 HK7
      by_cases hd : dir = []
      · subst hd
        have hST := stripT_none HZ.out
        have HTZ := HZ
        have HTS := HSM
        have HF := Lib.hid (fun (s : List UInt8) h1 h2 => want_facts (s := s) HCD.out (S := 0) (by omega) HZ.out hST h1 h2 HZ.out HN.out)
        clear hST
        go_wp2_with fail
        refine (packMake_any p l ta tc _ (HE.out.below HB8.out).env (HE.out.below HB8.out).sum HTL.out htc HTS.out).mono ?_
        rintro e t1 ⟨⟨v, rfl, hv⟩, tb1⟩
        rw [HTZ.out] at hv
        have := hv.isNil
        subst this
        have HT1 := Lib.hid (HB8.out.trans (tb1.mono HB8.out.size))
        have HK1 := Lib.hid (HK8.out.below tb1)
        have hps := pack_small HTZ.out
        rw [make_yes HTZ.out]
        clear hv tb1 HB8 HK8 HTL htc
        obtain ⟨c0, c1, c2, c3, c4⟩ := HK1.out.at
        have HT2 := HT1
        have HK2 := HK1
        have HFP := Lib.hid (fun h => HF.out (packL l) (.inl ⟨by trivial, rfl⟩) h)
        generalize packL l = s at HFP hps ⊢
        obtain ⟨hF1, hF2, hF3⟩ := HFP.out (by omega)
        have hsl : ¬ 20000 < s.length := by omega
        have hsl' : ¬ (20000 : Int) < (s.length : Int) := by omega
        have HF1 := Lib.hid hF1
        have HF2 := Lib.hid hF2
        have HF3 := Lib.hid hF3
        clear HFP HF hF1 hF2 hF3 hps
        go_wp2_with fail
        refine (toldB_open (wantRight_any p n u [112, 97, 99, 107] 0 N s _ (HE.out.below HT2.out) (by omega) (by omega) (by omega)) HF2.out).mono ?_
        rintro e t3 ⟨⟨xa, xc, rfl, hxl, _⟩, tb3⟩
        have HT3 := Lib.hid (HT2.out.trans (tb3.mono HT2.out.size))
        have HK3 := Lib.hid (HK2.out.below tb3)
        have HXL := Lib.hid hxl
        rw [errV_zero]
        clear hxl tb3 HT2 HK2 c0 c1 c2 c3 c4
        go_wp2_with fail
        refine (same_any l l xa a xc ca _ HXL.out (HC.out.lies.below HT3.out) hln hln).mono ?_
        rintro e t4 ⟨rfl, tb4⟩
        have HT4 := Lib.hid (HT3.out.trans (tb4.mono HT3.out.size))
        have HK4 := Lib.hid (HK3.out.below tb4)
        rw [decide_eq_true rfl]
        clear tb4 HT3 HK3 HXL
        obtain ⟨c0, c1, c2, c3, c4⟩ := HK4.out.at
        go_wp2_with fail
        refine (toldB_open (wantOpen_any p n u [112, 97, 99, 107] 0 N s _ (HE.out.below HT4.out) (by omega) (by omega) (by omega)) HF1.out).mono ?_
        rintro e t5 ⟨⟨ya, yc, rfl, hyl, _⟩, tb5⟩
        have HT5 := Lib.hid (HT4.out.trans (tb5.mono HT4.out.size))
        have HK5 := Lib.hid (HK4.out.below tb5)
        have HYL := Lib.hid hyl
        rw [errV_zero]
        clear hyl tb5 HT4 HK4 c0 c1 c2 c3 c4
        go_wp2_with fail
        refine (same_any l l ya a yc ca _ HYL.out (HC.out.lies.below HT5.out) hln hln).mono ?_
        rintro e t6 ⟨rfl, tb6⟩
        have HT6 := Lib.hid (HT5.out.trans (tb6.mono HT5.out.size))
        have HK6 := Lib.hid (HK5.out.below tb6)
        rw [decide_eq_true rfl]
        clear tb6 HT5 HK5 HYL
        obtain ⟨c0, c1, c2, c3, c4⟩ := HK6.out.at
        have z4 := HK6.out.live 4
        have hNl : N < 1000000007 := by rw [HN.out]; exact sumL_lt _
        have hw1 := wrap_one hNl
        have hm1 := mod_one N
        have HM := Lib.hid (mod_cast' N)
        go_wp2_with fail
        rw [← HM.out]
        have HT7 : Hid (Below w.heap.size w (t6.setCell ⟨w.heap.size, 4, none⟩ (.int .i64 (((N + 1) % 1000000007 : Nat) : Int)))) := HT6.out.setCell (p := ⟨w.heap.size, 4, none⟩) (Nat.le_refl _) _
        have HK7 := Lib.hid (HK6.out.setM (((N + 1) % 1000000007 : Nat) : Int))
        generalize t6.setCell ⟨w.heap.size, 4, none⟩ (.int .i64 (((N + 1) % 1000000007 : Nat) : Int)) = t7 at HT7 HK7 ⊢
        generalize (((N + 1) % 1000000007 : Nat) : Int) = M at HF3 ⊢
        clear c0 c1 c2 c3 c4 z4 hw1 hm1 HT6 HK6 HM
        refine (toldB_bad (wantRight_any p n u [112, 97, 99, 107] 0 M s _ (HE.out.below HT7.out) (by omega) (by omega) (by omega)) HF3.out).mono ?_
        rintro e t8 ⟨⟨za, zc, rfl⟩, tb8⟩
        have HT8 := Lib.hid (HT7.out.trans (tb8.mono HT7.out.size))
        clear tb8 HT7 HK7
        go_wp2_with fail
        refine (coded_sum p _ (HE.out.below HT8.out).env).mono ?_
        rintro e t9 ⟨rfl, tb9⟩
        have HT9 := Lib.hid (HT8.out.trans (tb9.mono HT8.out.size))
        clear tb9
        go_wp2
        go_ret
        exact ⟨rfl, HT9.out⟩
      · have hd2 : (dir == []) = false := by simpa using hd
        have hd3 : dir.isEmpty = false := by simpa using hd
        clear HTL htc
        go_wp2_with fail
        refine (graft_any p [] l none a 0 ca dir _ (HE.out.below HB8.out).env (fun h => absurd rfl h) (HC.out.lies.below HB8.out) (Nat.le_refl _) HC.out.cap ⟨by simp, fun f hf => by simp at hf, fun f hf => by simp at hf⟩ HSM.out (by omega)).mono ?_
        rintro e w9 ⟨ht, hb9⟩
        have HB9 := Lib.hid (HB8.out.trans (hb9.mono HB8.out.size))
        have HK9 := Lib.hid (HK8.out.below hb9)
        clear hb9 HB8 HK8
        by_cases hg : (graftT [] dir l).2.1 = 0
        case neg =>
          obtain ⟨⟨T, cT, iT⟩, hr⟩ : ∃ y, graftT [] dir l = y := ⟨_, rfl⟩
          rw [hr] at hg
          obtain ⟨xa, xc, v, rfl, _, _, hv⟩ := ht.open hr
          obtain ⟨y, z, rfl⟩ := hv.some hg
          clear ht hv hr hg
          go_wp2
          go_ret
          exact ⟨rfl, HB9.out⟩
        obtain ⟨X, hgX, _, _, G⟩ := graft_fine hg
        obtain ⟨aX, cX, rfl, hlX, hcX⟩ := ht.fine hgX
        have HLX := Lib.hid hlX
        have hST := strip_grafted G HZ.out
        have HTZ := Lib.hid G.tree
        have HTS := Lib.hid (tree_small G.tree)
        have hp6 := pieces_few G.dir
        have HF := Lib.hid (fun (s : List UInt8) h1 h2 => want_facts (s := s) HCD.out (S := ((pieces dir).length : Nat)) (by omega) G.tree hST h1 h2 HZ.out HN.out)
        clear ht hlX hgX hg hST G
        go_wp2_with fail
        refine (refCut_any dir _ (by omega)).mono ?_
        rintro e w10 ⟨v, rfl, hown, hb10⟩
        obtain ⟨av, cv, rfl⟩ : ∃ av cv, v = .slice av (pieces dir).length cv := by
          rcases hown.2 with ⟨h', h0⟩ | ⟨g, cap, cur, h', _⟩
          · exact ⟨none, 0, by rw [h', h0]⟩
          · exact ⟨_, _, h'⟩
        have HB10 := Lib.hid (HB9.out.trans (hb10.mono HB9.out.size))
        have HK10 := Lib.hid (HK9.out.below hb10)
        have HLX10 := Lib.hid (HLX.out.below hb10)
        clear hown hb10 HB9 HK9 HLX
        generalize (pieces dir).length = S at hp6 HF ⊢
        obtain ⟨c0, c1, c2, c3, c4⟩ := HK10.out.at
        have z3 := HK10.out.live 3
        go_wp2_with fail
        have HB11 : Hid (Below w.heap.size w (w10.setCell ⟨w.heap.size, 3, none⟩ (.int .i64 S))) := HB10.out.setCell (p := ⟨w.heap.size, 3, none⟩) (Nat.le_refl _) _
        have HK11 := Lib.hid (HK10.out.setS (S : Int))
        have HLX11 := Lib.hid (HLX10.out.apart HK10.out 3 (.int .i64 S))
        generalize w10.setCell ⟨w.heap.size, 3, none⟩ (.int .i64 S) = w11 at HB11 HK11 HLX11 ⊢
        clear c0 c1 c2 c3 c4 z3 HB10 HK10 HLX10 w10
        refine (packMake_any p X aX cX _ (HE.out.below HB11.out).env (HE.out.below HB11.out).sum HLX11.out hcX HTS.out).mono ?_
        rintro e t1 ⟨⟨v, rfl, hv⟩, tb1⟩
        rw [HTZ.out] at hv
        have := hv.isNil
        subst this
        have HT1 := Lib.hid (HB11.out.trans (tb1.mono HB11.out.size))
        have HK1 := Lib.hid (HK11.out.below tb1)
        have hps := pack_small HTZ.out
        rw [make_yes HTZ.out]
        clear hv tb1 HB11 HK11 HLX11 hcX
        obtain ⟨c0, c1, c2, c3, c4⟩ := HK1.out.at
        have HT2 := HT1
        have HK2 := HK1
        have HFP := Lib.hid (fun h => HF.out (packL X) (.inl ⟨by trivial, rfl⟩) h)
        generalize packL X = s at HFP hps ⊢
        obtain ⟨hF1, hF2, hF3⟩ := HFP.out (by omega)
        have hsl : ¬ 20000 < s.length := by omega
        have hsl' : ¬ (20000 : Int) < (s.length : Int) := by omega
        have HF1 := Lib.hid hF1
        have HF2 := Lib.hid hF2
        have HF3 := Lib.hid hF3
        clear HFP HF hF1 hF2 hF3 hps
        go_wp2_with fail
        refine (toldB_open (wantRight_any p n u [112, 97, 99, 107] S N s _ (HE.out.below HT2.out) (by omega) (by omega) (by omega)) HF2.out).mono ?_
        rintro e t3 ⟨⟨xa, xc, rfl, hxl, _⟩, tb3⟩
        have HT3 := Lib.hid (HT2.out.trans (tb3.mono HT2.out.size))
        have HK3 := Lib.hid (HK2.out.below tb3)
        have HXL := Lib.hid hxl
        rw [errV_zero]
        clear hxl tb3 HT2 HK2 c0 c1 c2 c3 c4
        go_wp2_with fail
        refine (same_any l l xa a xc ca _ HXL.out (HC.out.lies.below HT3.out) hln hln).mono ?_
        rintro e t4 ⟨rfl, tb4⟩
        have HT4 := Lib.hid (HT3.out.trans (tb4.mono HT3.out.size))
        have HK4 := Lib.hid (HK3.out.below tb4)
        rw [decide_eq_true rfl]
        clear tb4 HT3 HK3 HXL
        obtain ⟨c0, c1, c2, c3, c4⟩ := HK4.out.at
        go_wp2_with fail
        refine (toldB_open (wantOpen_any p n u [112, 97, 99, 107] S N s _ (HE.out.below HT4.out) (by omega) (by omega) (by omega)) HF1.out).mono ?_
        rintro e t5 ⟨⟨ya, yc, rfl, hyl, _⟩, tb5⟩
        have HT5 := Lib.hid (HT4.out.trans (tb5.mono HT4.out.size))
        have HK5 := Lib.hid (HK4.out.below tb5)
        have HYL := Lib.hid hyl
        rw [errV_zero]
        clear hyl tb5 HT4 HK4 c0 c1 c2 c3 c4
        go_wp2_with fail
        refine (same_any l l ya a yc ca _ HYL.out (HC.out.lies.below HT5.out) hln hln).mono ?_
        rintro e t6 ⟨rfl, tb6⟩
        have HT6 := Lib.hid (HT5.out.trans (tb6.mono HT5.out.size))
        have HK6 := Lib.hid (HK5.out.below tb6)
        rw [decide_eq_true rfl]
        clear tb6 HT5 HK5 HYL
        obtain ⟨c0, c1, c2, c3, c4⟩ := HK6.out.at
        have z4 := HK6.out.live 4
        have hNl : N < 1000000007 := by rw [HN.out]; exact sumL_lt _
        have hw1 := wrap_one hNl
        have hm1 := mod_one N
        have HM := Lib.hid (mod_cast' N)
        go_wp2_with fail
        rw [← HM.out]
        have HT7 : Hid (Below w.heap.size w (t6.setCell ⟨w.heap.size, 4, none⟩ (.int .i64 (((N + 1) % 1000000007 : Nat) : Int)))) := HT6.out.setCell (p := ⟨w.heap.size, 4, none⟩) (Nat.le_refl _) _
        have HK7 := Lib.hid (HK6.out.setM (((N + 1) % 1000000007 : Nat) : Int))
        generalize t6.setCell ⟨w.heap.size, 4, none⟩ (.int .i64 (((N + 1) % 1000000007 : Nat) : Int)) = t7 at HT7 HK7 ⊢
        generalize (((N + 1) % 1000000007 : Nat) : Int) = M at HF3 ⊢
        clear c0 c1 c2 c3 c4 z4 hw1 hm1 HT6 HK6 HM
        refine (toldB_bad (wantRight_any p n u [112, 97, 99, 107] S M s _ (HE.out.below HT7.out) (by omega) (by omega) (by omega)) HF3.out).mono ?_
        rintro e t8 ⟨⟨za, zc, rfl⟩, tb8⟩
        have HT8 := Lib.hid (HT7.out.trans (tb8.mono HT7.out.size))
        clear tb8 HT7 HK7
        go_wp2_with fail
        refine (coded_sum p _ (HE.out.below HT8.out).env).mono ?_
        rintro e t9 ⟨rfl, tb9⟩
        have HT9 := Lib.hid (HT8.out.trans (tb9.mono HT8.out.size))
        clear tb9
        go_wp2
        go_ret
        exact ⟨rfl, HT9.out⟩
    · replace hk : k = [112, 114, 101, 115, 115] := hk
      subst hk
      go_wp2_with fail
      have HB7 : Hid (Below w.heap.size w (w6.setCell ⟨w.heap.size, 3, none⟩ (.int .i64 0))) := HB6.out.setCell (p := ⟨w.heap.size, 3, none⟩) (Nat.le_refl _) _
      have HK7 := Lib.hid (HK6.out.setS 0)
      generalize w6.setCell ⟨w.heap.size, 3, none⟩ (.int .i64 0) = w7 at HB7 HK7 ⊢
      clear c0 c1 c2 c3 c4 z3 HB6 HK6 w6
      refine (ownFiles_any l a ca _ (HC.out.lies.below HB7.out) HC.out.nil hln).mono ?_
      rintro e w8 ⟨⟨v, rfl, hown⟩, hb8⟩
      obtain ⟨ta, tc, rfl, htl, htc⟩ := owns_files hown
      have HB8 := Lib.hid (HB7.out.trans (hb8.mono HB7.out.size))
      have HK8 := Lib.hid (HK7.out.below hb8)
      have HTL := Lib.hid htl
      clear hown htl hb8 HB7 HK7
      by_cases hd : dir = []
      · subst hd
        have hST := stripT_none HZ.out
        have HTZ := HZ
        have HTS := HSM
        have HF := Lib.hid (fun (s : List UInt8) h1 h2 => want_facts (s := s) HCD.out (S := 0) (by omega) HZ.out hST h1 h2 HZ.out HN.out)
        clear hST
        go_wp2_with fail
        refine (packMake_any p l ta tc _ (HE.out.below HB8.out).env (HE.out.below HB8.out).sum HTL.out htc HTS.out).mono ?_
        rintro e t1 ⟨⟨v, rfl, hv⟩, tb1⟩
        rw [HTZ.out] at hv
        have := hv.isNil
        subst this
        have HT1 := Lib.hid (HB8.out.trans (tb1.mono HB8.out.size))
        have HK1 := Lib.hid (HK8.out.below tb1)
        have hps := pack_small HTZ.out
        rw [make_yes HTZ.out]
        clear hv tb1 HB8 HK8 HTL htc
        obtain ⟨c0, c1, c2, c3, c4⟩ := HK1.out.at
        go_wp2_with fail
        refine (press_any (packL l) _ (by omega) (HE.out.below HT1.out).sum.tab).mono ?_
        rintro e t2 ⟨rfl, tb2⟩
        have HT2 := Lib.hid (HT1.out.trans (tb2.mono HT1.out.size))
        have HK2 := Lib.hid (HK1.out.below tb2)
        have HFP := Lib.hid (fun h => HF.out (pressL (packL l)) (.inr ⟨by trivial, rfl⟩) h)
        generalize pressL (packL l) = s at HFP ⊢
        clear tb2 HT1 HK1 c0 c1 c2 c3 c4
        obtain ⟨c0, c1, c2, c3, c4⟩ := HK2.out.at
        by_cases hsl : 20000 < s.length
        · have hsl' : (20000 : Int) < (s.length : Int) := by omega
          go_wp2
          go_ret
          exact ⟨rfl, HT2.out⟩
        obtain ⟨hF1, hF2, hF3⟩ := HFP.out hsl
        have hsl' : ¬ (20000 : Int) < (s.length : Int) := by omega
        have HF1 := Lib.hid hF1
        have HF2 := Lib.hid hF2
        have HF3 := Lib.hid hF3
        clear HFP HF hF1 hF2 hF3 hps
        go_wp2_with fail
        refine (toldB_open (wantRight_any p n u [112, 114, 101, 115, 115] 0 N s _ (HE.out.below HT2.out) (by omega) (by omega) (by omega)) HF2.out).mono ?_
        rintro e t3 ⟨⟨xa, xc, rfl, hxl, _⟩, tb3⟩
        have HT3 := Lib.hid (HT2.out.trans (tb3.mono HT2.out.size))
        have HK3 := Lib.hid (HK2.out.below tb3)
        have HXL := Lib.hid hxl
        rw [errV_zero]
        clear hxl tb3 HT2 HK2 c0 c1 c2 c3 c4
        go_wp2_with fail
        refine (same_any l l xa a xc ca _ HXL.out (HC.out.lies.below HT3.out) hln hln).mono ?_
        rintro e t4 ⟨rfl, tb4⟩
        have HT4 := Lib.hid (HT3.out.trans (tb4.mono HT3.out.size))
        have HK4 := Lib.hid (HK3.out.below tb4)
        rw [decide_eq_true rfl]
        clear tb4 HT3 HK3 HXL
        obtain ⟨c0, c1, c2, c3, c4⟩ := HK4.out.at
        go_wp2_with fail
        refine (toldB_open (wantOpen_any p n u [112, 114, 101, 115, 115] 0 N s _ (HE.out.below HT4.out) (by omega) (by omega) (by omega)) HF1.out).mono ?_
        rintro e t5 ⟨⟨ya, yc, rfl, hyl, _⟩, tb5⟩
        have HT5 := Lib.hid (HT4.out.trans (tb5.mono HT4.out.size))
        have HK5 := Lib.hid (HK4.out.below tb5)
        have HYL := Lib.hid hyl
        rw [errV_zero]
        clear hyl tb5 HT4 HK4 c0 c1 c2 c3 c4
        go_wp2_with fail
        refine (same_any l l ya a yc ca _ HYL.out (HC.out.lies.below HT5.out) hln hln).mono ?_
        rintro e t6 ⟨rfl, tb6⟩
        have HT6 := Lib.hid (HT5.out.trans (tb6.mono HT5.out.size))
        have HK6 := Lib.hid (HK5.out.below tb6)
        rw [decide_eq_true rfl]
        clear tb6 HT5 HK5 HYL
        obtain ⟨c0, c1, c2, c3, c4⟩ := HK6.out.at
        have z4 := HK6.out.live 4
        have hNl : N < 1000000007 := by rw [HN.out]; exact sumL_lt _
        have hw1 := wrap_one hNl
        have hm1 := mod_one N
        have HM := Lib.hid (mod_cast' N)
        go_wp2_with fail
        rw [← HM.out]
        have HT7 : Hid (Below w.heap.size w (t6.setCell ⟨w.heap.size, 4, none⟩ (.int .i64 (((N + 1) % 1000000007 : Nat) : Int)))) := HT6.out.setCell (p := ⟨w.heap.size, 4, none⟩) (Nat.le_refl _) _
        have HK7 := Lib.hid (HK6.out.setM (((N + 1) % 1000000007 : Nat) : Int))
        generalize t6.setCell ⟨w.heap.size, 4, none⟩ (.int .i64 (((N + 1) % 1000000007 : Nat) : Int)) = t7 at HT7 HK7 ⊢
        generalize (((N + 1) % 1000000007 : Nat) : Int) = M at HF3 ⊢
        clear c0 c1 c2 c3 c4 z4 hw1 hm1 HT6 HK6 HM
        refine (toldB_bad (wantRight_any p n u [112, 114, 101, 115, 115] 0 M s _ (HE.out.below HT7.out) (by omega) (by omega) (by omega)) HF3.out).mono ?_
        rintro e t8 ⟨⟨za, zc, rfl⟩, tb8⟩
        have HT8 := Lib.hid (HT7.out.trans (tb8.mono HT7.out.size))
        clear tb8 HT7 HK7
        go_wp2_with fail
        refine (coded_sum p _ (HE.out.below HT8.out).env).mono ?_
        rintro e t9 ⟨rfl, tb9⟩
        have HT9 := Lib.hid (HT8.out.trans (tb9.mono HT8.out.size))
        clear tb9
        go_wp2
        go_ret
        exact ⟨rfl, HT9.out⟩
      · have hd2 : (dir == []) = false := by simpa using hd
        have hd3 : dir.isEmpty = false := by simpa using hd
        clear HTL htc
        go_wp2_with fail
        refine (graft_any p [] l none a 0 ca dir _ (HE.out.below HB8.out).env (fun h => absurd rfl h) (HC.out.lies.below HB8.out) (Nat.le_refl _) HC.out.cap ⟨by simp, fun f hf => by simp at hf, fun f hf => by simp at hf⟩ HSM.out (by omega)).mono ?_
        rintro e w9 ⟨ht, hb9⟩
        have HB9 := Lib.hid (HB8.out.trans (hb9.mono HB8.out.size))
        have HK9 := Lib.hid (HK8.out.below hb9)
        clear hb9 HB8 HK8
        by_cases hg : (graftT [] dir l).2.1 = 0
        case neg =>
          obtain ⟨⟨T, cT, iT⟩, hr⟩ : ∃ y, graftT [] dir l = y := ⟨_, rfl⟩
          rw [hr] at hg
          obtain ⟨xa, xc, v, rfl, _, _, hv⟩ := ht.open hr
          obtain ⟨y, z, rfl⟩ := hv.some hg
          clear ht hv hr hg
          go_wp2
          go_ret
          exact ⟨rfl, HB9.out⟩
        obtain ⟨X, hgX, _, _, G⟩ := graft_fine hg
        obtain ⟨aX, cX, rfl, hlX, hcX⟩ := ht.fine hgX
        have HLX := Lib.hid hlX
        have hST := strip_grafted G HZ.out
        have HTZ := Lib.hid G.tree
        have HTS := Lib.hid (tree_small G.tree)
        have hp6 := pieces_few G.dir
        have HF := Lib.hid (fun (s : List UInt8) h1 h2 => want_facts (s := s) HCD.out (S := ((pieces dir).length : Nat)) (by omega) G.tree hST h1 h2 HZ.out HN.out)
        clear ht hlX hgX hg hST G
        go_wp2_with fail
        refine (refCut_any dir _ (by omega)).mono ?_
        rintro e w10 ⟨v, rfl, hown, hb10⟩
        obtain ⟨av, cv, rfl⟩ : ∃ av cv, v = .slice av (pieces dir).length cv := by
          rcases hown.2 with ⟨h', h0⟩ | ⟨g, cap, cur, h', _⟩
          · exact ⟨none, 0, by rw [h', h0]⟩
          · exact ⟨_, _, h'⟩
        have HB10 := Lib.hid (HB9.out.trans (hb10.mono HB9.out.size))
        have HK10 := Lib.hid (HK9.out.below hb10)
        have HLX10 := Lib.hid (HLX.out.below hb10)
        clear hown hb10 HB9 HK9 HLX
        generalize (pieces dir).length = S at hp6 HF ⊢
        obtain ⟨c0, c1, c2, c3, c4⟩ := HK10.out.at
        have z3 := HK10.out.live 3
        go_wp2_with fail
        have HB11 : Hid (Below w.heap.size w (w10.setCell ⟨w.heap.size, 3, none⟩ (.int .i64 S))) := HB10.out.setCell (p := ⟨w.heap.size, 3, none⟩) (Nat.le_refl _) _
        have HK11 := Lib.hid (HK10.out.setS (S : Int))
        have HLX11 := Lib.hid (HLX10.out.apart HK10.out 3 (.int .i64 S))
        generalize w10.setCell ⟨w.heap.size, 3, none⟩ (.int .i64 S) = w11 at HB11 HK11 HLX11 ⊢
        clear c0 c1 c2 c3 c4 z3 HB10 HK10 HLX10 w10
        refine (packMake_any p X aX cX _ (HE.out.below HB11.out).env (HE.out.below HB11.out).sum HLX11.out hcX HTS.out).mono ?_
        rintro e t1 ⟨⟨v, rfl, hv⟩, tb1⟩
        rw [HTZ.out] at hv
        have := hv.isNil
        subst this
        have HT1 := Lib.hid (HB11.out.trans (tb1.mono HB11.out.size))
        have HK1 := Lib.hid (HK11.out.below tb1)
        have hps := pack_small HTZ.out
        rw [make_yes HTZ.out]
        clear hv tb1 HB11 HK11 HLX11 hcX
        obtain ⟨c0, c1, c2, c3, c4⟩ := HK1.out.at
        go_wp2_with fail
        refine (press_any (packL X) _ (by omega) (HE.out.below HT1.out).sum.tab).mono ?_
        rintro e t2 ⟨rfl, tb2⟩
        have HT2 := Lib.hid (HT1.out.trans (tb2.mono HT1.out.size))
        have HK2 := Lib.hid (HK1.out.below tb2)
        have HFP := Lib.hid (fun h => HF.out (pressL (packL X)) (.inr ⟨by trivial, rfl⟩) h)
        generalize pressL (packL X) = s at HFP ⊢
        clear tb2 HT1 HK1 c0 c1 c2 c3 c4
        obtain ⟨c0, c1, c2, c3, c4⟩ := HK2.out.at
        by_cases hsl : 20000 < s.length
        · have hsl' : (20000 : Int) < (s.length : Int) := by omega
          go_wp2
          go_ret
          exact ⟨rfl, HT2.out⟩
        obtain ⟨hF1, hF2, hF3⟩ := HFP.out hsl
        have hsl' : ¬ (20000 : Int) < (s.length : Int) := by omega
        have HF1 := Lib.hid hF1
        have HF2 := Lib.hid hF2
        have HF3 := Lib.hid hF3
        clear HFP HF hF1 hF2 hF3 hps
        go_wp2_with fail
        refine (toldB_open (wantRight_any p n u [112, 114, 101, 115, 115] S N s _ (HE.out.below HT2.out) (by omega) (by omega) (by omega)) HF2.out).mono ?_
        rintro e t3 ⟨⟨xa, xc, rfl, hxl, _⟩, tb3⟩
        have HT3 := Lib.hid (HT2.out.trans (tb3.mono HT2.out.size))
        have HK3 := Lib.hid (HK2.out.below tb3)
        have HXL := Lib.hid hxl
        rw [errV_zero]
        clear hxl tb3 HT2 HK2 c0 c1 c2 c3 c4
        go_wp2_with fail
        refine (same_any l l xa a xc ca _ HXL.out (HC.out.lies.below HT3.out) hln hln).mono ?_
        rintro e t4 ⟨rfl, tb4⟩
        have HT4 := Lib.hid (HT3.out.trans (tb4.mono HT3.out.size))
        have HK4 := Lib.hid (HK3.out.below tb4)
        rw [decide_eq_true rfl]
        clear tb4 HT3 HK3 HXL
        obtain ⟨c0, c1, c2, c3, c4⟩ := HK4.out.at
        go_wp2_with fail
        refine (toldB_open (wantOpen_any p n u [112, 114, 101, 115, 115] S N s _ (HE.out.below HT4.out) (by omega) (by omega) (by omega)) HF1.out).mono ?_
        rintro e t5 ⟨⟨ya, yc, rfl, hyl, _⟩, tb5⟩
        have HT5 := Lib.hid (HT4.out.trans (tb5.mono HT4.out.size))
        have HK5 := Lib.hid (HK4.out.below tb5)
        have HYL := Lib.hid hyl
        rw [errV_zero]
        clear hyl tb5 HT4 HK4 c0 c1 c2 c3 c4
        go_wp2_with fail
        refine (same_any l l ya a yc ca _ HYL.out (HC.out.lies.below HT5.out) hln hln).mono ?_
        rintro e t6 ⟨rfl, tb6⟩
        have HT6 := Lib.hid (HT5.out.trans (tb6.mono HT5.out.size))
        have HK6 := Lib.hid (HK5.out.below tb6)
        rw [decide_eq_true rfl]
        clear tb6 HT5 HK5 HYL
        obtain ⟨c0, c1, c2, c3, c4⟩ := HK6.out.at
        have z4 := HK6.out.live 4
        have hNl : N < 1000000007 := by rw [HN.out]; exact sumL_lt _
        have hw1 := wrap_one hNl
        have hm1 := mod_one N
        have HM := Lib.hid (mod_cast' N)
        go_wp2_with fail
        rw [← HM.out]
        have HT7 : Hid (Below w.heap.size w (t6.setCell ⟨w.heap.size, 4, none⟩ (.int .i64 (((N + 1) % 1000000007 : Nat) : Int)))) := HT6.out.setCell (p := ⟨w.heap.size, 4, none⟩) (Nat.le_refl _) _
        have HK7 := Lib.hid (HK6.out.setM (((N + 1) % 1000000007 : Nat) : Int))
        generalize t6.setCell ⟨w.heap.size, 4, none⟩ (.int .i64 (((N + 1) % 1000000007 : Nat) : Int)) = t7 at HT7 HK7 ⊢
        generalize (((N + 1) % 1000000007 : Nat) : Int) = M at HF3 ⊢
        clear c0 c1 c2 c3 c4 z4 hw1 hm1 HT6 HK6 HM
        refine (toldB_bad (wantRight_any p n u [112, 114, 101, 115, 115] S M s _ (HE.out.below HT7.out) (by omega) (by omega) (by omega)) HF3.out).mono ?_
        rintro e t8 ⟨⟨za, zc, rfl⟩, tb8⟩
        have HT8 := Lib.hid (HT7.out.trans (tb8.mono HT7.out.size))
        clear tb8 HT7 HK7
        go_wp2_with fail
        refine (coded_sum p _ (HE.out.below HT8.out).env).mono ?_
        rintro e t9 ⟨rfl, tb9⟩
        have HT9 := Lib.hid (HT8.out.trans (tb9.mono HT8.out.size))
        clear tb9
        go_wp2
        go_ret
        exact ⟨rfl, HT9.out⟩
end Go.Proofs.YtbhjpmfekjhckaaGreatDoor
