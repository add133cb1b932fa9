/-
  Package press: eachRun, with the function that Press hands it, and Press: contracts, over this seat's translation.
-/
import Derived.Test.YtbhjpmfekjhckaaGreatDoorPkTimesPkEachPkSize
import Derived.Test.YtbhjpmfekjhckaaGreatDoorWrittenWrittenByte
import Derived.Test.YtbhjpmfekjhckaaGreatDoorDigitsReadPure
import Derived.Deep.LoopGhost
namespace Go.Proofs.YtbhjpmfekjhckaaGreatDoor
open Go.RowKit Go.Shelf

theorem grown_below (w : World) (k : Nat) (os : Array Obj) : Below w.heap.size w (Go.Sort.grow (w.drewN k) os) :=
  ⟨rfl, rfl, rfl, by simp [Go.Sort.grow, World.drewN], fun k hk => by simp [Go.Sort.grow, World.drewN, Array.getElem?_append_left hk]⟩
theorem itoaT_any (n : Nat) (w : World) (hn : n < 9223372036854775808) (htab : Lib.TabIs Tryz.prog w "internal/strconv.uint64pow10" .u64 Lib.pow10Tab) :
    Calls Tryz.prog 36 #[.int .i64 n] w fun e w' => e = .returned (.string ⟨(digitsL n).toArray⟩) ∧ Below w.heap.size w w' :=
  (Tryz.strconv_Itoa n (by omega) (by omega) w htab).mono fun e w' ⟨h1, k, os, h2⟩ => ⟨by rw [h1, Lib.itoa_nonneg, itoa_digits], by rw [h2]; exact grown_below w k os⟩

/-- The table of powers of ten. -/
def Tab (w : World) : Prop := Lib.TabIs Tryz.prog w "internal/strconv.uint64pow10" .u64 Lib.pow10Tab
theorem Tryz.gPowT : Tryz.prog.globalNamed "internal/strconv.uint64pow10" = some 15 := by kernel_rfl
theorem Tab.lt {w : World} (h : Tab w) : 15 < w.heap.size := by
  unfold Tab Lib.TabIs World.var? at h
  rw [Tryz.gPowT] at h
  simp only [Option.bind_some] at h
  rcases Nat.lt_or_ge 15 w.heap.size with h' | h'
  · exact h'
  · rw [Array.getElem?_eq_none h'] at h; cases h
theorem Tab.to {n : Nat} {w w' : World} (h : Tab w) (hb : Below n w w') (hn : 15 < n) : Tab w' := by
  unfold Tab Lib.TabIs World.var? at h ⊢
  rw [Tryz.gPowT] at h ⊢
  simp only [Option.bind_some] at h ⊢
  rw [hb.block _ hn]
  exact h
theorem Tab.below {w w' : World} (h : Tab w) (hb : Below w.heap.size w w') : Tab w' := h.to hb h.lt

theorem pressHand_any (B bb n : Nat) (b : UInt8) (l : List UInt8) (w : World) (hB : B ≤ bb) (h : Built B bb l w) (hl : l.length ≤ 100000000000) (hn : n ≤ 999999999) (ht : Tab w) :
    Calls Tryz.prog 35 #[.int .i64 n, .int .u8 b.toNat, .pointer (some ⟨bb, 0, none⟩)] w fun e w' => e = .returned (.tuple #[]) ∧ Built B bb (l ++ runL (n, b)) w' ∧ Below B w w' := by
  have HB := Lib.hid h
  have HT := Lib.hid ht
  have hBw : B ≤ w.heap.size := Nat.le_trans hB (Nat.le_of_lt h.lt)
  have hdl : (digitsL n).length ≤ 9 := digits_length 8 n (by omega)
  clear h ht
  go_enter Tryz.func35, Tryz.ntmps35
  go_wp2_with fail
  refine (itoaT_any n _ (by omega) HT.out).mono ?_
  rintro e w1 ⟨rfl, hb1⟩
  have HB1 := Lib.hid (HB.out.below hb1)
  have HW1 := Lib.hid (hb1.mono hBw)
  have hBw1 : B ≤ w1.heap.size := Nat.le_trans hBw hb1.size
  clear hb1 HB HT
  go_wp2_with fail
  refine (built_write B bb l (digitsL n) _ HB1.out (by omega) hBw1).mono ?_
  rintro e w2 ⟨rfl, hq2, hb2, _⟩
  have HB2 := Lib.hid hq2
  have HW2 := Lib.hid (HW1.out.trans hb2)
  have hBw2 : B ≤ w2.heap.size := Nat.le_trans hBw1 hb2.size
  clear hb2 hq2 HB1 HW1
  go_wp2_with fail
  refine (built_write B bb (l ++ digitsL n) [58] _ HB2.out (by simp; omega) hBw2).mono ?_
  rintro e w3 ⟨rfl, hq3, hb3, _⟩
  have HB3 := Lib.hid hq3
  have HW3 := Lib.hid (HW2.out.trans hb3)
  have hBw3 : B ≤ w3.heap.size := Nat.le_trans hBw2 hb3.size
  clear hb3 hq3 HB2 HW2
  go_wp2_with fail
  refine (built_byte B bb (l ++ digitsL n ++ [58]) b _ HB3.out (by simp; omega) hBw3).mono ?_
  rintro e w4 ⟨rfl, hq4, hb4, _⟩
  have HB4 := Lib.hid hq4
  have HW4 := Lib.hid (HW3.out.trans hb4)
  clear hb4 hq4 HB3 HW3
  go_wp2
  go_end0
  refine ⟨rfl, ?_, HW4.out⟩
  have e : l ++ runL (n, b) = l ++ digitsL n ++ [58] ++ [b] := by simp [runL]
  rw [e]
  exact HB4.out

theorem run_off {r : List UInt8} {b : UInt8} {t : Nat} (h1 : 1 ≤ t) (htk : r.take t = List.replicate t b) (hn : r[t]? ≠ some b) : runs r = (t, b) :: runs (r.drop t) := by
  obtain ⟨k, rfl⟩ : ∃ k, t = k + 1 := ⟨t - 1, by omega⟩
  conv => lhs; rw [← List.take_append_drop (k + 1) r, htk]
  exact runs_rep k b _ (by rw [List.head?_drop]; exact hn)

theorem take_one {r : List UInt8} {b : UInt8} (h : r[0]? = some b) : r.take 1 = List.replicate 1 b := by
  cases r with
  | nil => cases h
  | cons x y => simp at h; simp [h]
theorem rep_more {r : List UInt8} {b : UInt8} {t : Nat} (h : t < r.length) (hc : r[t] = b) (ht : r.take t = List.replicate t b) : r.take (t + 1) = List.replicate (t + 1) b := by
  rw [List.take_add_one, List.getElem?_eq_getElem h, ht, hc, List.replicate_succ']
  rfl

set_option maxRecDepth 100000 in
set_option maxHeartbeats 4000000 in
theorem eachRun_any (s : List UInt8) (g : Nat) (lb : Array Value) (eg : ∀ args w, (callFunc g args).run Tryz.prog w = .ok (.enter g args) w) (I : List (Nat × UInt8) → World → Prop) (w : World) (hs : s.length ≤ 999999999)
    (hI : I [] w) (hbel : ∀ d w w', I d w → Below w.heap.size w w' → I d w')
    (hh : ∀ d n b tl w, runs s = d ++ (n, b) :: tl → I d w → Calls Tryz.prog g (#[.int .i64 (n : Nat), .int .u8 (b : UInt8).toNat] ++ lb) w fun e w' => e = .returned (.tuple #[]) ∧ I (d ++ [(n, b)]) w') :
    Calls Tryz.prog 34 #[.string ⟨s.toArray⟩, .int .i64 999999999, .func (.func g) #[] lb] w fun e w' => e = .returned (.tuple #[]) ∧ I (runs s) w' := by
  have HI := Lib.hid hI
  have HE := Lib.hid hbel
  have HH := Lib.hid hh
  clear hI hbel hh
  go_enter Tryz.func34, Tryz.ntmps34
  go_wp2_with fail
  go_loopg [6] (s.length) (fun gf rv wr => ∃ (r : List UInt8) (d : List (Nat × UInt8)), r.length ≤ gf ∧ r.length ≤ s.length ∧ rv = .string ⟨r.toArray⟩ ∧ I d wr ∧ runs s = d ++ runs r)
  case atStart => exact ⟨s, [], Nat.le_refl _, Nat.le_refl _, rfl, HI.out, rfl⟩
  case round =>
    obtain ⟨r, d, hgf, hrs, rfl, hid, hr⟩ := hrel
    have HD := Lib.hid hid
    have HR := Lib.hid hr
    clear hid hr HI
    cases r with
    | nil =>
      have HN : Hid (runs s = d) := by
        show runs s = d
        rw [HR.out]
        simp [runs]
      clear HR
      go_wp2
      go_end0
      exact ⟨rfl, by rw [HN.out]; exact HD.out⟩
    | cons b r' =>
      have hl1 : 1 ≤ (b :: r').length := by simp
      have hb0 : (b :: r')[0]? = some b := rfl
      generalize hrr : b :: r' = r at hgf hrs HR hl1 hb0 ⊢
      clear hrr r'
      have hne : (r.isEmpty) = false := by cases r with | nil => simp at hl1 | cons x y => rfl
      go_wp2_with fail
      obtain ⟨wo, rfl⟩ : ∃ wo, wo = wr := ⟨_, rfl⟩
      go_loopw [7] (fun tv wq => ∃ t : Nat, 1 ≤ t ∧ t ≤ r.length ∧ r.take t = List.replicate t b ∧ tv = .int .i64 (t : Int) ∧ I d wq) (fun tv _ => r.length - (intOf tv).toNat)
      case atStart => exact ⟨1, Nat.le_refl _, hl1, take_one hb0, rfl, HD.out⟩
      case round =>
        obtain ⟨t, ht1, htl, htk, rfl, hid⟩ := hrel
        have HI := Lib.hid hid
        have HT := Lib.hid htk
        clear hid htk HD
        have hz : 0 < ({ data := r.toArray } : ByteArray).size := by simp [ByteArray.size]; omega
        have hb0' : ({ data := r.toArray } : ByteArray)[0]'hz = b := by
          have : r[0]'(by omega) = b := by rw [List.getElem?_eq_getElem (by omega)] at hb0; exact Option.some.inj hb0
          exact this
        have htm : (t : Int) < 999999999 ∨ ¬ t < r.length := by omega
        by_cases hlt : t < r.length
        · have htm' : (t : Int) < 999999999 := by omega
          have hlt' : (t : Int) < (r.length : Int) := by omega
          have htz : t < ({ data := r.toArray } : ByteArray).size := by simp [ByteArray.size]; omega
          obtain ⟨c, hc⟩ : ∃ c, r[t] = c := ⟨_, rfl⟩
          have hct : ({ data := r.toArray } : ByteArray)[t]'htz = c := hc
          by_cases hcb : c = b
          · subst hcb
            have HM := Lib.hid (rep_more hlt hc HT.out)
            clear hc htm HT HH HR
            go_wp2_with fail
            go_quiet (fail)
            go_wp2
            go_roundw
            case rel => exact ⟨t + 1, by omega, by omega, HM.out, by go_num, HE.out _ _ _ HI.out (below_drewN (Below.refl _ _) _)⟩
            case measure => simp [intOf]; omega
          · have HRR : Hid (runs s = d ++ (t, b) :: runs (r.drop t)) := by
              show runs s = _
              rw [HR.out, run_off ht1 HT.out (by rw [List.getElem?_eq_getElem hlt, hc]; exact fun e => hcb (Option.some.inj e))]
            have cS := fun W (h : I d W) => HH.out d t b _ W HRR.out h
            have hcb' : ((c.toNat : Int) == (b.toNat : Int)) = false := by
              simp
              exact fun e => hcb (UInt8.toNat_inj.1 (by omega))
            clear hc htm HT HH HR hcb
            go_wp2_with fail
            go_quiet (fail)
            go_wp2_with (go_at_fn g; refine (cS _ (HE.out _ _ _ HI.out (below_drewN (Below.refl _ _) _))).mono ?_; rintro e w2 ⟨rfl, hI2⟩)
            obtain ⟨g', rfl⟩ : ∃ g', gk = g' + 1 := ⟨gk - 1, by omega⟩
            go_roundg g'
            case measure => omega
            case rel => exact ⟨r.drop t, d ++ [(t, b)], by rw [List.length_drop]; omega, by rw [List.length_drop]; omega, by rw [extract_to], hI2, by rw [List.append_assoc]; exact HRR.out⟩
        · have HRR : Hid (runs s = d ++ (t, b) :: runs (r.drop t)) := by
            show runs s = _
            rw [HR.out, run_off ht1 HT.out (by rw [List.getElem?_eq_none (by omega)]; simp)]
          have cS := fun W (h : I d W) => HH.out d t b _ W HRR.out h
          have hlt' : decide ((t : Int) < (r.length : Int)) = false := by simp; omega
          clear htm HT HH HR
          go_wp2_with fail
          go_quiet (fail)
          go_wp2_with (go_at_fn g; refine (cS _ (HE.out _ _ _ HI.out (below_drewN (Below.refl _ _) _))).mono ?_; rintro e w2 ⟨rfl, hI2⟩)
          obtain ⟨g', rfl⟩ : ∃ g', gk = g' + 1 := ⟨gk - 1, by omega⟩
          go_roundg g'
          case measure => omega
          case rel => exact ⟨r.drop t, d ++ [(t, b)], by rw [List.length_drop]; omega, by rw [List.length_drop]; omega, by rw [extract_to], hI2, by rw [List.append_assoc]; exact HRR.out⟩

theorem runs_few (s : List UInt8) : (runs s).length ≤ s.length := by
  induction s with
  | nil => simp [runs]
  | cons b r ih =>
    show (putRun b (runs r)).length ≤ _
    cases h : runs r with
    | nil => simp [putRun]
    | cons x l =>
      obtain ⟨n, c⟩ := x
      rw [h] at ih
      unfold putRun
      simp only
      split <;> simp_all <;> omega
theorem write_bound {l : List (Nat × UInt8)} (h : ∀ r ∈ l, r.1 ≤ 999999999) : (writeL l).length ≤ 11 * l.length := by
  induction l with
  | nil => simp [writeL]
  | cons r l ih =>
    have i := ih fun x hx => h x (by simp [hx])
    have hd := digits_length 8 r.1 (by have := h r (by simp); omega)
    rw [writeL_cons, List.length_append, List.length_cons]
    have : (runL r).length = (digitsL r.1).length + 2 := by simp [runL]
    omega
theorem runs_part {s : List UInt8} {d tl : List (Nat × UInt8)} {n : Nat} {b : UInt8} (h : runs s = d ++ (n, b) :: tl) (hs : s.length ≤ 999999999) : (writeL d).length ≤ 11 * s.length ∧ n ≤ 999999999 := by
  have h1 := runs_few s
  have h2 : d.length ≤ s.length := by rw [h, List.length_append] at h1; omega
  have h3 := write_bound (l := d) fun r hr => by have := runs_mem (s := s) (r := r) (by rw [h]; simp [hr]); omega
  have h4 := runs_mem (s := s) (r := (n, b)) (by rw [h]; simp)
  simp only at h4
  omega

set_option maxRecDepth 100000 in
theorem press_any (s : List UInt8) (w : World) (hs : s.length ≤ 999999999) (ht : Tab w) :
    Calls Tryz.prog 13 #[.string ⟨s.toArray⟩] w fun e w' => e = .returned (.string ⟨(pressL s).toArray⟩) ∧ Below w.heap.size w w' := by
  have eg : ∀ args w, (callFunc 35 args).run Tryz.prog w = .ok (.enter 35 args) w := enters_of Tryz.func35 (by kernel_rfl) rfl
  have hmf : ∀ (fn : Fn) (first cap : Array Value) (w : World), (Instr.makeFunc fn first cap).run Tryz.prog w = .ok (.func fn first cap) w := fun _ _ _ _ => rfl
  have HT := Lib.hid ht
  clear ht
  go_enter Tryz.func13, Tryz.ntmps13
  go_wp2_with fail
  refine (eachRun_any s 35 #[.pointer (some ⟨w.heap.size, 0, none⟩)] eg (fun d w' => Built w.heap.size w.heap.size (writeL d) w' ∧ Below w.heap.size w w') _ hs ⟨built_fresh w, (Below.refl _ _).alloc (Nat.le_refl _) _⟩ (fun d W W' h hb => ⟨h.1.below hb, h.2.trans (hb.mono h.2.size)⟩) ?_).mono ?_
  · rintro d n b tl W hp ⟨hk, hb⟩
    obtain ⟨h1, h2⟩ := runs_part hp hs
    refine (pressHand_any w.heap.size w.heap.size n b (writeL d) W (Nat.le_refl _) hk (by omega) h2 (HT.out.below hb)).mono ?_
    rintro e W' ⟨rfl, hb1, hb2⟩
    exact ⟨rfl, by rw [writeL_snoc]; exact hb1, hb.trans hb2⟩
  rintro e w1 ⟨rfl, hk, hb⟩
  have HK := Lib.hid hk
  have HB := Lib.hid hb
  clear hk hb
  go_wp2_with fail
  refine (built_string w.heap.size w.heap.size _ _ HK.out HB.out.size).mono ?_
  rintro e w2 ⟨rfl, hb2⟩
  have HB2 := Lib.hid (HB.out.trans hb2)
  clear hb2
  go_wp2
  go_ret
  exact ⟨rfl, HB2.out⟩
end Go.Proofs.YtbhjpmfekjhckaaGreatDoor
