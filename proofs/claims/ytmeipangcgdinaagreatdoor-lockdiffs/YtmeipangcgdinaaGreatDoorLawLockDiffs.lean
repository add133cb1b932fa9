/-
  The law LockDiffs, whatever it is called with: over this seat's translation.
-/
import Derived.Test.YtmeipangcgdinaaGreatDoorCameWantsLawWants
import Derived.Test.YtmeipangcgdinaaGreatDoorPkLinesPkLockRead
import Derived.Test.YtmeipangcgdinaaGreatDoorPkLockDiff
namespace Go.Proofs.YtmeipangcgdinaaGreatDoor
open Go.RowKit Go.Shelf

theorem textW_le {x : Wt} (h : wantCode x = 0) : (textW x).length ≤ x.u.length + 100 := by
  obtain ⟨h1, _, h3, h4, _, h6⟩ := want_zero h
  have hn : x.n.length ≤ 12 := by
    simp only [isPart, Bool.and_eq_true, decide_eq_true_eq] at h1
    omega
  have hk : x.k.length ≤ 5 := by
    rcases kind_cases h3 with e | e | e <;> (rw [e]; decide)
  have hd : (digitsL x.s.toNat).length ≤ 1 := digits_length 0 x.s.toNat (by omega)
  have hm : (textS x.m).length ≤ 20 := by
    rw [text_is h6]
    have hb : x.m.toNat < 10 ^ (18 + 1) := by
      have := h6
      simp only [isS, decide_eq_true_eq] at this
      omega
    have := digits_length 18 x.m.toNat hb
    simp only [List.length_cons]
    omega
  rw [textW_yes h]
  unfold wordsW
  rw [join_words]
  simp only [List.length_append, List.length_cons]
  omega
theorem Dropped.mem {a now : List Wt} {d : List (List UInt8)} {i : Nat} (h : Dropped a d i now) {x : Wt} (hx : x ∈ now) : x ∈ a := by
  have hat := h.lock.mem_at hx
  by_cases hg : [45, 32] ++ x.n ∈ d.take i
  · rw [h.gone _ hg] at hat; cases hat
  · rw [h.kept _ hg] at hat
    exact (atW_some hat).1
theorem Made.mem {a b now : List Wt} {d : List (List UInt8)} {i : Nat} (h : Made a b d i now) {x : Wt} (hx : x ∈ now) : x ∈ a ∨ x ∈ b := by
  have hat := h.lock.mem_at hx
  by_cases hg : [45, 32] ++ x.n ∈ d
  · rw [h.gone _ hg] at hat; cases hat
  · by_cases hc : ∃ c, c ≠ 45 ∧ [c, 32] ++ x.n ∈ d.take i
    · obtain ⟨c, h1, h2⟩ := hc
      rw [h.done _ c h1 h2] at hat
      exact .inr (atW_some hat).1
    · rw [h.kept _ (fun c h1 h2 => hc ⟨c, h1, h2⟩) hg] at hat
      exact .inl (atW_some hat).1
/-- What the bounds of the law give. -/
theorem small_of {l : List Wt} (h : longWs l = false) : SmallW l := ⟨by have := (longWs_false h).1; omega, fun x hx => by have := (longWs_false h).2 x hx; omega⟩

set_option maxRecDepth 100000 in
set_option maxHeartbeats 4000000 in
theorem lockDiffs_long (p : Nat → Addr) (l m : List Wt) (a b : Option Addr) (ca cb : Nat) (w : World) (hE : WEnv p w) (hl : CameW w a ca l) (hm : CameW w b cb m) (h : longWs l = true ∨ (longWs l = false ∧ longWs m = true)) :
    Calls Tryz.prog 3 #[.slice a l.length ca, .slice b m.length cb] w fun e w' => e = .returned (.bool true) ∧ Below w.heap.size w w' := by
  have HE := Lib.hid hE
  have HL := Lib.hid hl
  have HM := Lib.hid hm
  have HF := Lib.hid h
  have hll := hl.len
  have hml := hm.len
  unfold maxLen at hll hml
  clear hE hl hm h
  go_enter Tryz.func3, Tryz.ntmps3
  go_wp2_with fail
  refine (locked_any p _ HE.out).mono ?_
  rintro e w1 ⟨rfl, hb1⟩
  have HB1 := Lib.hid hb1
  have HLT := Lib.hid (longWants_any l a ca _ (HL.out.lies.below hb1) (by omega))
  clear hb1
  rcases HF.out with hx | ⟨hx, hy⟩
  · rw [hx] at HLT
    clear hx HF
    go_wp2_with fail
    refine HLT.out.mono ?_
    rintro e w2 ⟨rfl, hb2⟩
    have HB2 := Lib.hid (HB1.out.trans (hb2.mono HB1.out.size))
    clear hb2 HLT
    go_wp2
    go_ret
    exact ⟨rfl, HB2.out⟩
  · rw [hx] at HLT
    clear hx HF
    go_wp2_with fail
    refine HLT.out.mono ?_
    rintro e w2 ⟨rfl, hb2⟩
    have HB2 := Lib.hid (HB1.out.trans (hb2.mono HB1.out.size))
    have HLM := Lib.hid (longWants_any m b cb _ (HM.out.lies.below HB2.out) (by omega))
    rw [hy] at HLM
    clear hb2 HLT hy
    go_wp2_with fail
    refine HLM.out.mono ?_
    rintro e w3 ⟨rfl, hb3⟩
    have HB3 := Lib.hid (HB2.out.trans (hb3.mono HB2.out.size))
    clear hb3 HLM
    go_wp2
    go_ret
    exact ⟨rfl, HB3.out⟩

set_option maxRecDepth 100000 in
set_option maxHeartbeats 4000000 in
theorem lockDiffs_bad (p : Nat → Addr) (l m : List Wt) (a b : Option Addr) (ca cb : Nat) (w : World) (hE : WEnv p w) (hl : CameW w a ca l) (hm : CameW w b cb m) (hx : longWs l = false) (hy : longWs m = false) (h : (lockFault l).1 ≠ 0 ∨ (Lock l ∧ (lockFault m).1 ≠ 0)) :
    Calls Tryz.prog 3 #[.slice a l.length ca, .slice b m.length cb] w fun e w' => e = .returned (.bool true) ∧ Below w.heap.size w w' := by
  have HE := Lib.hid hE
  have HL := Lib.hid hl
  have HM := Lib.hid hm
  have HF := Lib.hid h
  have hll := hl.len
  have hml := hm.len
  have HSL := Lib.hid (small_of hx)
  have HSM := Lib.hid (small_of hy)
  have HX := Lib.hid hx
  have HY := Lib.hid hy
  unfold maxLen at hll hml
  clear hE hl hm h hx hy
  go_enter Tryz.func3, Tryz.ntmps3
  go_wp2_with fail
  refine (locked_any p _ HE.out).mono ?_
  rintro e w1 ⟨rfl, hb1⟩
  have HB1 := Lib.hid hb1
  have HLT := Lib.hid (longWants_any l a ca _ (HL.out.lies.below hb1) (by omega))
  rw [HX.out] at HLT
  clear hb1
  go_wp2_with fail
  refine HLT.out.mono ?_
  rintro e w2 ⟨rfl, hb2⟩
  have HB2 := Lib.hid (HB1.out.trans (hb2.mono HB1.out.size))
  have HLM := Lib.hid (longWants_any m b cb _ (HM.out.lies.below HB2.out) (by omega))
  rw [HY.out] at HLM
  clear hb2 HLT HB1
  go_wp2_with fail
  refine HLM.out.mono ?_
  rintro e w3 ⟨rfl, hb3⟩
  have HB3 := Lib.hid (HB2.out.trans (hb3.mono HB2.out.size))
  clear hb3 HLM HB2
  go_wp2_with fail
  refine (lockCheck_any p l a ca _ (HE.out.below HB3.out) (HL.out.lies.below HB3.out) HL.out.cap HSL.out).mono ?_
  rintro e w4 ⟨⟨v, rfl, hv⟩, hb4⟩
  have HB4 := Lib.hid (HB3.out.trans (hb4.mono HB3.out.size))
  clear hb4
  rcases HF.out with hz | ⟨hk, hz⟩
  · obtain ⟨T, u, rfl⟩ := hv.some hz
    clear hv hz HF
    go_wp2
    go_ret
    exact ⟨rfl, HB4.out⟩
  · rw [lock_zero hk] at hv
    have := hv.isNil
    subst this
    have HZ := Lib.hid hz
    clear hv hk hz HF
    go_wp2_with fail
    refine (lockCheck_any p m b cb _ (HE.out.below HB4.out) (HM.out.lies.below HB4.out) HM.out.cap HSM.out).mono ?_
    rintro e w5 ⟨⟨v, rfl, hv⟩, hb5⟩
    have HB5 := Lib.hid (HB4.out.trans (hb5.mono HB4.out.size))
    obtain ⟨T, u, rfl⟩ := hv.some HZ.out
    clear hv hb5
    go_wp2
    go_ret
    exact ⟨rfl, HB5.out⟩
set_option maxRecDepth 100000 in
set_option maxHeartbeats 16000000 in
theorem lockDiffs_main (p : Nat → Addr) (l m : List Wt) (a b : Option Addr) (ca cb : Nat) (w : World) (hE : WEnv p w) (hl : CameW w a ca l) (hm : CameW w b cb m) (hx : longWs l = false) (hy : longWs m = false) (hkl : Lock l) (hkm : Lock m) :
    Calls Tryz.prog 3 #[.slice a l.length ca, .slice b m.length cb] w fun e w' => e = .returned (.bool true) ∧ Below w.heap.size w w' := by
  have HE := Lib.hid hE
  have HL := Lib.hid hl
  have HM := Lib.hid hm
  have hll := hl.len
  have hml := hm.len
  have hfl := hkl.few
  have hfm := hkm.few
  have HKL := Lib.hid hkl
  have HKM := Lib.hid hkm
  have HSL := Lib.hid (small_of hx)
  have HSM := Lib.hid (small_of hy)
  have HX := Lib.hid hx
  have HY := Lib.hid hy
  clear hll hml
  have HTX : Hid (∀ x ∈ l, (textW x).length ≤ 90000) := fun x hx => by
    have := textW_le (HKL.out.right x hx)
    have := ((longWs_false HX.out).2 x hx).2.1
    omega
  have HTL : Hid ((linesK l).length ≤ 9000000) := by
    have := linesK_short (l := l) fun x hx => ⟨HKL.out.right x hx, (HSL.out.2 x hx).2⟩
    show _ ≤ _
    have : l.length * 100001 ≤ 20 * 100001 := Nat.mul_le_mul_right _ hfl
    omega
  clear hE hl hm hx hy hkl hkm
  go_enter Tryz.func3, Tryz.ntmps3
  go_wp2_with fail
  refine (locked_any p _ HE.out).mono ?_
  rintro e w1 ⟨rfl, hb1⟩
  have HB1 := Lib.hid hb1
  have HLT := Lib.hid (longWants_any l a ca _ (HL.out.lies.below hb1) (by omega))
  rw [HX.out] at HLT
  clear hb1
  go_wp2_with fail
  refine HLT.out.mono ?_
  rintro e w2 ⟨rfl, hb2⟩
  have HB2 := Lib.hid (HB1.out.trans (hb2.mono HB1.out.size))
  have HLM := Lib.hid (longWants_any m b cb _ (HM.out.lies.below HB2.out) (by omega))
  rw [HY.out] at HLM
  clear hb2 HLT HB1
  go_wp2_with fail
  refine HLM.out.mono ?_
  rintro e w3 ⟨rfl, hb3⟩
  have HB3 := Lib.hid (HB2.out.trans (hb3.mono HB2.out.size))
  clear hb3 HLM HB2
  go_wp2_with fail
  refine (lockCheck_any p l a ca _ (HE.out.below HB3.out) (HL.out.lies.below HB3.out) HL.out.cap HSL.out).mono ?_
  rintro e w4 ⟨⟨v, rfl, hv⟩, hb4⟩
  have HB4 := Lib.hid (HB3.out.trans (hb4.mono HB3.out.size))
  rw [lock_zero HKL.out] at hv
  have := hv.isNil
  subst this
  clear hb4 hv HB3
  go_wp2_with fail
  refine (lockCheck_any p m b cb _ (HE.out.below HB4.out) (HM.out.lies.below HB4.out) HM.out.cap HSM.out).mono ?_
  rintro e w5 ⟨⟨v, rfl, hv⟩, hb5⟩
  have HB5 := Lib.hid (HB4.out.trans (hb5.mono HB4.out.size))
  rw [lock_zero HKM.out] at hv
  have := hv.isNil
  subst this
  clear hb5 hv HB4
  go_wp2_with fail
  refine (lockText_any p l a ca _ (HE.out.below HB5.out) (HL.out.lies.below HB5.out) HL.out.cap HSL.out).mono ?_
  rintro e w6 ⟨⟨v, rfl, hv⟩, hb6⟩
  have HB6 := Lib.hid (HB5.out.trans (hb6.mono HB5.out.size))
  rw [lock_zero HKL.out] at hv
  have := hv.isNil
  subst this
  rw [textK_yes HKL.out]
  clear hb6 hv HB5
  go_wp2_with fail
  refine (lockRead_any p l _ (HE.out.below HB6.out) HKL.out HSL.out HTX.out HTL.out).mono ?_
  rintro e w7 ⟨⟨xa, xc, rfl, hxl, hxc, _⟩, hb7⟩
  have HB7 := Lib.hid (HB6.out.trans (hb7.mono HB6.out.size))
  have HXL := Lib.hid hxl
  clear hb7 hxl HB6
  go_wp2_with fail
  refine (sameWants_same l xa a xc ca _ HXL.out (HL.out.lies.below HB7.out) (by omega)).mono ?_
  rintro e w8 ⟨rfl, hb8⟩
  have HB8 := Lib.hid (HB7.out.trans (hb8.mono HB7.out.size))
  clear hb8 HB7 HXL
  go_wp2_with fail
  refine (ownWants_any l a ca _ (HL.out.lies.below HB8.out) HL.out.nil (by omega)).mono ?_
  rintro e w9 ⟨⟨v, rfl, hov⟩, hb9⟩
  obtain ⟨oa, oc, rfl, hol, _⟩ := owns_lies_w hov
  have hoc := owns_cap_w hov
  have HOL := Lib.hid hol
  have HB9 := Lib.hid (HB8.out.trans (hb9.mono HB8.out.size))
  clear hov hol hb9 HB8
  go_wp2_with fail
  refine (lockDiff_any p l l a oa ca oc _ (HE.out.below HB9.out) (HL.out.lies.below HB9.out) HOL.out HL.out.cap hoc HKL.out HKL.out HSL.out HSL.out).mono ?_
  rintro e w10 ⟨⟨s, sa, sc, rfl, hd, _, _, _⟩, hb10⟩
  obtain rfl := hd.self HKL.out
  have HB10 := Lib.hid (HB9.out.trans (hb10.mono HB9.out.size))
  clear hd hb10 HOL HB9
  go_wp2_with fail
  refine (lockDiff_any p l m a b ca cb _ (HE.out.below HB10.out) (HL.out.lies.below HB10.out) (HM.out.lies.below HB10.out) HL.out.cap HM.out.cap HKL.out HKM.out HSL.out HSM.out).mono ?_
  rintro e w11 ⟨⟨d, da, dc, rfl, hd, hdt, hdc, hd40⟩, hb11⟩
  have HB11 := Lib.hid (HB10.out.trans (hb11.mono HB10.out.size))
  have HD := Lib.hid hd
  have HDT := Lib.hid hdt
  clear hd hdt hb11 HB10
  go_wp2_with fail
  refine (lockDiff_any p m l b a cb ca _ (HE.out.below HB11.out) (HM.out.lies.below HB11.out) (HL.out.lies.below HB11.out) HM.out.cap HL.out.cap HKM.out HKL.out HSM.out HSL.out).mono ?_
  rintro e w12 ⟨⟨r, ra, rc, rfl, hr, hrt, hrc, _⟩, hb12⟩
  have HB12 := Lib.hid (HB11.out.trans (hb12.mono HB11.out.size))
  obtain rfl := HD.out.turned HKL.out HKM.out hr
  have HRT := Lib.hid hrt
  have HDT2 := Lib.hid (HDT.out.below hb12)
  clear hr hrt hb12 HB11 HDT
  rw [List.length_map] at hrc ⊢
  go_wp2_with fail
  refine (ownWants_any l a ca _ (HL.out.lies.below HB12.out) HL.out.nil (by omega)).mono ?_
  rintro e w13 ⟨⟨v, rfl, hov⟩, hb13⟩
  obtain ⟨na, nc, rfl, hnl, _⟩ := owns_lies_w hov
  have hnc := owns_cap_w hov
  have HNL := Lib.hid hnl
  have HB13 := Lib.hid (HB12.out.trans (hb13.mono HB12.out.size))
  have HRT3 := Lib.hid (HRT.out.below hb13)
  have HDT3 := Lib.hid (HDT2.out.below hb13)
  clear hov hnl hb13 HB12 HRT HDT2
  go_wp2_with fail
  go_loopw [15, 16] (fun now i wr => ∃ (q : Nat) (nl : List Wt) (na : Option Addr) (nc : Nat), now = .slice na nl.length nc ∧ i = .int .i64 q ∧ q ≤ d.length ∧ Dropped l d q nl ∧ WLies wr na nl ∧ nl.length ≤ nc ∧ Below w.heap.size w wr ∧ TextsAt wr da d ∧ TextsAt wr ra (d.map turnL))
    (fun _ i _ => d.length - (intOf i).toNat)
  case atStart => exact ⟨0, l, na, nc, rfl, rfl, by omega, Dropped.start HKL.out d, HNL.out, hnc, HB13.out, HDT3.out, HRT3.out⟩
  case round =>
    obtain ⟨q, nl, na, nc, rfl, rfl, hq, hdr, hnl, hnc, hb, hdt, hrt⟩ := hrel
    have HDR := Lib.hid hdr
    have HNL := Lib.hid hnl
    have HB := Lib.hid hb
    have HDT := Lib.hid hdt
    have HRT := Lib.hid hrt
    clear hdr hnl hb hdt hrt HB13 HDT3 HRT3
    by_cases hlt : q < d.length
    · have hlt' : (q : Int) < (d.length : Int) := by omega
      obtain ⟨c, t, he, hcase⟩ := HD.out.line HKL.out HKM.out hlt
      obtain ⟨b1, o1, rfl, c0⟩ := HDT.out.at hlt
      obtain ⟨b2, o2, rfl, d0⟩ := HRT.out.at (k := q) (by simpa using hlt)
      rw [List.getElem_map] at d0
      have HEQ := Lib.hid he
      rcases hcase with ⟨rfl, h1, h2⟩ | ⟨rfl, h1, h2⟩ | ⟨rfl, h1, h2⟩
      · have HNX := Lib.hid (HDR.out.next HD.out hlt he h1)
        rw [he] at c0 d0
        have ht : turnL ([45, 32] ++ t) = [43, 32] ++ t := rfl
        rw [ht] at d0
        have e1 : ({ data := (([45, 32] : List UInt8) ++ t).toArray } : ByteArray).extract 2 (([45, 32] : List UInt8) ++ t).length = ⟨t.toArray⟩ := lines_behind _ 2
        have e2 : ({ data := (([45, 32] : List UInt8) ++ t).toArray } : ByteArray).extract 0 1 = ⟨#[45]⟩ := by rw [extract_list]; rfl
        have hcat : ({ data := #[43] } : ByteArray) ++ ({ data := #[32] } : ByteArray) ++ ({ data := t.toArray } : ByteArray) = ⟨(([43, 32] : List UInt8) ++ t).toArray⟩ := by
          apply ByteArray.ext
          simp [ByteArray.data_append]
        have hlen2 : 2 ≤ (([45, 32] : List UInt8) ++ t).length := by simp
        have hix : ∀ h : 0 < ({ data := (([45, 32] : List UInt8) ++ t).toArray } : ByteArray).size, ((((({ data := (([45, 32] : List UInt8) ++ t).toArray } : ByteArray)[0]'h).toNat : Nat) : Int) == 45) = true := fun _ => rfl
        have hno : ¬ 9223372036854775807 < 2 + t.length := by
          obtain ⟨x, hx⟩ := h1
          obtain ⟨hxm, hxn⟩ := atW_some hx
          have := (HSL.out.2 x hxm).1
          rw [hxn] at this
          omega
        clear h1 h2 he ht
        generalize ([45, 32] : List UInt8) ++ t = y at c0 e1 e2 hlen2 HEQ hix
        generalize ([43, 32] : List UInt8) ++ t = y2 at d0 hcat
        have hpos : 0 < y.length := by omega
        obtain ⟨nl2, hdl, hdr2⟩ := HNX.out
        have HDL := Lib.hid hdl
        have HDR2 := Lib.hid hdr2
        clear hdl hdr2 HNX
        go_wp2_with fail
        refine (lockDrop_new p nl na nc t _ (HE.out.below HB.out) HNL.out hnc ⟨by have := HDR.out.lock.few; omega, fun x hx => HSL.out.2 x (HDR.out.mem hx)⟩).mono ?_
        rintro e w14 ⟨⟨ta, tc, v, rfl, htl, htc, hv, _⟩, hb14⟩
        rw [HDL.out] at htl htc hv ⊢
        have := hv.isNil
        subst this
        have HB14 := Lib.hid (HB.out.trans (hb14.mono HB.out.size))
        have HTL := Lib.hid htl
        have HDT2 := Lib.hid (HDT.out.below hb14)
        have HRT2 := Lib.hid (HRT.out.below hb14)
        dsimp only at htc ⊢
        clear hv hb14 htl
        go_wp2
        go_roundw
        case rel => exact ⟨q + 1, nl2, ta, tc, rfl, by go_num, by omega, HDR2.out, HTL.out, htc, HB14.out, HDT2.out, HRT2.out⟩
        case measure => simp [intOf]; omega
      · have HNX := Lib.hid (HDR.out.pass hlt he (by decide))
        rw [he] at c0 d0
        have ht : turnL ([43, 32] ++ t) = [45, 32] ++ t := rfl
        rw [ht] at d0
        have e1 : ({ data := (([43, 32] : List UInt8) ++ t).toArray } : ByteArray).extract 2 (([43, 32] : List UInt8) ++ t).length = ⟨t.toArray⟩ := lines_behind _ 2
        have e2 : ({ data := (([43, 32] : List UInt8) ++ t).toArray } : ByteArray).extract 0 1 = ⟨#[43]⟩ := by rw [extract_list]; rfl
        have hcat : ({ data := #[45] } : ByteArray) ++ ({ data := #[32] } : ByteArray) ++ ({ data := t.toArray } : ByteArray) = ⟨(([45, 32] : List UInt8) ++ t).toArray⟩ := by
          apply ByteArray.ext
          simp [ByteArray.data_append]
        have hlen2 : 2 ≤ (([43, 32] : List UInt8) ++ t).length := by simp
        have hix : ∀ h : 0 < ({ data := (([43, 32] : List UInt8) ++ t).toArray } : ByteArray).size, ((((({ data := (([43, 32] : List UInt8) ++ t).toArray } : ByteArray)[0]'h).toNat : Nat) : Int) == 45) = false := fun _ => rfl
        have hno : ¬ 9223372036854775807 < 2 + t.length := by
          obtain ⟨x, hx⟩ := h2
          obtain ⟨hxm, hxn⟩ := atW_some hx
          have := (HSM.out.2 x hxm).1
          rw [hxn] at this
          omega
        clear h1 h2 he ht
        generalize ([43, 32] : List UInt8) ++ t = y at c0 e1 e2 hlen2 HEQ hix
        generalize ([45, 32] : List UInt8) ++ t = y2 at d0 hcat
        have hpos : 0 < y.length := by omega
        go_wp2
        go_roundw
        case rel => exact ⟨q + 1, nl, na, nc, rfl, by go_num, by omega, HNX.out, HNL.out, hnc, HB.out, HDT.out, HRT.out⟩
        case measure => simp [intOf]; omega
      · have HNX := Lib.hid (HDR.out.pass hlt he (by decide))
        rw [he] at c0 d0
        have ht : turnL ([42, 32] ++ t) = [42, 32] ++ t := rfl
        rw [ht] at d0
        have e1 : ({ data := (([42, 32] : List UInt8) ++ t).toArray } : ByteArray).extract 2 (([42, 32] : List UInt8) ++ t).length = ⟨t.toArray⟩ := lines_behind _ 2
        have e2 : ({ data := (([42, 32] : List UInt8) ++ t).toArray } : ByteArray).extract 0 1 = ⟨#[42]⟩ := by rw [extract_list]; rfl
        have hcat : ({ data := #[42] } : ByteArray) ++ ({ data := #[32] } : ByteArray) ++ ({ data := t.toArray } : ByteArray) = ⟨(([42, 32] : List UInt8) ++ t).toArray⟩ := by
          apply ByteArray.ext
          simp [ByteArray.data_append]
        have hlen2 : 2 ≤ (([42, 32] : List UInt8) ++ t).length := by simp
        have hix : ∀ h : 0 < ({ data := (([42, 32] : List UInt8) ++ t).toArray } : ByteArray).size, ((((({ data := (([42, 32] : List UInt8) ++ t).toArray } : ByteArray)[0]'h).toNat : Nat) : Int) == 45) = false := fun _ => rfl
        have hno : ¬ 9223372036854775807 < 2 + t.length := by
          obtain ⟨x, hx⟩ := h2
          obtain ⟨hxm, hxn⟩ := atW_some hx
          have := (HSM.out.2 x hxm).1
          rw [hxn] at this
          omega
        clear h1 h2 he ht
        generalize ([42, 32] : List UInt8) ++ t = y at c0 e1 e2 hlen2 HEQ hix
        generalize ([42, 32] : List UInt8) ++ t = y2 at d0 hcat
        have hpos : 0 < y.length := by omega
        go_wp2
        go_roundw
        case rel => exact ⟨q + 1, nl, na, nc, rfl, by go_num, by omega, HNX.out, HNL.out, hnc, HB.out, HDT.out, HRT.out⟩
        case measure => simp [intOf]; omega
    · obtain rfl : q = d.length := by omega
      have HMD := Lib.hid (Made.start (b := m) HDR.out)
      clear HDR HRT
      go_wp2_with fail
      go_loopw [15, 20] (fun now i wr => ∃ (q : Nat) (nl : List Wt) (na : Option Addr) (nc : Nat), now = .slice na nl.length nc ∧ i = .int .i64 q ∧ q ≤ d.length ∧ Made l m d q nl ∧ WLies wr na nl ∧ nl.length ≤ nc ∧ Below w.heap.size w wr ∧ TextsAt wr da d)
        (fun _ i _ => d.length - (intOf i).toNat)
      case atStart => exact ⟨0, nl, na, nc, rfl, rfl, by omega, HMD.out, HNL.out, hnc, HB.out, HDT.out⟩
      case round =>
        clear HMD HNL HB HDT hnc hlt
        obtain ⟨q, nl, na, nc, rfl, rfl, hq, hmd, hnl, hnc, hb, hdt⟩ := hrel
        have HMD := Lib.hid hmd
        have HNL := Lib.hid hnl
        have HB := Lib.hid hb
        have HDT := Lib.hid hdt
        clear hmd hnl hb hdt
        by_cases hlt : q < d.length
        · have hlt' : (q : Int) < (d.length : Int) := by omega
          obtain ⟨c, t, he, hcase⟩ := HD.out.line HKL.out HKM.out hlt
          obtain ⟨b1, o1, rfl, c0⟩ := HDT.out.at hlt
          rw [he] at c0
          have e1 : ({ data := (([c, 32] : List UInt8) ++ t).toArray } : ByteArray).extract 2 (([c, 32] : List UInt8) ++ t).length = ⟨t.toArray⟩ := lines_behind _ 2
          have hlen2 : 2 ≤ (([c, 32] : List UInt8) ++ t).length := by simp
          have HFD := Lib.hid (fun W (hW : Below w.heap.size w W) => lockFind_any m b cb t W (HM.out.lies.below hW) (by omega))
          have hor : (c = 45 ∧ d[q] = [45, 32] ++ t) ∨ (c ≠ 45 ∧ ∃ x, atW m t = some x) := by
            rcases hcase with ⟨rfl, _, _⟩ | ⟨rfl, _, h2⟩ | ⟨rfl, _, h2⟩
            · exact .inl ⟨rfl, he⟩
            · exact .inr ⟨by decide, h2⟩
            · exact .inr ⟨by decide, h2⟩
          clear hcase
          rcases hor with ⟨rfl, he5⟩ | ⟨hc, h2⟩
          · have HNX := Lib.hid (HMD.out.pass hlt he5)
            have hix : ∀ h : 0 < ({ data := (([45, 32] : List UInt8) ++ t).toArray } : ByteArray).size, ((((({ data := (([45, 32] : List UInt8) ++ t).toArray } : ByteArray)[0]'h).toNat : Nat) : Int) == 45) = true := fun _ => rfl
            clear he he5
            generalize ([45, 32] : List UInt8) ++ t = y at c0 e1 hlen2 hix
            have hpos : 0 < y.length := by omega
            go_wp2_with fail
            refine (HFD.out _ HB.out).mono ?_
            rintro e w14 ⟨rfl, hb14⟩
            have HB14 := Lib.hid (HB.out.trans (hb14.mono HB.out.size))
            have HNL2 := Lib.hid (HNL.out.below hb14)
            have HDT2 := Lib.hid (HDT.out.below hb14)
            have c0 := (hb14.cell (block_lt_of_cell c0)).trans c0
            clear hb14
            go_wp2
            go_roundw
            case rel => exact ⟨q + 1, nl, na, nc, rfl, by go_num, by omega, HNX.out, HNL2.out, hnc, HB14.out, HDT2.out⟩
            case measure => simp [intOf]; omega
          · obtain ⟨k, hk, _, hfind, hset, hmade⟩ := HMD.out.next HKL.out HKM.out HD.out hlt he hc h2
            have HNX := Lib.hid hmade
            have hix : ∀ h : 0 < ({ data := (([c, 32] : List UInt8) ++ t).toArray } : ByteArray).size, ((((({ data := (([c, 32] : List UInt8) ++ t).toArray } : ByteArray)[0]'h).toNat : Nat) : Int) == 45) = false := fun _ => by
              show (((c.toNat : Nat) : Int) == 45) = false
              rw [beq_eq_false_iff_ne]
              intro e
              exact hc (UInt8.toNat_inj.1 (by show c.toNat = 45; omega))
            clear he h2 hmade
            generalize ([c, 32] : List UInt8) ++ t = y at c0 e1 hlen2 hix
            have hpos : 0 < y.length := by omega
            have hk0 : ¬ (k : Int) < 0 := by omega
            have hk1 : (k : Int) < (m.length : Int) := by omega
            have hxs := HSM.out.2 _ (List.getElem_mem hk)
            go_wp2_with fail
            refine (HFD.out _ HB.out).mono ?_
            rw [hfind]
            rintro e w14 ⟨rfl, hb14⟩
            have HB14 := Lib.hid (HB.out.trans (hb14.mono HB.out.size))
            have HNL2 := Lib.hid (HNL.out.below hb14)
            have HDT2 := Lib.hid (HDT.out.below hb14)
            have c0 := (hb14.cell (block_lt_of_cell c0)).trans c0
            clear hb14
            obtain ⟨b2, o2, rfl, d0, d1, d2, d3, d4⟩ := (HM.out.lies.below HB14.out).at hk
            have HSN : Hid (SmallW nl) := ⟨by have := HMD.out.lock.few; omega, fun x hx => (HMD.out.mem hx).elim (HSL.out.2 x) (HSM.out.2 x)⟩
            have HST := Lib.hid hset
            clear hset hfind
            generalize m[k] = x at d0 d1 d2 d3 d4 hxs HST HNX
            obtain ⟨xn, xu, xk, xs, xm⟩ := x
            go_wp2_with fail
            refine (lockSet_new p nl na nc xn xu xk xs xm _ (HE.out.below HB14.out) HNL2.out hnc HSN.out hxs.1 hxs.2).mono ?_
            rintro e w15 ⟨⟨ta, tc, v, rfl, htl, htc, hv, _⟩, hb15⟩
            rw [HST.out] at htl htc hv ⊢
            have := hv.isNil
            subst this
            have HB15 := Lib.hid (HB14.out.trans (hb15.mono HB14.out.size))
            have HTL := Lib.hid htl
            have HDT3 := Lib.hid (HDT2.out.below hb15)
            dsimp only at htc ⊢
            clear hv hb15 htl
            go_wp2
            go_roundw
            case rel => exact ⟨q + 1, _, ta, tc, rfl, by go_num, by omega, HNX.out, HTL.out, htc, HB15.out, HDT3.out⟩
            case measure => simp [intOf]; omega
        · obtain rfl : q = d.length := by omega
          obtain rfl := HMD.out.all HKL.out HKM.out HD.out
          go_wp2_with fail
          refine (sameWants_same nl na b nc cb _ HNL.out (HM.out.lies.below HB.out) (by omega)).mono ?_
          rintro e w14 ⟨rfl, hb14⟩
          have HB14 := Lib.hid (HB.out.trans (hb14.mono HB.out.size))
          clear hb14
          go_wp2
          go_ret
          exact ⟨rfl, HB14.out⟩
end Go.Proofs.YtmeipangcgdinaaGreatDoor
