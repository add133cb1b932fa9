/-
  Package link: read, Check, Host, Begins, Swap: contracts, over this seat's translation.
-/
import Derived.Test.YtmpfjambenkeeaaDoorPkLink
namespace Go.Proofs.YtmpfjambenkeeaaDoor
open Go.RowKit Go.Shelf

theorem readK_link {s h q : List UInt8} {k : Nat} (e : linkL s = (h, q, k + 1)) : readK s = ([], [], k + 1) := by simp [readK, e]
theorem readK_path {s h q : List UInt8} {k : Nat} (e : linkL s = (h, q, 0)) (e1 : checkCode q = k + 1) : readK s = ([], [], k + 1) := by simp [readK, e, e1]
theorem readK_ok {s h q : List UInt8} (e : linkL s = (h, q, 0)) (e1 : checkCode q = 0) : readK s = (h, q, 0) := by simp [readK, e, e1]
theorem link_short' {s h q : List UInt8} {k : Nat} (e : linkL s = (h, q, k)) : h.length ≤ s.length ∧ q.length ≤ s.length := by
  have := link_short s
  rw [e] at this
  exact ⟨this.1, this.2.1⟩

theorem linkCut_is (p : Nat → Addr) (s h q : List UInt8) (k : Nat) (w : World) (hE : LEnv p w) (hs : s.length ≤ 90000) (e : linkL s = (h, q, k)) :
    Calls Tryd.prog 32 #[.string ⟨s.toArray⟩] w fun e w' => e = .returned (.tuple #[.string ⟨h.toArray⟩, .string ⟨q.toArray⟩, errV p k]) ∧ Below w.heap.size w w' := by
  have := linkCut_any p s w hE hs
  rwa [e] at this

set_option maxRecDepth 100000 in
set_option maxHeartbeats 1000000 in
theorem linkRead_any (p : Nat → Addr) (s : List UInt8) (w : World) (hE : LEnv p w) (hs : s.length ≤ 90000) :
    Calls Tryd.prog 30 #[.string ⟨s.toArray⟩] w fun e w' => e = .returned (.tuple #[.string ⟨(readK s).1.toArray⟩, .string ⟨(readK s).2.1.toArray⟩, errV p (readK s).2.2]) ∧ Below w.heap.size w w' := by
  have HE := Lib.hid hE
  clear hE
  obtain ⟨⟨h, q, c⟩, hl⟩ : ∃ r, linkL s = r := ⟨_, rfl⟩
  have hsh := link_short' hl
  cases c with
  | succ k =>
    have HR := Lib.hid (readK_link hl)
    have HL := Lib.hid hl
    clear hl
    go_enter Tryd.func30, Tryd.ntmps30
    go_wp2_with fail
    refine (linkCut_is p s h q _ _ HE.out hs HL.out).mono ?_
    rintro e w1 ⟨rfl, hb1⟩
    have HB1 := Lib.hid hb1
    clear hb1
    rw [errV_some p (Nat.succ_ne_zero k)]
    go_wp2
    go_ret3
    exact ⟨by rw [HR.out]; rfl, HB1.out⟩
  | zero =>
    have HL := Lib.hid hl
    cases hc : checkCode q with
    | succ k =>
      have HR := Lib.hid (readK_path hl hc)
      have HC := Lib.hid hc
      clear hl hc
      go_enter Tryd.func30, Tryd.ntmps30
      go_wp2_with fail
      refine (linkCut_is p s h q _ _ HE.out hs HL.out).mono ?_
      rintro e w1 ⟨rfl, hb1⟩
      have HB1 := Lib.hid hb1
      clear hb1
      rw [errV_zero]
      go_wp2_with fail
      refine (check_path p q _ (HE.out.below HB1.out).path (by omega)).mono ?_
      rintro e w2 ⟨rfl, hb2⟩
      have HB2 := Lib.hid (HB1.out.trans (hb2.mono HB1.out.size))
      clear hb2
      rw [HC.out, errV_some p (Nat.succ_ne_zero k)]
      go_wp2
      go_ret3
      exact ⟨by rw [HR.out]; rfl, HB2.out⟩
    | zero =>
      have HR := Lib.hid (readK_ok hl hc)
      have HC := Lib.hid hc
      clear hl hc
      go_enter Tryd.func30, Tryd.ntmps30
      go_wp2_with fail
      refine (linkCut_is p s h q _ _ HE.out hs HL.out).mono ?_
      rintro e w1 ⟨rfl, hb1⟩
      have HB1 := Lib.hid hb1
      clear hb1
      rw [errV_zero]
      go_wp2_with fail
      refine (check_path p q _ (HE.out.below HB1.out).path (by omega)).mono ?_
      rintro e w2 ⟨rfl, hb2⟩
      have HB2 := Lib.hid (HB1.out.trans (hb2.mono HB1.out.size))
      clear hb2
      rw [HC.out, errV_zero]
      go_wp2
      go_ret3
      exact ⟨by rw [HR.out]; rfl, HB2.out⟩

/-- link.Check. -/
theorem linkCheck_any (p : Nat → Addr) (s : List UInt8) (w : World) (hE : LEnv p w) (hs : s.length ≤ 90000) :
    Calls Tryd.prog 8 #[.string ⟨s.toArray⟩] w fun e w' => e = .returned (errV p (checkK s)) ∧ Below w.heap.size w w' := by
  have HE := Lib.hid hE
  clear hE
  go_enter Tryd.func8, Tryd.ntmps8
  go_wp2_with fail
  refine (linkRead_any p s _ HE.out hs).mono ?_
  rintro e w1 ⟨rfl, hb1⟩
  have HB1 := Lib.hid hb1
  clear hb1
  go_wp2
  go_ret
  exact ⟨rfl, HB1.out⟩
theorem linkCheck_is (p : Nat → Addr) (s : List UInt8) (k : Nat) (w : World) (hE : LEnv p w) (hs : s.length ≤ 90000) (h : checkK s = k) :
    Calls Tryd.prog 8 #[.string ⟨s.toArray⟩] w fun e w' => e = .returned (errV p k) ∧ Below w.heap.size w w' := by
  have := linkCheck_any p s w hE hs
  rwa [h] at this

theorem hostOf_any (p : Nat → Addr) (s : List UInt8) (w : World) (hE : LEnv p w) (hs : s.length ≤ 90000) :
    Calls Tryd.prog 17 #[.string ⟨s.toArray⟩] w fun e w' => e = .returned (.tuple #[.string ⟨(readK s).1.toArray⟩, errV p (checkK s)]) ∧ Below w.heap.size w w' := by
  have HE := Lib.hid hE
  clear hE
  go_enter Tryd.func17, Tryd.ntmps17
  go_wp2_with fail
  refine (linkRead_any p s _ HE.out hs).mono ?_
  rintro e w1 ⟨rfl, hb1⟩
  have HB1 := Lib.hid hb1
  clear hb1
  go_wp2
  go_ret2
  exact ⟨rfl, HB1.out⟩

theorem trimSlash_any (l : List UInt8) (w : World) (hl : l.length ≤ 90000) : Calls Tryd.prog 33 #[.string ⟨l.toArray⟩, .string ⟨#[47]⟩] w fun e w' => e = .returned (.string ⟨(dropSlash l).toArray⟩) ∧ w' = w :=
  Tryd.strings_TrimSuffix ⟨l.toArray⟩ ⟨#[47]⟩ w (by simp [ByteArray.size]; omega)

theorem beginK_link {s h q : List UInt8} {k : Nat} (e : linkL s = (h, q, k + 1)) : beginK s = k + 1 := by simp [beginK, e]
theorem beginK_none {s h q : List UInt8} (e : linkL s = (h, q, 0)) (e1 : dropSlash q = []) : beginK s = 0 := by simp [beginK, e, e1]
theorem beginK_path {s h q : List UInt8} (e : linkL s = (h, q, 0)) (e1 : dropSlash q ≠ []) : beginK s = checkCode (dropSlash q) := by simp [beginK, e, e1]
theorem dropSlash_short (q : List UInt8) : (dropSlash q).length ≤ q.length := Lib.trimSuffix_le _ _

set_option maxRecDepth 100000 in
theorem linkBegins_any (p : Nat → Addr) (s : List UInt8) (w : World) (hE : LEnv p w) (hs : s.length ≤ 90000) :
    Calls Tryd.prog 10 #[.string ⟨s.toArray⟩] w fun e w' => e = .returned (errV p (beginK s)) ∧ Below w.heap.size w w' := by
  have HE := Lib.hid hE
  clear hE
  obtain ⟨⟨h, q, c⟩, hl⟩ : ∃ r, linkL s = r := ⟨_, rfl⟩
  have hsh := link_short' hl
  have hds := dropSlash_short q
  cases c with
  | succ k =>
    have HR := Lib.hid (beginK_link hl)
    have HL := Lib.hid hl
    clear hl
    go_enter Tryd.func10, Tryd.ntmps10
    go_wp2_with fail
    refine (linkCut_is p s h q _ _ HE.out hs HL.out).mono ?_
    rintro e w1 ⟨rfl, hb1⟩
    have HB1 := Lib.hid hb1
    clear hb1
    rw [errV_some p (Nat.succ_ne_zero k)]
    go_wp2
    go_ret
    exact ⟨by rw [HR.out]; rfl, HB1.out⟩
  | zero =>
    have HL := Lib.hid hl
    by_cases hd : dropSlash q = []
    · have HR := Lib.hid (beginK_none hl hd)
      have HD := Lib.hid hd
      clear hl hd
      go_enter Tryd.func10, Tryd.ntmps10
      go_wp2_with fail
      refine (linkCut_is p s h q _ _ HE.out hs HL.out).mono ?_
      rintro e w1 ⟨rfl, hb1⟩
      have HB1 := Lib.hid hb1
      clear hb1
      rw [errV_zero]
      go_wp2_with fail
      refine (trimSlash_any q _ (by omega)).mono ?_
      rintro e w' ⟨rfl, rfl⟩
      rw [HD.out]
      go_wp2
      go_ret
      exact ⟨by rw [HR.out]; rfl, HB1.out⟩
    · have HR := Lib.hid (beginK_path hl hd)
      have hne : (dropSlash q).isEmpty = false := by simpa using hd
      have hne2 : (dropSlash q == []) = false := by simpa using hd
      clear hl hd
      go_enter Tryd.func10, Tryd.ntmps10
      go_wp2_with fail
      refine (linkCut_is p s h q _ _ HE.out hs HL.out).mono ?_
      rintro e w1 ⟨rfl, hb1⟩
      have HB1 := Lib.hid hb1
      clear hb1
      rw [errV_zero]
      go_wp2_with fail
      refine (trimSlash_any q _ (by omega)).mono ?_
      rintro e w' ⟨rfl, rfl⟩
      generalize dropSlash q = d at HR hne hne2 hds ⊢
      go_wp2_with fail
      refine (check_path p d _ (HE.out.below HB1.out).path (by omega)).mono ?_
      rintro e w2 ⟨rfl, hb2⟩
      have HB2 := Lib.hid (HB1.out.trans (hb2.mono HB1.out.size))
      clear hb2
      go_wp2
      go_ret
      exact ⟨by rw [HR.out]; rfl, HB2.out⟩
theorem linkBegins_is (p : Nat → Addr) (s : List UInt8) (k : Nat) (w : World) (hE : LEnv p w) (hs : s.length ≤ 90000) (h : beginK s = k) :
    Calls Tryd.prog 10 #[.string ⟨s.toArray⟩] w fun e w' => e = .returned (errV p k) ∧ Below w.heap.size w w' := by
  have := linkBegins_any p s w hE hs
  rwa [h] at this

theorem cutPrefix_any (l q : List UInt8) (w : World) : Calls Tryd.prog 31 #[.string ⟨l.toArray⟩, .string ⟨q.toArray⟩] w fun e w' => e = .returned (.tuple #[.string ⟨(Lib.trimPrefix l q).toArray⟩, .bool (Lib.hasPrefix l q)]) ∧ w' = w :=
  Tryd.strings_CutPrefix ⟨l.toArray⟩ ⟨q.toArray⟩ w
theorem link_cat (a b : List UInt8) : ({ data := a.toArray } : ByteArray) ++ { data := b.toArray } = ⟨(a ++ b).toArray⟩ := by
  apply ByteArray.ext
  simp [ByteArray.data_append]
theorem swap_a {a b s : List UInt8} {k : Nat} (h : beginK a = k + 1) : swapK a b s = ([], k + 1) := by simp [swapK, h]
theorem swap_b {a b s : List UInt8} {k : Nat} (h1 : beginK a = 0) (h : beginK b = k + 1) : swapK a b s = ([], k + 1) := by simp [swapK, h1, h]
theorem swap_s {a b s : List UInt8} {k : Nat} (h1 : beginK a = 0) (h2 : beginK b = 0) (h : checkK s = k + 1) : swapK a b s = ([], k + 1) := by simp [swapK, h1, h2, h]
theorem swap_n {a b s : List UInt8} (h1 : beginK a = 0) (h2 : beginK b = 0) (h3 : checkK s = 0) (h : Lib.hasPrefix s a = false) : swapK a b s = ([], 6) := by simp [swapK, h1, h2, h3, h]
theorem swap_x {a b s : List UInt8} {k : Nat} (h1 : beginK a = 0) (h2 : beginK b = 0) (h3 : checkK s = 0) (h4 : Lib.hasPrefix s a = true) (h : checkK (b ++ s.drop a.length) = k + 1) : swapK a b s = ([], k + 1) := by simp [swapK, h1, h2, h3, h4, h]

set_option maxRecDepth 100000 in
set_option maxHeartbeats 2000000 in
theorem linkSwap_any (p : Nat → Addr) (a b s : List UInt8) (w : World) (hE : LEnv p w) (ha : a.length ≤ 40000) (hb : b.length ≤ 40000) (hs : s.length ≤ 40000) :
    Calls Tryd.prog 9 #[.string ⟨a.toArray⟩, .string ⟨b.toArray⟩, .string ⟨s.toArray⟩] w fun e w' => e = .returned (.tuple #[.string ⟨(swapK a b s).1.toArray⟩, errV p (swapK a b s).2]) ∧ Below w.heap.size w w' := by
  have HE := Lib.hid hE
  clear hE
  cases h1 : beginK a with
  | succ k =>
    have HR := Lib.hid (swap_a (b := b) (s := s) h1)
    have H1 := Lib.hid h1
    clear h1
    go_enter Tryd.func9, Tryd.ntmps9
    go_wp2_with fail
    refine (linkBegins_is p a _ _ HE.out (by omega) H1.out).mono ?_
    rintro e w1 ⟨rfl, hb1⟩
    have HB1 := Lib.hid hb1
    clear hb1
    rw [errV_some p (Nat.succ_ne_zero k)]
    go_wp2
    go_ret2
    exact ⟨by rw [HR.out]; rfl, HB1.out⟩
  | zero =>
    have H1 := Lib.hid h1
    cases h2 : beginK b with
    | succ k =>
      have HR := Lib.hid (swap_b (s := s) h1 h2)
      have H2 := Lib.hid h2
      clear h1 h2
      go_enter Tryd.func9, Tryd.ntmps9
      go_wp2_with fail
      refine (linkBegins_is p a _ _ HE.out (by omega) H1.out).mono ?_
      rintro e w1 ⟨rfl, hb1⟩
      have HB1 := Lib.hid hb1
      clear hb1
      rw [errV_zero]
      go_wp2_with fail
      refine (linkBegins_is p b _ _ (HE.out.below HB1.out) (by omega) H2.out).mono ?_
      rintro e w2 ⟨rfl, hb2⟩
      have HB2 := Lib.hid (HB1.out.trans (hb2.mono HB1.out.size))
      clear hb2
      rw [errV_some p (Nat.succ_ne_zero k)]
      go_wp2
      go_ret2
      exact ⟨by rw [HR.out]; rfl, HB2.out⟩
    | zero =>
      have H2 := Lib.hid h2
      cases h3 : checkK s with
      | succ k =>
        have HR := Lib.hid (swap_s h1 h2 h3)
        have H3 := Lib.hid h3
        clear h1 h2 h3
        go_enter Tryd.func9, Tryd.ntmps9
        go_wp2_with fail
        refine (linkBegins_is p a _ _ HE.out (by omega) H1.out).mono ?_
        rintro e w1 ⟨rfl, hb1⟩
        have HB1 := Lib.hid hb1
        clear hb1
        rw [errV_zero]
        go_wp2_with fail
        refine (linkBegins_is p b _ _ (HE.out.below HB1.out) (by omega) H2.out).mono ?_
        rintro e w2 ⟨rfl, hb2⟩
        have HB2 := Lib.hid (HB1.out.trans (hb2.mono HB1.out.size))
        clear hb2
        rw [errV_zero]
        go_wp2_with fail
        refine (linkCheck_is p s _ _ (HE.out.below HB2.out) (by omega) H3.out).mono ?_
        rintro e w3 ⟨rfl, hb3⟩
        have HB3 := Lib.hid (HB2.out.trans (hb3.mono HB2.out.size))
        clear hb3
        rw [errV_some p (Nat.succ_ne_zero k)]
        go_wp2
        go_ret2
        exact ⟨by rw [HR.out]; rfl, HB3.out⟩
      | zero =>
        have H3 := Lib.hid h3
        cases h4 : Lib.hasPrefix s a with
        | false =>
          have HR := Lib.hid (swap_n h1 h2 h3 h4)
          have H4 := Lib.hid h4
          clear h1 h2 h3 h4
          go_enter Tryd.func9, Tryd.ntmps9
          go_wp2_with fail
          refine (linkBegins_is p a _ _ HE.out (by omega) H1.out).mono ?_
          rintro e w1 ⟨rfl, hb1⟩
          have HB1 := Lib.hid hb1
          clear hb1
          rw [errV_zero]
          go_wp2_with fail
          refine (linkBegins_is p b _ _ (HE.out.below HB1.out) (by omega) H2.out).mono ?_
          rintro e w2 ⟨rfl, hb2⟩
          have HB2 := Lib.hid (HB1.out.trans (hb2.mono HB1.out.size))
          clear hb2
          rw [errV_zero]
          go_wp2_with fail
          refine (linkCheck_is p s _ _ (HE.out.below HB2.out) (by omega) H3.out).mono ?_
          rintro e w3 ⟨rfl, hb3⟩
          have HB3 := Lib.hid (HB2.out.trans (hb3.mono HB2.out.size))
          clear hb3
          rw [errV_zero]
          go_wp2_with fail
          refine (cutPrefix_any s a _).mono ?_
          rintro e w' ⟨rfl, rfl⟩
          rw [H4.out]
          have hg := (HE.out.below HB3.out).s5
          go_wp2_with fail
          go_region
          go_wp2
          go_ret2
          exact ⟨by rw [HR.out]; rfl, HB3.out.drew⟩
        | true =>
          have H4 := Lib.hid h4
          have HT : Hid (Lib.trimPrefix s a = s.drop a.length) := by show Lib.trimPrefix s a = _; unfold Lib.trimPrefix; rw [if_pos h4]
          have hrl : (s.drop a.length).length ≤ 40000 := by rw [List.length_drop]; omega
          cases h5 : checkK (b ++ s.drop a.length) with
          | succ k =>
            have HR := Lib.hid (swap_x h1 h2 h3 h4 h5)
            have H5 := Lib.hid h5
            clear h1 h2 h3 h4 h5
            go_enter Tryd.func9, Tryd.ntmps9
            go_wp2_with fail
            refine (linkBegins_is p a _ _ HE.out (by omega) H1.out).mono ?_
            rintro e w1 ⟨rfl, hb1⟩
            have HB1 := Lib.hid hb1
            clear hb1
            rw [errV_zero]
            go_wp2_with fail
            refine (linkBegins_is p b _ _ (HE.out.below HB1.out) (by omega) H2.out).mono ?_
            rintro e w2 ⟨rfl, hb2⟩
            have HB2 := Lib.hid (HB1.out.trans (hb2.mono HB1.out.size))
            clear hb2
            rw [errV_zero]
            go_wp2_with fail
            refine (linkCheck_is p s _ _ (HE.out.below HB2.out) (by omega) H3.out).mono ?_
            rintro e w3 ⟨rfl, hb3⟩
            have HB3 := Lib.hid (HB2.out.trans (hb3.mono HB2.out.size))
            clear hb3
            rw [errV_zero]
            go_wp2_with fail
            refine (cutPrefix_any s a _).mono ?_
            rintro e w' ⟨rfl, rfl⟩
            rw [H4.out, HT.out]
            clear HT
            generalize s.drop a.length = rest at HR H5 hrl ⊢
            go_wp2_with fail
            rw [link_cat]
            refine (linkCheck_is p (b ++ rest) _ _ (HE.out.below HB3.out) (by rw [List.length_append]; omega) H5.out).mono ?_
            rintro e w4 ⟨rfl, hb4⟩
            have HB4 := Lib.hid (HB3.out.trans (hb4.mono HB3.out.size))
            clear hb4
            rw [errV_some p (Nat.succ_ne_zero k)]
            go_wp2
            go_ret2
            exact ⟨by rw [HR.out]; rfl, HB4.out⟩
          | zero =>
            have HR := Lib.hid (swap_is h1 h2 h3 h4 h5)
            have H5 := Lib.hid h5
            clear h1 h2 h3 h4 h5
            go_enter Tryd.func9, Tryd.ntmps9
            go_wp2_with fail
            refine (linkBegins_is p a _ _ HE.out (by omega) H1.out).mono ?_
            rintro e w1 ⟨rfl, hb1⟩
            have HB1 := Lib.hid hb1
            clear hb1
            rw [errV_zero]
            go_wp2_with fail
            refine (linkBegins_is p b _ _ (HE.out.below HB1.out) (by omega) H2.out).mono ?_
            rintro e w2 ⟨rfl, hb2⟩
            have HB2 := Lib.hid (HB1.out.trans (hb2.mono HB1.out.size))
            clear hb2
            rw [errV_zero]
            go_wp2_with fail
            refine (linkCheck_is p s _ _ (HE.out.below HB2.out) (by omega) H3.out).mono ?_
            rintro e w3 ⟨rfl, hb3⟩
            have HB3 := Lib.hid (HB2.out.trans (hb3.mono HB2.out.size))
            clear hb3
            rw [errV_zero]
            go_wp2_with fail
            refine (cutPrefix_any s a _).mono ?_
            rintro e w' ⟨rfl, rfl⟩
            rw [H4.out, HT.out]
            clear HT
            generalize s.drop a.length = rest at HR H5 hrl ⊢
            go_wp2_with fail
            rw [link_cat]
            refine (linkCheck_is p (b ++ rest) _ _ (HE.out.below HB3.out) (by rw [List.length_append]; omega) H5.out).mono ?_
            rintro e w4 ⟨rfl, hb4⟩
            have HB4 := Lib.hid (HB3.out.trans (hb4.mono HB3.out.size))
            clear hb4
            rw [errV_zero]
            go_wp2
            go_ret2
            exact ⟨by rw [HR.out]; rfl, HB4.out⟩
end Go.Proofs.YtmpfjambenkeeaaDoor
