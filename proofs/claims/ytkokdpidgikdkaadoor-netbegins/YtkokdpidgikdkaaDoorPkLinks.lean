/-
  Package link: read, Check, Host, Begins, Swap: contracts, over this seat's translation.
-/
import Derived.Test.YtkokdpidgikdkaaDoorPkLink
namespace Go.Proofs.YtkokdpidgikdkaaDoor
open Go.RowKit Go.Shelf

theorem readK_link {s h q : List UInt8} {k : Nat} (e : linkL s = (h, q, k + 1)) : readK s = ([], [], k + 1) := by simp [readK, e]
theorem readK_path {s h q : List UInt8} {k : Nat} (e : linkL s = (h, q, 0)) (e1 : checkCode q = k + 1) : readK s = ([], [], k + 1) := by simp [readK, e, e1]
theorem readK_ok {s h q : List UInt8} (e : linkL s = (h, q, 0)) (e1 : checkCode q = 0) : readK s = (h, q, 0) := by simp [readK, e, e1]
theorem link_short' {s h q : List UInt8} {k : Nat} (e : linkL s = (h, q, k)) : h.length ≤ s.length ∧ q.length ≤ s.length := by
  have := link_short s
  rw [e] at this
  exact ⟨this.1, this.2.1⟩

theorem linkCut_is (p : Nat → Addr) (s h q : List UInt8) (k : Nat) (w : World) (hE : LEnv p w) (hs : s.length ≤ 90000) (e : linkL s = (h, q, k)) :
    Calls Tryd.prog 26 #[.string ⟨s.toArray⟩] w fun e w' => e = .returned (.tuple #[.string ⟨h.toArray⟩, .string ⟨q.toArray⟩, errV p k]) ∧ Below w.heap.size w w' := by
  have := linkCut_any p s w hE hs
  rwa [e] at this

set_option maxRecDepth 100000 in
set_option maxHeartbeats 1000000 in
theorem linkRead_any (p : Nat → Addr) (s : List UInt8) (w : World) (hE : LEnv p w) (hs : s.length ≤ 90000) :
    Calls Tryd.prog 18 #[.string ⟨s.toArray⟩] w fun e w' => e = .returned (.tuple #[.string ⟨(readK s).1.toArray⟩, .string ⟨(readK s).2.1.toArray⟩, errV p (readK s).2.2]) ∧ Below w.heap.size w w' := by
  have HE := Lib.hid hE
  clear hE
  obtain ⟨⟨h, q, c⟩, hl⟩ : ∃ r, linkL s = r := ⟨_, rfl⟩
  have hsh := link_short' hl
  cases c with
  | succ k =>
    have HR := Lib.hid (readK_link hl)
    have HL := Lib.hid hl
    clear hl
    go_enter Tryd.func18, Tryd.ntmps18
    go_wp2_with fail
    refine (linkCut_is p s h q _ _ HE.out hs HL.out).mono ?_
    rintro e w1 ⟨rfl, hb1⟩
    have HB1 := Lib.hid hb1
    clear hb1
    rw [errV_some p (Nat.succ_ne_zero k)]
    go_wp2
    go_ret3
    exact ⟨by rw [HR.out]; rfl, HB1.out⟩
  | zero =>
    have HL := Lib.hid hl
    cases hc : checkCode q with
    | succ k =>
      have HR := Lib.hid (readK_path hl hc)
      have HC := Lib.hid hc
      clear hl hc
      go_enter Tryd.func18, Tryd.ntmps18
      go_wp2_with fail
      refine (linkCut_is p s h q _ _ HE.out hs HL.out).mono ?_
      rintro e w1 ⟨rfl, hb1⟩
      have HB1 := Lib.hid hb1
      clear hb1
      rw [errV_zero]
      go_wp2_with fail
      refine (check_path p q _ (HE.out.below HB1.out).path (by omega)).mono ?_
      rintro e w2 ⟨rfl, hb2⟩
      have HB2 := Lib.hid (HB1.out.trans (hb2.mono HB1.out.size))
      clear hb2
      rw [HC.out, errV_some p (Nat.succ_ne_zero k)]
      go_wp2
      go_ret3
      exact ⟨by rw [HR.out]; rfl, HB2.out⟩
    | zero =>
      have HR := Lib.hid (readK_ok hl hc)
      have HC := Lib.hid hc
      clear hl hc
      go_enter Tryd.func18, Tryd.ntmps18
      go_wp2_with fail
      refine (linkCut_is p s h q _ _ HE.out hs HL.out).mono ?_
      rintro e w1 ⟨rfl, hb1⟩
      have HB1 := Lib.hid hb1
      clear hb1
      rw [errV_zero]
      go_wp2_with fail
      refine (check_path p q _ (HE.out.below HB1.out).path (by omega)).mono ?_
      rintro e w2 ⟨rfl, hb2⟩
      have HB2 := Lib.hid (HB1.out.trans (hb2.mono HB1.out.size))
      clear hb2
      rw [HC.out, errV_zero]
      go_wp2
      go_ret3
      exact ⟨by rw [HR.out]; rfl, HB2.out⟩

/-- link.Check. -/
theorem linkCheck_any (p : Nat → Addr) (s : List UInt8) (w : World) (hE : LEnv p w) (hs : s.length ≤ 90000) :
    Calls Tryd.prog 10 #[.string ⟨s.toArray⟩] w fun e w' => e = .returned (errV p (checkK s)) ∧ Below w.heap.size w w' := by
  have HE := Lib.hid hE
  clear hE
  go_enter Tryd.func10, Tryd.ntmps10
  go_wp2_with fail
  refine (linkRead_any p s _ HE.out hs).mono ?_
  rintro e w1 ⟨rfl, hb1⟩
  have HB1 := Lib.hid hb1
  clear hb1
  go_wp2
  go_ret
  exact ⟨rfl, HB1.out⟩
theorem linkCheck_is (p : Nat → Addr) (s : List UInt8) (k : Nat) (w : World) (hE : LEnv p w) (hs : s.length ≤ 90000) (h : checkK s = k) :
    Calls Tryd.prog 10 #[.string ⟨s.toArray⟩] w fun e w' => e = .returned (errV p k) ∧ Below w.heap.size w w' := by
  have := linkCheck_any p s w hE hs
  rwa [h] at this

theorem hostOf_any (p : Nat → Addr) (s : List UInt8) (w : World) (hE : LEnv p w) (hs : s.length ≤ 90000) :
    Calls Tryd.prog 19 #[.string ⟨s.toArray⟩] w fun e w' => e = .returned (.tuple #[.string ⟨(readK s).1.toArray⟩, errV p (checkK s)]) ∧ Below w.heap.size w w' := by
  have HE := Lib.hid hE
  clear hE
  go_enter Tryd.func19, Tryd.ntmps19
  go_wp2_with fail
  refine (linkRead_any p s _ HE.out hs).mono ?_
  rintro e w1 ⟨rfl, hb1⟩
  have HB1 := Lib.hid hb1
  clear hb1
  go_wp2
  go_ret2
  exact ⟨rfl, HB1.out⟩

theorem beginK_link {s h q : List UInt8} {k : Nat} (e : linkL s = (h, q, k + 1)) : beginK s = k + 1 := by simp [beginK, e]
theorem beginK_none {s h q : List UInt8} (e : linkL s = (h, q, 0)) (e1 : dropSlash q = []) : beginK s = 0 := by simp [beginK, e, e1]
theorem beginK_path {s h q : List UInt8} (e : linkL s = (h, q, 0)) (e1 : dropSlash q ≠ []) : beginK s = checkCode (dropSlash q) := by simp [beginK, e, e1]
theorem dropSlash_short (q : List UInt8) : (dropSlash q).length ≤ q.length := Lib.trimSuffix_le _ _

theorem link_cat (a b : List UInt8) : ({ data := a.toArray } : ByteArray) ++ { data := b.toArray } = ⟨(a ++ b).toArray⟩ := by
  apply ByteArray.ext
  simp [ByteArray.data_append]
theorem swap_a {a b s : List UInt8} {k : Nat} (h : beginK a = k + 1) : swapK a b s = ([], k + 1) := by simp [swapK, h]
theorem swap_b {a b s : List UInt8} {k : Nat} (h1 : beginK a = 0) (h : beginK b = k + 1) : swapK a b s = ([], k + 1) := by simp [swapK, h1, h]
theorem swap_s {a b s : List UInt8} {k : Nat} (h1 : beginK a = 0) (h2 : beginK b = 0) (h : checkK s = k + 1) : swapK a b s = ([], k + 1) := by simp [swapK, h1, h2, h]
theorem swap_n {a b s : List UInt8} (h1 : beginK a = 0) (h2 : beginK b = 0) (h3 : checkK s = 0) (h : Lib.hasPrefix s a = false) : swapK a b s = ([], 6) := by simp [swapK, h1, h2, h3, h]
theorem swap_x {a b s : List UInt8} {k : Nat} (h1 : beginK a = 0) (h2 : beginK b = 0) (h3 : checkK s = 0) (h4 : Lib.hasPrefix s a = true) (h : checkK (b ++ s.drop a.length) = k + 1) : swapK a b s = ([], k + 1) := by simp [swapK, h1, h2, h3, h4, h]

end Go.Proofs.YtkokdpidgikdkaaDoor
