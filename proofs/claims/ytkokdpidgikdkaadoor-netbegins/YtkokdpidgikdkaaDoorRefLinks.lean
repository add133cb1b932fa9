/-
  The document's answer for links: LinkError, BeginError, SwapOf: contracts, over this seat's translation.
-/
import Derived.Test.YtkokdpidgikdkaaDoorRefLink
namespace Go.Proofs.YtkokdpidgikdkaaDoor
open Go.RowKit Go.Shelf

theorem linkParts_is (s h q : List UInt8) (c : Nat) (w : World) (hs : s.length ≤ 90000) (e : linkL s = (h, q, c)) :
    Calls Tryd.prog 33 #[.string ⟨s.toArray⟩] w fun e w' => (∃ k, e = .returned (.tuple #[.string k, .string ⟨h.toArray⟩, .string ⟨q.toArray⟩, .int .i64 c])) ∧ Below w.heap.size w w' := by
  have := linkParts_any s w hs
  rwa [e] at this
theorem parts_short {s h q : List UInt8} {k : Nat} (e : linkL s = (h, q, k)) : h.length ≤ s.length ∧ q.length ≤ s.length ∧ k ≤ 5 := by
  have := link_short s
  rw [e] at this
  exact this
theorem checkK_bad {s h q : List UInt8} {k : Nat} (e : linkL s = (h, q, k + 1)) : checkK s = k + 1 := by rw [checkK_eq, e]; simp
theorem checkK_path {s h q : List UInt8} (e : linkL s = (h, q, 0)) : checkK s = checkCode q := by rw [checkK_eq, e]; simp
theorem begin_bad {s h q : List UInt8} {k : Nat} (e : linkL s = (h, q, k + 1)) : beginK s = k + 1 := by simp [beginK, e]
theorem begin_none {s h q : List UInt8} (e : linkL s = (h, q, 0)) (e1 : dropSlash q = []) : beginK s = 0 := by simp [beginK, e, e1]
theorem begin_path {s h q : List UInt8} (e : linkL s = (h, q, 0)) (e1 : dropSlash q ≠ []) : beginK s = checkCode (dropSlash q) := by simp [beginK, e, e1]

set_option maxRecDepth 100000 in
theorem linkError_any (s : List UInt8) (w : World) (hs : s.length ≤ 90000) :
    Calls Tryd.prog 30 #[.string ⟨s.toArray⟩] w fun e w' => e = .returned (.int .i64 (checkK s)) ∧ Below w.heap.size w w' := by
  obtain ⟨⟨h, q, c⟩, hl⟩ : ∃ r, linkL s = r := ⟨_, rfl⟩
  have hsh := parts_short hl
  cases c with
  | succ k =>
    obtain ⟨z, hz⟩ : ∃ z : Int, ((k + 1 : Nat) : Int) = z := ⟨_, rfl⟩
    have hpos : 0 < z := by omega
    have HR : Hid (((checkK s : Nat) : Int) = z) := by show ((checkK s : Nat) : Int) = z; rw [checkK_bad hl, hz]
    have HZ := Lib.hid hz
    have HL := Lib.hid hl
    clear hl hz
    go_enter Tryd.func30, Tryd.ntmps30
    go_wp2_with fail
    refine (linkParts_is s h q _ _ hs HL.out).mono ?_
    rintro e w1 ⟨⟨kk, rfl⟩, hb1⟩
    have HB1 := Lib.hid hb1
    clear hb1
    rw [HZ.out]
    go_wp2
    go_ret
    exact ⟨by rw [HR.out]; rfl, HB1.out⟩
  | zero =>
    have HR := Lib.hid (checkK_path hl)
    have HL := Lib.hid hl
    clear hl
    go_enter Tryd.func30, Tryd.ntmps30
    go_wp2_with fail
    refine (linkParts_is s h q _ _ hs HL.out).mono ?_
    rintro e w1 ⟨⟨kk, rfl⟩, hb1⟩
    have HB1 := Lib.hid hb1
    clear hb1
    go_wp2_with fail
    refine (pathError_any q _ (by omega)).mono ?_
    rintro e w2 ⟨rfl, hb2⟩
    have HB2 := Lib.hid (HB1.out.trans (hb2.mono HB1.out.size))
    clear hb2
    go_wp2
    go_ret
    exact ⟨by rw [HR.out]; rfl, HB2.out⟩

theorem slash_yes (l : List UInt8) : dropSlash (l ++ [47]) = l := by
  have h : Lib.hasSuffix (l ++ [47]) [47] = true := by
    unfold Lib.hasSuffix
    exact List.isSuffixOf_iff_suffix.2 ⟨l, rfl⟩
  unfold dropSlash Lib.trimSuffix
  rw [if_pos h]
  simp
theorem slash_no {l : List UInt8} {c : UInt8} (hc : c ≠ 47) : dropSlash (l ++ [c]) = l ++ [c] := by
  have h : Lib.hasSuffix (l ++ [c]) [47] = false := by
    cases hs : Lib.hasSuffix (l ++ [c]) [47] with
    | false => rfl
    | true =>
      obtain ⟨t, ht⟩ := List.isSuffixOf_iff_suffix.1 hs
      have := congrArg List.getLast? ht
      simp at this
      exact absurd this.symm hc
  unfold dropSlash Lib.trimSuffix
  rw [h, if_neg (by decide)]
theorem last_at {l : List UInt8} {c : UInt8} (q : List UInt8) (hq : q = l ++ [c]) (h : l.length < ({ data := q.toArray } : ByteArray).size) : ({ data := q.toArray } : ByteArray)[l.length]'h = c := by
  subst hq
  show (l ++ [c])[l.length]'(by simp) = c
  simp

theorem linkError_is (s : List UInt8) (z : Int) (w : World) (hs : s.length ≤ 90000) (h : ((checkK s : Nat) : Int) = z) :
    Calls Tryd.prog 30 #[.string ⟨s.toArray⟩] w fun e w' => e = .returned (.int .i64 z) ∧ Below w.heap.size w w' := by
  have := linkError_any s w hs
  rwa [h] at this
theorem begins_is (s q : List UInt8) (r : Bool) (w : World) (hs : s.length ≤ 200000) (hq : q.length ≤ 200000) (h : Lib.hasPrefix s q = r) : Calls Tryd.prog 14 #[.string ⟨s.toArray⟩, .string ⟨q.toArray⟩] w fun e w' => e = .returned (.bool r) ∧ Below w.heap.size w w' := by
  have h0 := begins_any s q w hs hq
  rw [h] at h0
  exact h0.mono fun e w' ⟨h1, h2⟩ => ⟨h1, by rw [h2]; exact Below.refl _ _⟩
theorem ret_pair {x y : Value} {u v : Int} (h : x = y) (e : u = v) : Ending.returned (.tuple #[x, .int .i64 u]) = .returned (.tuple #[y, .int .i64 v]) := by rw [h, e]
theorem bytes_cat (a b : List UInt8) : ({ data := a.toArray } : ByteArray) ++ { data := b.toArray } = ⟨(a ++ b).toArray⟩ := by
  apply ByteArray.ext
  simp [ByteArray.data_append]
theorem swapK_a {a b s : List UInt8} {k : Nat} (h : beginK a = k + 1) : swapK a b s = ([], k + 1) := by simp [swapK, h]
theorem swapK_b {a b s : List UInt8} {k : Nat} (h1 : beginK a = 0) (h : beginK b = k + 1) : swapK a b s = ([], k + 1) := by simp [swapK, h1, h]
theorem swapK_s {a b s : List UInt8} {k : Nat} (h1 : beginK a = 0) (h2 : beginK b = 0) (h : checkK s = k + 1) : swapK a b s = ([], k + 1) := by simp [swapK, h1, h2, h]
theorem swapK_n {a b s : List UInt8} (h1 : beginK a = 0) (h2 : beginK b = 0) (h3 : checkK s = 0) (h : Lib.hasPrefix s a = false) : swapK a b s = ([], 6) := by simp [swapK, h1, h2, h3, h]
theorem swapK_x {a b s : List UInt8} {k : Nat} (h1 : beginK a = 0) (h2 : beginK b = 0) (h3 : checkK s = 0) (h4 : Lib.hasPrefix s a = true) (h : checkK (b ++ s.drop a.length) = k + 1) : swapK a b s = ([], k + 1) := by simp [swapK, h1, h2, h3, h4, h]

end Go.Proofs.YtkokdpidgikdkaaDoor
