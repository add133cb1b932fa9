/-
  Own texts of the proof, joined by program: Ref, RefMore, RefLink, RefLinks.
-/
import Derived.Test.YtmeipangcgdinaaGreatDoorCutCheckCleanPaths
import Derived.OwnWalk
import Derived.Test.YtmeipangcgdinaaGreatDoorParts
import Derived.Test.YtmeipangcgdinaaGreatDoorPart
import Derived.Test.YtmeipangcgdinaaGreatDoorLinkPureMirrorPureNetPure
import Derived.Lib.Hide
/-
  The document's answer for paths tells what the plain functions tell: IsPart, PartsOf, PathError, SameTexts, glue, Begins: contracts, over this seat's translation.
-/
namespace Go.Proofs.YtmeipangcgdinaaGreatDoor
open Go.RowKit Go.Shelf

theorem partByte_of {c : UInt8} (h : c.toNat = 45 ∨ c.toNat = 46 ∨ (48 ≤ c.toNat ∧ c.toNat ≤ 57) ∨ c.toNat = 95 ∨ (97 ≤ c.toNat ∧ c.toNat ≤ 122)) : partByte c = true := by
  rw [← partInt_byte]; simp [partInt]; omega
theorem partByte_not {c : UInt8} (h : c.toNat < 45 ∨ c.toNat = 47 ∨ (58 ≤ c.toNat ∧ c.toNat ≤ 94) ∨ c.toNat = 96 ∨ 123 ≤ c.toNat) : partByte c = false := by
  rw [← partInt_byte]; simp [partInt]; omega

theorem pieces_le : ∀ (l : List UInt8), ∀ x ∈ pieces l, x.length ≤ l.length
  | [], x, hx => by simp [pieces] at hx; simp [hx]
  | c :: r, x, hx => by
    have ih := pieces_le r
    unfold pieces at hx
    split at hx
    · rcases List.mem_cons.1 hx with rfl | hx
      · simp
      · have := ih x hx; simp; omega
    · split at hx
      · simp at hx; subst hx; simp
      · rename_i q qs hq
        rcases List.mem_cons.1 hx with rfl | hx
        · have := ih q (by rw [hq]; exact List.mem_cons_self)
          simp; omega
        · have := ih x (by rw [hq]; exact List.mem_cons_of_mem _ hx)
          simp; omega

end Go.Proofs.YtmeipangcgdinaaGreatDoor
/-
  The document's answer for paths, further: PathError, SameTexts, glue, Begins, IsIn, StripOf: contracts, over this seat's translation.
-/
namespace Go.Proofs.YtmeipangcgdinaaGreatDoor
open Go.RowKit Go.Shelf

theorem join_snoc {k : List (List UInt8)} (x : List UInt8) (h : k ≠ []) : Lib.join (k ++ [x]) [47] = Lib.join k [47] ++ [47] ++ x := by
  rw [join_app h (by simp), Lib.join_one]; simp

end Go.Proofs.YtmeipangcgdinaaGreatDoor
/-
  The document's answer for links: InTexts, LinkParts: contracts, over this seat's translation.
-/
namespace Go.Proofs.YtmeipangcgdinaaGreatDoor
open Go.RowKit Go.Shelf

theorem contains_take {k : List (List UInt8)} {s : List UInt8} {q : Nat} (hq : q < k.length) (h : (k.take q).contains s = false) (hx : k[q] ≠ s) : (k.take (q + 1)).contains s = false := by
  rw [List.take_succ_eq_append_getElem hq]
  simp only [List.contains_eq_mem, List.mem_append, List.mem_singleton, decide_eq_false_iff_not, not_or] at h ⊢
  exact ⟨h, fun e => hx e.symm⟩

theorem kinds_contains (k : List UInt8) : decide (k ∈ [[104, 116, 116, 112], [102, 116, 112], [102, 105, 108, (101 : UInt8)]]) = kindL k := by
  rw [← List.contains_eq_mem]
  simp only [kindL, List.contains_cons, List.contains_nil, Bool.or_false, Bool.or_assoc]

/-- Four results. -/
theorem results_tmp4 {fn : Func} {t u v x : Tmp} (h : fn.results = #[.tmp t, .tmp u, .tmp v, .tmp x]) (tmps : Array Value) (P : Program) (w : World) :
    (results fn tmps).run P w = .ok (.tuple #[tmps.getD t undef, tmps.getD u undef, tmps.getD v undef, tmps.getD x undef]) w := by
  simp [results, h]
theorem extract_from (l : List UInt8) (i : Nat) : ({ data := l.toArray } : ByteArray).extract i l.length = ⟨(l.drop i).toArray⟩ := by
  rw [extract_list, List.take_of_length_le (by rw [List.length_drop]; omega)]
theorem extract_to (l : List UInt8) (i : Nat) : ({ data := l.toArray } : ByteArray).extract 0 i = ⟨(l.take i).toArray⟩ := by
  rw [extract_list]; simp
theorem kinds_cells (w : World) (t : TypeId) : ∀ j (h : j < [[104, 116, 116, 112], [102, 116, 112], [102, 105, 108, (101 : UInt8)]].length),
    (w.alloc (.cells #[.string ⟨#[104, 116, 116, 112]⟩, .string ⟨#[102, 116, 112]⟩, .string ⟨#[102, 105, 108, 101]⟩] t)).cell? ⟨w.heap.size, 0 + j, none⟩ = some (.string ⟨([[104, 116, 116, 112], [102, 116, 112], [102, 105, 108, (101 : UInt8)]][j]).toArray⟩) := by
  intro j h
  simp at h
  rcases j with _ | _ | _ | j
  · simp
  · simp
  · simp
  · omega

theorem drawn_below' (w : World) (n : Nat) : Below w.heap.size w (w.drewN n) := ⟨rfl, rfl, rfl, Nat.le_refl _, fun _ _ => rfl⟩

end Go.Proofs.YtmeipangcgdinaaGreatDoor
/-
  The document's answer for links: LinkError, BeginError, SwapOf: contracts, over this seat's translation.
-/
namespace Go.Proofs.YtmeipangcgdinaaGreatDoor
open Go.RowKit Go.Shelf

theorem parts_short {s h q : List UInt8} {k : Nat} (e : linkL s = (h, q, k)) : h.length ≤ s.length ∧ q.length ≤ s.length ∧ k ≤ 5 := by
  have := link_short s
  rw [e] at this
  exact this
theorem checkK_bad {s h q : List UInt8} {k : Nat} (e : linkL s = (h, q, k + 1)) : checkK s = k + 1 := by rw [checkK_eq, e]; simp
theorem checkK_path {s h q : List UInt8} (e : linkL s = (h, q, 0)) : checkK s = checkCode q := by rw [checkK_eq, e]; simp
theorem begin_bad {s h q : List UInt8} {k : Nat} (e : linkL s = (h, q, k + 1)) : beginK s = k + 1 := by simp [beginK, e]
theorem begin_none {s h q : List UInt8} (e : linkL s = (h, q, 0)) (e1 : dropSlash q = []) : beginK s = 0 := by simp [beginK, e, e1]
theorem begin_path {s h q : List UInt8} (e : linkL s = (h, q, 0)) (e1 : dropSlash q ≠ []) : beginK s = checkCode (dropSlash q) := by simp [beginK, e, e1]

theorem slash_yes (l : List UInt8) : dropSlash (l ++ [47]) = l := by
  have h : Lib.hasSuffix (l ++ [47]) [47] = true := by
    unfold Lib.hasSuffix
    exact List.isSuffixOf_iff_suffix.2 ⟨l, rfl⟩
  unfold dropSlash Lib.trimSuffix
  rw [if_pos h]
  simp
theorem slash_no {l : List UInt8} {c : UInt8} (hc : c ≠ 47) : dropSlash (l ++ [c]) = l ++ [c] := by
  have h : Lib.hasSuffix (l ++ [c]) [47] = false := by
    cases hs : Lib.hasSuffix (l ++ [c]) [47] with
    | false => rfl
    | true =>
      obtain ⟨t, ht⟩ := List.isSuffixOf_iff_suffix.1 hs
      have := congrArg List.getLast? ht
      simp at this
      exact absurd this.symm hc
  unfold dropSlash Lib.trimSuffix
  rw [h, if_neg (by decide)]
theorem last_at {l : List UInt8} {c : UInt8} (q : List UInt8) (hq : q = l ++ [c]) (h : l.length < ({ data := q.toArray } : ByteArray).size) : ({ data := q.toArray } : ByteArray)[l.length]'h = c := by
  subst hq
  show (l ++ [c])[l.length]'(by simp) = c
  simp

theorem ret_pair {x y : Value} {u v : Int} (h : x = y) (e : u = v) : Ending.returned (.tuple #[x, .int .i64 u]) = .returned (.tuple #[y, .int .i64 v]) := by rw [h, e]
theorem bytes_cat (a b : List UInt8) : ({ data := a.toArray } : ByteArray) ++ { data := b.toArray } = ⟨(a ++ b).toArray⟩ := by
  apply ByteArray.ext
  simp [ByteArray.data_append]
theorem swapK_a {a b s : List UInt8} {k : Nat} (h : beginK a = k + 1) : swapK a b s = ([], k + 1) := by simp [swapK, h]
theorem swapK_b {a b s : List UInt8} {k : Nat} (h1 : beginK a = 0) (h : beginK b = k + 1) : swapK a b s = ([], k + 1) := by simp [swapK, h1, h]
theorem swapK_s {a b s : List UInt8} {k : Nat} (h1 : beginK a = 0) (h2 : beginK b = 0) (h : checkK s = k + 1) : swapK a b s = ([], k + 1) := by simp [swapK, h1, h2, h]
theorem swapK_n {a b s : List UInt8} (h1 : beginK a = 0) (h2 : beginK b = 0) (h3 : checkK s = 0) (h : Lib.hasPrefix s a = false) : swapK a b s = ([], 6) := by simp [swapK, h1, h2, h3, h]
theorem swapK_x {a b s : List UInt8} {k : Nat} (h1 : beginK a = 0) (h2 : beginK b = 0) (h3 : checkK s = 0) (h4 : Lib.hasPrefix s a = true) (h : checkK (b ++ s.drop a.length) = k + 1) : swapK a b s = ([], k + 1) := by simp [swapK, h1, h2, h3, h4, h]

end Go.Proofs.YtmeipangcgdinaaGreatDoor
