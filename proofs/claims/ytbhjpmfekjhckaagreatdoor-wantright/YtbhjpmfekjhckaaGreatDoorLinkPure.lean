/-
  Links as lists of bytes: cut at the end of a kind, and of a host; checked, begun, swapped: plain functions and what holds of them. No Go text is spoken of here.
-/
import Derived.Test.YtbhjpmfekjhckaaGreatDoorPureFacts
import Derived.Lib.CutLaws
import Derived.Lib.LastIndexLaws
namespace Go.Proofs.YtbhjpmfekjhckaaGreatDoor

/-- What stands ahead of the first end of a kind, and behind it. -/
def cutM : List UInt8 → Option (List UInt8 × List UInt8)
  | [] => none
  | c :: r => if List.isPrefixOf [58, 47, 47] (c :: r) then some ([], r.drop 2) else match cutM r with | none => none | some (a, b) => some (c :: a, b)

theorem cutM_hit {s : List UInt8} (h : List.isPrefixOf [58, 47, 47] s = true) : cutM s = some ([], s.drop 3) := by
  cases s with
  | nil => simp at h
  | cons c r => unfold cutM; rw [if_pos h]; rfl

theorem cutM_miss {c : UInt8} {r : List UInt8} (h : List.isPrefixOf [58, 47, 47] (c :: r) = false) : cutM (c :: r) = (cutM r).map fun ab => (c :: ab.1, ab.2) := by
  rw [cutM, if_neg (by rw [h]; decide)]
  cases cutM r with
  | none => rfl
  | some ab => rfl

theorem cutM_index : ∀ s : List UInt8, (cutM s = none ∧ Lib.index s [58, 47, 47] = -1) ∨ ∃ a b, cutM s = some (a, b) ∧ Lib.index s [58, 47, 47] = a.length ∧ s = a ++ 58 :: 47 :: 47 :: b
  | [] => .inl ⟨rfl, rfl⟩
  | c :: r => by
    by_cases h : List.isPrefixOf [58, 47, 47] (c :: r) = true
    · refine .inr ⟨[], r.drop 2, cutM_hit h, ?_, ?_⟩
      · unfold Lib.index; rw [if_pos h]; rfl
      · obtain ⟨t, ht⟩ := List.isPrefixOf_iff_prefix.1 h
        rw [← ht]
        simp at ht
        obtain ⟨rfl, rfl⟩ := ht
        simp
    · have h' : List.isPrefixOf [58, 47, 47] (c :: r) = false := Bool.eq_false_iff.2 h
      rw [cutM_miss h']
      have e : Lib.index (c :: r) [58, 47, 47] = if Lib.index r [58, 47, 47] == -1 then -1 else Lib.index r [58, 47, 47] + 1 := by
        rw [Lib.index, if_neg h]
      rcases cutM_index r with ⟨h1, h2⟩ | ⟨a, b, h1, h2, h3⟩
      · refine .inl ⟨by rw [h1]; rfl, ?_⟩
        rw [e, h2]; rfl
      · refine .inr ⟨c :: a, b, by rw [h1]; rfl, ?_, by rw [h3]; rfl⟩
        rw [e, h2]
        have : ((a.length : Int) == -1) = false := by simp
        rw [this]
        simp

/-- strings.Cut at the end of a kind. -/
theorem cut_cutM (s : List UInt8) : Lib.cut s [58, 47, 47] = match cutM s with | none => (s, [], false) | some (a, b) => (a, b, true) := by
  unfold Lib.cut
  rcases cutM_index s with ⟨h1, h2⟩ | ⟨a, b, h1, h2, h3⟩
  · rw [h1, h2]; rfl
  · rw [h1, h2, if_pos (by omega)]
    simp only [Int.toNat_natCast]
    rw [h3]
    simp

theorem cutM_some {s a b : List UInt8} (h : cutM s = some (a, b)) : s = a ++ 58 :: 47 :: 47 :: b := by
  rcases cutM_index s with ⟨h1, _⟩ | ⟨a', b', h1, _, h3⟩
  · rw [h] at h1; cases h1
  · rw [h] at h1
    cases h1
    exact h3

/-- The first k places hold no end of a kind: the rest is cut. -/
theorem cutM_step {s : List UInt8} {k : Nat} (hk : k < s.length) (h : cutM s = (cutM (s.drop k)).map fun ab => (s.take k ++ ab.1, ab.2)) (hm : List.isPrefixOf [58, 47, 47] (s.drop k) = false) :
    cutM s = (cutM (s.drop (k + 1))).map fun ab => (s.take (k + 1) ++ ab.1, ab.2) := by
  rw [h]
  have e : s.drop k = s[k] :: s.drop (k + 1) := List.drop_eq_getElem_cons hk
  rw [e] at hm ⊢
  rw [cutM_miss hm, List.take_succ_eq_append_getElem hk]
  cases cutM (s.drop (k + 1)) with
  | none => rfl
  | some ab => simp only [Option.map_some, List.append_assoc, List.singleton_append]
theorem cutM_found {s : List UInt8} {k : Nat} (h : cutM s = (cutM (s.drop k)).map fun ab => (s.take k ++ ab.1, ab.2)) (hm : List.isPrefixOf [58, 47, 47] (s.drop k) = true) :
    cutM s = some (s.take k, s.drop (k + 3)) ∧ k + 3 ≤ s.length := by
  constructor
  · rw [h, cutM_hit hm]; simp
  · obtain ⟨t, ht⟩ := List.isPrefixOf_iff_prefix.1 hm
    have := congrArg List.length ht
    simp at this
    omega
theorem cutM_lost {s : List UInt8} (h : cutM s = (cutM (s.drop s.length)).map fun ab => (s.take s.length ++ ab.1, ab.2)) : cutM s = none := by
  rw [h]; simp [cutM]

theorem cutL_miss {c : UInt8} {r : List UInt8} (h : c ≠ 47) : cutL (c :: r) = (cutL r).map fun ab => (c :: ab.1, ab.2) := by
  rw [cutL, if_neg h]
  cases cutL r with
  | none => rfl
  | some ab => rfl
theorem cutL_step {s : List UInt8} {f k : Nat} (hf : f ≤ k) (hk : k < s.length) (h : cutL (s.drop f) = (cutL (s.drop k)).map fun ab => ((s.drop f).take (k - f) ++ ab.1, ab.2)) (hm : s[k] ≠ 47) :
    cutL (s.drop f) = (cutL (s.drop (k + 1))).map fun ab => ((s.drop f).take (k + 1 - f) ++ ab.1, ab.2) := by
  rw [h]
  have e : s.drop k = s[k] :: s.drop (k + 1) := List.drop_eq_getElem_cons hk
  rw [e, cutL_miss hm, take_more hf hk]
  cases cutL (s.drop (k + 1)) with
  | none => rfl
  | some ab => simp
theorem cutL_found {s : List UInt8} {f k : Nat} (hk : k < s.length) (h : cutL (s.drop f) = (cutL (s.drop k)).map fun ab => ((s.drop f).take (k - f) ++ ab.1, ab.2)) (hm : s[k] = 47) :
    cutL (s.drop f) = some ((s.drop f).take (k - f), s.drop (k + 1)) := by
  rw [h]
  have e : s.drop k = s[k] :: s.drop (k + 1) := List.drop_eq_getElem_cons hk
  rw [e, hm]
  simp [cutL]
theorem cutL_lost {s : List UInt8} {f : Nat} (h : cutL (s.drop f) = (cutL (s.drop s.length)).map fun ab => ((s.drop f).take (s.length - f) ++ ab.1, ab.2)) : cutL (s.drop f) = none := by
  rw [h]; simp [cutL]

def httpL : List UInt8 := [104, 116, 116, 112]
def ftpL : List UInt8 := [102, 116, 112]
def fileL' : List UInt8 := [102, 105, 108, 101]
/-- Is this a kind? -/
def kindL (k : List UInt8) : Bool := k == [104, 116, 116, 112] || k == [102, 116, 112] || k == [102, 105, 108, 101]

/-- A link, or the beginning of one, taken apart: host, what stands behind it, the number of an error. -/
def linkL (s : List UInt8) : List UInt8 × List UInt8 × Nat :=
  match cutM s with
  | none => ([], [], 1)
  | some (k, b) => match cutL b with
    | none => ([], [], 1)
    | some (h, p) => if kindL k then (if isPart h then (h, p, 0) else ([], [], 5)) else ([], [], 4)

theorem link_no {s : List UInt8} (h : cutM s = none) : linkL s = ([], [], 1) := by simp [linkL, h]
theorem link_end {s k b : List UInt8} (h : cutM s = some (k, b)) (h1 : cutL b = none) : linkL s = ([], [], 1) := by simp [linkL, h, h1]
theorem link_kind {s k b x y : List UInt8} (h : cutM s = some (k, b)) (h1 : cutL b = some (x, y)) (h2 : kindL k = false) : linkL s = ([], [], 4) := by simp [linkL, h, h1, h2]
theorem link_host {s k b x y : List UInt8} (h : cutM s = some (k, b)) (h1 : cutL b = some (x, y)) (h2 : kindL k = true) (h3 : isPart x = false) : linkL s = ([], [], 5) := by simp [linkL, h, h1, h2, h3]
theorem link_ok {s k b x y : List UInt8} (h : cutM s = some (k, b)) (h1 : cutL b = some (x, y)) (h2 : kindL k = true) (h3 : isPart x = true) : linkL s = (x, y, 0) := by simp [linkL, h, h1, h2, h3]

theorem link_short (s : List UInt8) : (linkL s).1.length ≤ s.length ∧ (linkL s).2.1.length ≤ s.length ∧ (linkL s).2.2 ≤ 5 := by
  unfold linkL
  split
  · simp
  · rename_i k b h
    have e := congrArg List.length (cutM_some h)
    simp at e
    split
    · simp
    · rename_i x y h1
      have e1 := congrArg List.length (cutL_some h1)
      simp at e1
      split
      · split
        · simp; omega
        · simp
      · simp
theorem link_bad {s : List UInt8} (h : (linkL s).2.2 ≠ 0) : (linkL s).1 = [] ∧ (linkL s).2.1 = [] := by
  unfold linkL at h ⊢
  split
  · simp
  · rename_i k b h0
    rw [h0] at h
    simp only at h
    split
    · simp
    · rename_i x y h1
      rw [h1] at h
      simp only at h
      split
      · rename_i h2
        rw [if_pos h2] at h
        split
        · rename_i h3
          rw [if_pos h3] at h
          exact absurd rfl h
        · simp
      · simp

/-- A link taken apart, its path checked. -/
def readK (s : List UInt8) : List UInt8 × List UInt8 × Nat :=
  if (linkL s).2.2 ≠ 0 then ([], [], (linkL s).2.2) else if checkCode (linkL s).2.1 ≠ 0 then ([], [], checkCode (linkL s).2.1) else ((linkL s).1, (linkL s).2.1, 0)

/-- The number of the error that checking a link tells. -/
def checkK (s : List UInt8) : Nat := (readK s).2.2

/-- Without a slash at its end. -/
def dropSlash (p : List UInt8) : List UInt8 := Lib.trimSuffix p [47]

/-- The number of the error that the beginning of a link tells. -/
def beginK (s : List UInt8) : Nat :=
  if (linkL s).2.2 ≠ 0 then (linkL s).2.2 else if dropSlash (linkL s).2.1 = [] then 0 else checkCode (dropSlash (linkL s).2.1)

/-- One beginning in the place of another. -/
def swapK (from_ to s : List UInt8) : List UInt8 × Nat :=
  if beginK from_ ≠ 0 then ([], beginK from_) else if beginK to ≠ 0 then ([], beginK to) else if checkK s ≠ 0 then ([], checkK s)
  else if Lib.hasPrefix s from_ = false then ([], 6)
  else if checkK (to ++ s.drop from_.length) ≠ 0 then ([], checkK (to ++ s.drop from_.length)) else (to ++ s.drop from_.length, 0)

theorem checkCode_small (s : List UInt8) : checkCode s ≤ 8 := by
  unfold checkCode
  split
  · split <;> omega
  · omega
theorem checkK_eq (s : List UInt8) : checkK s = if (linkL s).2.2 ≠ 0 then (linkL s).2.2 else checkCode (linkL s).2.1 := by
  unfold checkK readK
  split
  · rfl
  · split
    · rfl
    · rename_i h
      have : checkCode (linkL s).2.1 = 0 := by omega
      rw [this]
theorem checkK_small (s : List UInt8) : checkK s ≤ 8 := by
  have h1 := (link_short s).2.2
  have h2 := checkCode_small (linkL s).2.1
  rw [checkK_eq]
  split <;> omega
theorem beginK_small (s : List UInt8) : beginK s ≤ 8 := by
  have h1 := (link_short s).2.2
  have h2 := checkCode_small (dropSlash (linkL s).2.1)
  unfold beginK
  split
  · omega
  · split <;> omega
theorem swapK_small (a b s : List UInt8) : (swapK a b s).2 ≤ 8 := by
  have h1 := beginK_small a
  have h2 := beginK_small b
  have h3 := checkK_small s
  have h4 := checkK_small (b ++ s.drop a.length)
  unfold swapK
  split
  · exact h1
  · split
    · exact h2
    · split
      · exact h3
      · split
        · decide
        · split
          · exact h4
          · exact Nat.zero_le _
theorem readK_short (s : List UInt8) : (readK s).1.length ≤ s.length ∧ (readK s).2.1.length ≤ s.length := by
  obtain ⟨h1, h2, _⟩ := link_short s
  unfold readK
  split
  · simp
  · split
    · simp
    · exact ⟨h1, h2⟩

/-- The last byte of a path is no slash. -/
theorem path_end {p : List UInt8} (h : checkCode p = 0) : Lib.hasSuffix p [47] = false := by
  cases hs : Lib.hasSuffix p [47] with
  | false => rfl
  | true =>
    obtain ⟨t, rfl⟩ := List.isSuffixOf_iff_suffix.1 hs
    have h1 := (checkCode_zero.1 h).1
    rw [show t ++ [47] = t ++ 47 :: [] from rfl, pieces_app] at h1
    have := h1 [] (by simp [pieces])
    simp [isPart] at this
theorem dropSlash_path {p : List UInt8} (h : checkCode p = 0) : dropSlash p = p := by
  unfold dropSlash Lib.trimSuffix
  rw [path_end h, if_neg (by decide)]
/-- A link begins itself. -/
theorem begin_of_check {s : List UInt8} (h : checkK s = 0) : beginK s = 0 := by
  rw [checkK_eq] at h
  unfold beginK
  by_cases h0 : (linkL s).2.2 ≠ 0
  · rw [if_pos h0] at h
    exact absurd h h0
  · rw [if_neg h0] at h ⊢
    rw [dropSlash_path h, h]
    split <;> rfl
theorem prefix_self (s : List UInt8) : Lib.hasPrefix s s = true := by
  unfold Lib.hasPrefix
  exact List.isPrefixOf_iff_prefix.2 (List.prefix_refl _)
theorem swap_self {s : List UInt8} (h : checkK s = 0) : swapK s s s = (s, 0) := by
  have h1 := begin_of_check h
  simp [swapK, h1, h, prefix_self]
theorem swap_bad {a b s : List UInt8} (h : (swapK a b s).2 ≠ 0) : (swapK a b s).1 = [] := by
  unfold swapK at h ⊢
  split
  · rfl
  · rename_i h1
    rw [if_neg h1] at h
    split
    · rfl
    · rename_i h2
      rw [if_neg h2] at h
      split
      · rfl
      · rename_i h3
        rw [if_neg h3] at h
        split
        · rfl
        · rename_i h4
          rw [if_neg h4] at h
          split
          · rfl
          · rename_i h5
            rw [if_neg h5] at h
            exact absurd rfl h
theorem swap_ok {a b s : List UInt8} (h : (swapK a b s).2 = 0) : beginK a = 0 ∧ beginK b = 0 ∧ checkK s = 0 ∧ Lib.hasPrefix s a = true ∧ checkK (b ++ s.drop a.length) = 0 ∧ (swapK a b s).1 = b ++ s.drop a.length := by
  unfold swapK at h ⊢
  by_cases h1 : beginK a ≠ 0
  · rw [if_pos h1] at h; exact absurd h h1
  rw [if_neg h1] at h ⊢
  by_cases h2 : beginK b ≠ 0
  · rw [if_pos h2] at h; exact absurd h h2
  rw [if_neg h2] at h ⊢
  by_cases h3 : checkK s ≠ 0
  · rw [if_pos h3] at h; exact absurd h h3
  rw [if_neg h3] at h ⊢
  by_cases h4 : Lib.hasPrefix s a = false
  · rw [if_pos h4] at h; exact absurd h (by decide)
  rw [if_neg h4] at h ⊢
  by_cases h5 : checkK (b ++ s.drop a.length) ≠ 0
  · rw [if_pos h5] at h; exact absurd h h5
  rw [if_neg h5]
  exact ⟨by omega, by omega, by omega, by simpa using h4, by omega, rfl⟩
theorem swap_is {a b s : List UInt8} (h1 : beginK a = 0) (h2 : beginK b = 0) (h3 : checkK s = 0) (h4 : Lib.hasPrefix s a = true) (h5 : checkK (b ++ s.drop a.length) = 0) : swapK a b s = (b ++ s.drop a.length, 0) := by
  simp [swapK, h1, h2, h3, h4, h5]
/-- What is swapped, and swapped back, is what it was. -/
theorem swap_back {a b s : List UInt8} (h : (swapK a b s).2 = 0) : swapK b a (swapK a b s).1 = (s, 0) ∧ checkK (swapK a b s).1 = 0 ∧ Lib.hasPrefix (swapK a b s).1 b = true := by
  obtain ⟨h1, h2, h3, h4, h5, h6⟩ := swap_ok h
  rw [h6]
  obtain ⟨t, rfl⟩ := List.isPrefixOf_iff_prefix.1 h4
  have e : (a ++ t).drop a.length = t := by simp
  rw [e] at h5 ⊢
  have e2 : (b ++ t).drop b.length = t := by simp
  have hp := hasPrefix_app b t
  refine ⟨?_, h5, hp⟩
  rw [swap_is h2 h1 h5 hp (by rw [e2]; exact h3), e2]

/-- The last part of a path. -/
def lastL (p : List UInt8) : List UInt8 := (pieces p).getLast (pieces_ne p)

theorem lastL_no {p : List UInt8} (h : 47 ∉ p) : lastL p = p := by
  unfold lastL
  simp only [pieces_part h]
  rfl
theorem lastL_app (a b : List UInt8) (h : 47 ∉ b) : lastL (a ++ 47 :: b) = b := by
  have e : pieces (a ++ 47 :: b) = pieces a ++ [b] := by rw [pieces_app, pieces_part h]
  unfold lastL
  simp only [e]
  simp
end Go.Proofs.YtbhjpmfekjhckaaGreatDoor
