/-
  Own texts of the proof, joined by program: LinkPure, MirrorPure, NetPure.
-/
import Derived.Test.YtmeipangcgdinaaGreatDoorPureFacts
import Derived.Lib.CutLaws
import Derived.Lib.LastIndexLaws
/-
  Links as lists of bytes: cut at the end of a kind, and of a host; checked, begun, swapped: plain functions and what holds of them. No Go text is spoken of here.
-/
namespace Go.Proofs.YtmeipangcgdinaaGreatDoor

/-- What stands ahead of the first end of a kind, and behind it. -/
def cutM : List UInt8 → Option (List UInt8 × List UInt8)
  | [] => none
  | c :: r => if List.isPrefixOf [58, 47, 47] (c :: r) then some ([], r.drop 2) else match cutM r with | none => none | some (a, b) => some (c :: a, b)

theorem cutM_hit {s : List UInt8} (h : List.isPrefixOf [58, 47, 47] s = true) : cutM s = some ([], s.drop 3) := by
  cases s with
  | nil => simp at h
  | cons c r => unfold cutM; rw [if_pos h]; rfl

theorem cutM_miss {c : UInt8} {r : List UInt8} (h : List.isPrefixOf [58, 47, 47] (c :: r) = false) : cutM (c :: r) = (cutM r).map fun ab => (c :: ab.1, ab.2) := by
  rw [cutM, if_neg (by rw [h]; decide)]
  cases cutM r with
  | none => rfl
  | some ab => rfl

theorem cutM_index : ∀ s : List UInt8, (cutM s = none ∧ Lib.index s [58, 47, 47] = -1) ∨ ∃ a b, cutM s = some (a, b) ∧ Lib.index s [58, 47, 47] = a.length ∧ s = a ++ 58 :: 47 :: 47 :: b
  | [] => .inl ⟨rfl, rfl⟩
  | c :: r => by
    by_cases h : List.isPrefixOf [58, 47, 47] (c :: r) = true
    · refine .inr ⟨[], r.drop 2, cutM_hit h, ?_, ?_⟩
      · unfold Lib.index; rw [if_pos h]; rfl
      · obtain ⟨t, ht⟩ := List.isPrefixOf_iff_prefix.1 h
        rw [← ht]
        simp at ht
        obtain ⟨rfl, rfl⟩ := ht
        simp
    · have h' : List.isPrefixOf [58, 47, 47] (c :: r) = false := Bool.eq_false_iff.2 h
      rw [cutM_miss h']
      have e : Lib.index (c :: r) [58, 47, 47] = if Lib.index r [58, 47, 47] == -1 then -1 else Lib.index r [58, 47, 47] + 1 := by
        rw [Lib.index, if_neg h]
      rcases cutM_index r with ⟨h1, h2⟩ | ⟨a, b, h1, h2, h3⟩
      · refine .inl ⟨by rw [h1]; rfl, ?_⟩
        rw [e, h2]; rfl
      · refine .inr ⟨c :: a, b, by rw [h1]; rfl, ?_, by rw [h3]; rfl⟩
        rw [e, h2]
        have : ((a.length : Int) == -1) = false := by simp
        rw [this]
        simp

/-- strings.Cut at the end of a kind. -/
theorem cut_cutM (s : List UInt8) : Lib.cut s [58, 47, 47] = match cutM s with | none => (s, [], false) | some (a, b) => (a, b, true) := by
  unfold Lib.cut
  rcases cutM_index s with ⟨h1, h2⟩ | ⟨a, b, h1, h2, h3⟩
  · rw [h1, h2]; rfl
  · rw [h1, h2, if_pos (by omega)]
    simp only [Int.toNat_natCast]
    rw [h3]
    simp

theorem cutM_some {s a b : List UInt8} (h : cutM s = some (a, b)) : s = a ++ 58 :: 47 :: 47 :: b := by
  rcases cutM_index s with ⟨h1, _⟩ | ⟨a', b', h1, _, h3⟩
  · rw [h] at h1; cases h1
  · rw [h] at h1
    cases h1
    exact h3

/-- The first k places hold no end of a kind: the rest is cut. -/
theorem cutM_step {s : List UInt8} {k : Nat} (hk : k < s.length) (h : cutM s = (cutM (s.drop k)).map fun ab => (s.take k ++ ab.1, ab.2)) (hm : List.isPrefixOf [58, 47, 47] (s.drop k) = false) :
    cutM s = (cutM (s.drop (k + 1))).map fun ab => (s.take (k + 1) ++ ab.1, ab.2) := by
  rw [h]
  have e : s.drop k = s[k] :: s.drop (k + 1) := List.drop_eq_getElem_cons hk
  rw [e] at hm ⊢
  rw [cutM_miss hm, List.take_succ_eq_append_getElem hk]
  cases cutM (s.drop (k + 1)) with
  | none => rfl
  | some ab => simp only [Option.map_some, List.append_assoc, List.singleton_append]
theorem cutM_found {s : List UInt8} {k : Nat} (h : cutM s = (cutM (s.drop k)).map fun ab => (s.take k ++ ab.1, ab.2)) (hm : List.isPrefixOf [58, 47, 47] (s.drop k) = true) :
    cutM s = some (s.take k, s.drop (k + 3)) ∧ k + 3 ≤ s.length := by
  constructor
  · rw [h, cutM_hit hm]; simp
  · obtain ⟨t, ht⟩ := List.isPrefixOf_iff_prefix.1 hm
    have := congrArg List.length ht
    simp at this
    omega
theorem cutM_lost {s : List UInt8} (h : cutM s = (cutM (s.drop s.length)).map fun ab => (s.take s.length ++ ab.1, ab.2)) : cutM s = none := by
  rw [h]; simp [cutM]

theorem cutL_miss {c : UInt8} {r : List UInt8} (h : c ≠ 47) : cutL (c :: r) = (cutL r).map fun ab => (c :: ab.1, ab.2) := by
  rw [cutL, if_neg h]
  cases cutL r with
  | none => rfl
  | some ab => rfl
theorem cutL_step {s : List UInt8} {f k : Nat} (hf : f ≤ k) (hk : k < s.length) (h : cutL (s.drop f) = (cutL (s.drop k)).map fun ab => ((s.drop f).take (k - f) ++ ab.1, ab.2)) (hm : s[k] ≠ 47) :
    cutL (s.drop f) = (cutL (s.drop (k + 1))).map fun ab => ((s.drop f).take (k + 1 - f) ++ ab.1, ab.2) := by
  rw [h]
  have e : s.drop k = s[k] :: s.drop (k + 1) := List.drop_eq_getElem_cons hk
  rw [e, cutL_miss hm, take_more hf hk]
  cases cutL (s.drop (k + 1)) with
  | none => rfl
  | some ab => simp
theorem cutL_found {s : List UInt8} {f k : Nat} (hk : k < s.length) (h : cutL (s.drop f) = (cutL (s.drop k)).map fun ab => ((s.drop f).take (k - f) ++ ab.1, ab.2)) (hm : s[k] = 47) :
    cutL (s.drop f) = some ((s.drop f).take (k - f), s.drop (k + 1)) := by
  rw [h]
  have e : s.drop k = s[k] :: s.drop (k + 1) := List.drop_eq_getElem_cons hk
  rw [e, hm]
  simp [cutL]
theorem cutL_lost {s : List UInt8} {f : Nat} (h : cutL (s.drop f) = (cutL (s.drop s.length)).map fun ab => ((s.drop f).take (s.length - f) ++ ab.1, ab.2)) : cutL (s.drop f) = none := by
  rw [h]; simp [cutL]

def httpL : List UInt8 := [104, 116, 116, 112]
def ftpL : List UInt8 := [102, 116, 112]
def fileL' : List UInt8 := [102, 105, 108, 101]
/-- Is this a kind? -/
def kindL (k : List UInt8) : Bool := k == [104, 116, 116, 112] || k == [102, 116, 112] || k == [102, 105, 108, 101]

/-- A link, or the beginning of one, taken apart: host, what stands behind it, the number of an error. -/
def linkL (s : List UInt8) : List UInt8 × List UInt8 × Nat :=
  match cutM s with
  | none => ([], [], 1)
  | some (k, b) => match cutL b with
    | none => ([], [], 1)
    | some (h, p) => if kindL k then (if isPart h then (h, p, 0) else ([], [], 5)) else ([], [], 4)

theorem link_no {s : List UInt8} (h : cutM s = none) : linkL s = ([], [], 1) := by simp [linkL, h]
theorem link_end {s k b : List UInt8} (h : cutM s = some (k, b)) (h1 : cutL b = none) : linkL s = ([], [], 1) := by simp [linkL, h, h1]
theorem link_kind {s k b x y : List UInt8} (h : cutM s = some (k, b)) (h1 : cutL b = some (x, y)) (h2 : kindL k = false) : linkL s = ([], [], 4) := by simp [linkL, h, h1, h2]
theorem link_host {s k b x y : List UInt8} (h : cutM s = some (k, b)) (h1 : cutL b = some (x, y)) (h2 : kindL k = true) (h3 : isPart x = false) : linkL s = ([], [], 5) := by simp [linkL, h, h1, h2, h3]
theorem link_ok {s k b x y : List UInt8} (h : cutM s = some (k, b)) (h1 : cutL b = some (x, y)) (h2 : kindL k = true) (h3 : isPart x = true) : linkL s = (x, y, 0) := by simp [linkL, h, h1, h2, h3]

theorem link_short (s : List UInt8) : (linkL s).1.length ≤ s.length ∧ (linkL s).2.1.length ≤ s.length ∧ (linkL s).2.2 ≤ 5 := by
  unfold linkL
  split
  · simp
  · rename_i k b h
    have e := congrArg List.length (cutM_some h)
    simp at e
    split
    · simp
    · rename_i x y h1
      have e1 := congrArg List.length (cutL_some h1)
      simp at e1
      split
      · split
        · simp; omega
        · simp
      · simp
theorem link_bad {s : List UInt8} (h : (linkL s).2.2 ≠ 0) : (linkL s).1 = [] ∧ (linkL s).2.1 = [] := by
  unfold linkL at h ⊢
  split
  · simp
  · rename_i k b h0
    rw [h0] at h
    simp only at h
    split
    · simp
    · rename_i x y h1
      rw [h1] at h
      simp only at h
      split
      · rename_i h2
        rw [if_pos h2] at h
        split
        · rename_i h3
          rw [if_pos h3] at h
          exact absurd rfl h
        · simp
      · simp

/-- A link taken apart, its path checked. -/
def readK (s : List UInt8) : List UInt8 × List UInt8 × Nat :=
  if (linkL s).2.2 ≠ 0 then ([], [], (linkL s).2.2) else if checkCode (linkL s).2.1 ≠ 0 then ([], [], checkCode (linkL s).2.1) else ((linkL s).1, (linkL s).2.1, 0)

/-- The number of the error that checking a link tells. -/
def checkK (s : List UInt8) : Nat := (readK s).2.2

/-- Without a slash at its end. -/
def dropSlash (p : List UInt8) : List UInt8 := Lib.trimSuffix p [47]

/-- The number of the error that the beginning of a link tells. -/
def beginK (s : List UInt8) : Nat :=
  if (linkL s).2.2 ≠ 0 then (linkL s).2.2 else if dropSlash (linkL s).2.1 = [] then 0 else checkCode (dropSlash (linkL s).2.1)

/-- One beginning in the place of another. -/
def swapK (from_ to s : List UInt8) : List UInt8 × Nat :=
  if beginK from_ ≠ 0 then ([], beginK from_) else if beginK to ≠ 0 then ([], beginK to) else if checkK s ≠ 0 then ([], checkK s)
  else if Lib.hasPrefix s from_ = false then ([], 6)
  else if checkK (to ++ s.drop from_.length) ≠ 0 then ([], checkK (to ++ s.drop from_.length)) else (to ++ s.drop from_.length, 0)

theorem checkCode_small (s : List UInt8) : checkCode s ≤ 8 := by
  unfold checkCode
  split
  · split <;> omega
  · omega
theorem checkK_eq (s : List UInt8) : checkK s = if (linkL s).2.2 ≠ 0 then (linkL s).2.2 else checkCode (linkL s).2.1 := by
  unfold checkK readK
  split
  · rfl
  · split
    · rfl
    · rename_i h
      have : checkCode (linkL s).2.1 = 0 := by omega
      rw [this]
theorem checkK_small (s : List UInt8) : checkK s ≤ 8 := by
  have h1 := (link_short s).2.2
  have h2 := checkCode_small (linkL s).2.1
  rw [checkK_eq]
  split <;> omega
theorem beginK_small (s : List UInt8) : beginK s ≤ 8 := by
  have h1 := (link_short s).2.2
  have h2 := checkCode_small (dropSlash (linkL s).2.1)
  unfold beginK
  split
  · omega
  · split <;> omega
theorem swapK_small (a b s : List UInt8) : (swapK a b s).2 ≤ 8 := by
  have h1 := beginK_small a
  have h2 := beginK_small b
  have h3 := checkK_small s
  have h4 := checkK_small (b ++ s.drop a.length)
  unfold swapK
  split
  · exact h1
  · split
    · exact h2
    · split
      · exact h3
      · split
        · decide
        · split
          · exact h4
          · exact Nat.zero_le _
theorem readK_short (s : List UInt8) : (readK s).1.length ≤ s.length ∧ (readK s).2.1.length ≤ s.length := by
  obtain ⟨h1, h2, _⟩ := link_short s
  unfold readK
  split
  · simp
  · split
    · simp
    · exact ⟨h1, h2⟩

/-- The last byte of a path is no slash. -/
theorem path_end {p : List UInt8} (h : checkCode p = 0) : Lib.hasSuffix p [47] = false := by
  cases hs : Lib.hasSuffix p [47] with
  | false => rfl
  | true =>
    obtain ⟨t, rfl⟩ := List.isSuffixOf_iff_suffix.1 hs
    have h1 := (checkCode_zero.1 h).1
    rw [show t ++ [47] = t ++ 47 :: [] from rfl, pieces_app] at h1
    have := h1 [] (by simp [pieces])
    simp [isPart] at this
theorem dropSlash_path {p : List UInt8} (h : checkCode p = 0) : dropSlash p = p := by
  unfold dropSlash Lib.trimSuffix
  rw [path_end h, if_neg (by decide)]
/-- A link begins itself. -/
theorem begin_of_check {s : List UInt8} (h : checkK s = 0) : beginK s = 0 := by
  rw [checkK_eq] at h
  unfold beginK
  by_cases h0 : (linkL s).2.2 ≠ 0
  · rw [if_pos h0] at h
    exact absurd h h0
  · rw [if_neg h0] at h ⊢
    rw [dropSlash_path h, h]
    split <;> rfl
theorem prefix_self (s : List UInt8) : Lib.hasPrefix s s = true := by
  unfold Lib.hasPrefix
  exact List.isPrefixOf_iff_prefix.2 (List.prefix_refl _)
theorem swap_self {s : List UInt8} (h : checkK s = 0) : swapK s s s = (s, 0) := by
  have h1 := begin_of_check h
  simp [swapK, h1, h, prefix_self]
theorem swap_bad {a b s : List UInt8} (h : (swapK a b s).2 ≠ 0) : (swapK a b s).1 = [] := by
  unfold swapK at h ⊢
  split
  · rfl
  · rename_i h1
    rw [if_neg h1] at h
    split
    · rfl
    · rename_i h2
      rw [if_neg h2] at h
      split
      · rfl
      · rename_i h3
        rw [if_neg h3] at h
        split
        · rfl
        · rename_i h4
          rw [if_neg h4] at h
          split
          · rfl
          · rename_i h5
            rw [if_neg h5] at h
            exact absurd rfl h
theorem swap_ok {a b s : List UInt8} (h : (swapK a b s).2 = 0) : beginK a = 0 ∧ beginK b = 0 ∧ checkK s = 0 ∧ Lib.hasPrefix s a = true ∧ checkK (b ++ s.drop a.length) = 0 ∧ (swapK a b s).1 = b ++ s.drop a.length := by
  unfold swapK at h ⊢
  by_cases h1 : beginK a ≠ 0
  · rw [if_pos h1] at h; exact absurd h h1
  rw [if_neg h1] at h ⊢
  by_cases h2 : beginK b ≠ 0
  · rw [if_pos h2] at h; exact absurd h h2
  rw [if_neg h2] at h ⊢
  by_cases h3 : checkK s ≠ 0
  · rw [if_pos h3] at h; exact absurd h h3
  rw [if_neg h3] at h ⊢
  by_cases h4 : Lib.hasPrefix s a = false
  · rw [if_pos h4] at h; exact absurd h (by decide)
  rw [if_neg h4] at h ⊢
  by_cases h5 : checkK (b ++ s.drop a.length) ≠ 0
  · rw [if_pos h5] at h; exact absurd h h5
  rw [if_neg h5]
  exact ⟨by omega, by omega, by omega, by simpa using h4, by omega, rfl⟩
theorem swap_is {a b s : List UInt8} (h1 : beginK a = 0) (h2 : beginK b = 0) (h3 : checkK s = 0) (h4 : Lib.hasPrefix s a = true) (h5 : checkK (b ++ s.drop a.length) = 0) : swapK a b s = (b ++ s.drop a.length, 0) := by
  simp [swapK, h1, h2, h3, h4, h5]
/-- What is swapped, and swapped back, is what it was. -/
theorem swap_back {a b s : List UInt8} (h : (swapK a b s).2 = 0) : swapK b a (swapK a b s).1 = (s, 0) ∧ checkK (swapK a b s).1 = 0 ∧ Lib.hasPrefix (swapK a b s).1 b = true := by
  obtain ⟨h1, h2, h3, h4, h5, h6⟩ := swap_ok h
  rw [h6]
  obtain ⟨t, rfl⟩ := List.isPrefixOf_iff_prefix.1 h4
  have e : (a ++ t).drop a.length = t := by simp
  rw [e] at h5 ⊢
  have e2 : (b ++ t).drop b.length = t := by simp
  have hp := hasPrefix_app b t
  refine ⟨?_, h5, hp⟩
  rw [swap_is h2 h1 h5 hp (by rw [e2]; exact h3), e2]

/-- The last part of a path. -/
def lastL (p : List UInt8) : List UInt8 := (pieces p).getLast (pieces_ne p)

theorem lastL_no {p : List UInt8} (h : 47 ∉ p) : lastL p = p := by
  unfold lastL
  simp only [pieces_part h]
  rfl
theorem lastL_app (a b : List UInt8) (h : 47 ∉ b) : lastL (a ++ 47 :: b) = b := by
  have e : pieces (a ++ 47 :: b) = pieces a ++ [b] := by rw [pieces_app, pieces_part h]
  unfold lastL
  simp only [e]
  simp
end Go.Proofs.YtmeipangcgdinaaGreatDoor
/-
  Rules of mirrors as lists: checked, the closest of them, the ways to a link: plain functions and what holds of them. No Go text is spoken of here.
-/
namespace Go.Proofs.YtmeipangcgdinaaGreatDoor

/-- A rule: what it is from, and where it leads. -/
abbrev Q := List UInt8 × List (List UInt8)

/-- The first error among beginnings of links. -/
def firstK : List (List UInt8) → Nat
  | [] => 0
  | s :: l => if beginK s ≠ 0 then beginK s else firstK l
/-- The number of the error that a rule tells. -/
def ruleK (q : Q) : Nat := if beginK q.1 ≠ 0 then beginK q.1 else if 8 < q.2.length then 8 else firstK q.2
def faultL : Nat → List Q → Nat × Int
  | _, [] => (0, -1)
  | i, q :: l => if ruleK q ≠ 0 then (ruleK q, (i : Int)) else faultL (i + 1) l
/-- What checking rules tells: the number of an error, and its place. -/
def rulesF (l : List Q) : Nat × Int := if 10 < l.length then (8, -1) else faultL 0 l

theorem firstK_at : ∀ {l : List (List UInt8)} {k : Nat} (hk : k < l.length), (∀ j (h : j < l.length), j < k → beginK l[j] = 0) → beginK l[k] ≠ 0 → firstK l = beginK l[k]
  | s :: l, 0, _, _, h => by have h' : beginK s ≠ 0 := h; unfold firstK; rw [if_pos h']; rfl
  | s :: l, k + 1, hk, hz, h => by
    have h0 : beginK s = 0 := hz 0 (by simp) (by omega)
    unfold firstK
    rw [if_neg (by rw [h0]; simp)]
    exact firstK_at (l := l) (k := k) (by simpa using hk) (fun j hj hjk => hz (j + 1) (by simpa using hj) (by omega)) h
theorem firstK_zero : ∀ {l : List (List UInt8)}, firstK l = 0 ↔ ∀ s ∈ l, beginK s = 0
  | [] => by simp [firstK]
  | s :: l => by
    unfold firstK
    by_cases h : beginK s = 0
    · rw [if_neg (by rw [h]; simp), firstK_zero]; simp [h]
    · rw [if_pos h]; simp [h]
theorem firstK_end {l : List (List UInt8)} (h : ∀ j (h : j < l.length), beginK l[j] = 0) : firstK l = 0 :=
  firstK_zero.2 fun s hs => by obtain ⟨j, hj, rfl⟩ := List.getElem_of_mem hs; exact h j hj
theorem firstK_small : ∀ l : List (List UInt8), firstK l ≤ 8
  | [] => by simp [firstK]
  | s :: l => by
    have h1 := beginK_small s
    have h2 := firstK_small l
    unfold firstK
    split <;> omega
theorem ruleK_small (q : Q) : ruleK q ≤ 8 := by
  have h1 := beginK_small q.1
  have h2 := firstK_small q.2
  unfold ruleK
  split
  · omega
  · split <;> omega
theorem ruleK_from {q : Q} (h : beginK q.1 ≠ 0) : ruleK q = beginK q.1 := by unfold ruleK; rw [if_pos h]
theorem ruleK_full {q : Q} (h : beginK q.1 = 0) (h1 : 8 < q.2.length) : ruleK q = 8 := by unfold ruleK; rw [if_neg (by rw [h]; simp), if_pos h1]
theorem ruleK_to {q : Q} (h : beginK q.1 = 0) (h1 : ¬ 8 < q.2.length) : ruleK q = firstK q.2 := by unfold ruleK; rw [if_neg (by rw [h]; simp), if_neg h1]
theorem ruleK_zero {q : Q} (h : ruleK q = 0) : beginK q.1 = 0 ∧ q.2.length ≤ 8 ∧ ∀ s ∈ q.2, beginK s = 0 := by
  unfold ruleK at h
  by_cases h0 : beginK q.1 ≠ 0
  · rw [if_pos h0] at h; exact absurd h h0
  · rw [if_neg h0] at h
    by_cases h1 : 8 < q.2.length
    · rw [if_pos h1] at h; exact absurd h (by decide)
    · rw [if_neg h1] at h
      exact ⟨by omega, by omega, firstK_zero.1 h⟩

theorem faultL_at : ∀ {l : List Q} {i k : Nat} (hk : k < l.length), (∀ j (h : j < l.length), j < k → ruleK l[j] = 0) → ruleK l[k] ≠ 0 → faultL i l = (ruleK l[k], ((i + k : Nat) : Int))
  | q :: l, i, 0, _, _, h => by have h' : ruleK q ≠ 0 := h; unfold faultL; rw [if_pos h']; rfl
  | q :: l, i, k + 1, hk, hz, h => by
    have h0 : ruleK q = 0 := hz 0 (by simp) (by omega)
    unfold faultL
    rw [if_neg (by rw [h0]; simp), faultL_at (l := l) (i := i + 1) (k := k) (by simpa using hk) (fun j hj hjk => hz (j + 1) (by simpa using hj) (by omega)) h]
    rw [show i + 1 + k = i + (k + 1) by omega]
    rfl
theorem faultL_zero : ∀ {l : List Q} {i : Nat}, (faultL i l).1 = 0 ↔ ∀ q ∈ l, ruleK q = 0
  | [], i => by simp [faultL]
  | q :: l, i => by
    unfold faultL
    by_cases h : ruleK q = 0
    · rw [if_neg (by rw [h]; simp), faultL_zero]; simp [h]
    · rw [if_pos h]; simp [h]
theorem faultL_fine : ∀ {l : List Q} {i : Nat}, (∀ q ∈ l, ruleK q = 0) → faultL i l = (0, -1)
  | [], i, _ => rfl
  | q :: l, i, h => by
    unfold faultL
    rw [if_neg (by rw [h q (by simp)]; simp)]
    exact faultL_fine fun r hr => h r (by simp [hr])
theorem faultL_small : ∀ (l : List Q) (i : Nat), (faultL i l).1 ≤ 8
  | [], i => by simp [faultL]
  | q :: l, i => by
    have h1 := ruleK_small q
    have h2 := faultL_small l (i + 1)
    unfold faultL
    split <;> simp <;> omega
theorem rulesF_long {l : List Q} (h : 10 < l.length) : rulesF l = (8, -1) := by unfold rulesF; rw [if_pos h]
theorem rulesF_at {l : List Q} {k : Nat} (hn : ¬ 10 < l.length) (hk : k < l.length) (hz : ∀ j (h : j < l.length), j < k → ruleK l[j] = 0) (h : ruleK l[k] ≠ 0) : rulesF l = (ruleK l[k], (k : Int)) := by
  unfold rulesF
  rw [if_neg hn, faultL_at (i := 0) hk hz h, Nat.zero_add]
theorem rulesF_end {l : List Q} (hn : ¬ 10 < l.length) (hz : ∀ j (h : j < l.length), ruleK l[j] = 0) : rulesF l = (0, -1) := by
  unfold rulesF
  rw [if_neg hn]
  exact faultL_fine fun q hq => by obtain ⟨j, hj, rfl⟩ := List.getElem_of_mem hq; exact hz j hj
theorem rulesF_zero {l : List Q} : (rulesF l).1 = 0 ↔ l.length ≤ 10 ∧ ∀ q ∈ l, ruleK q = 0 := by
  unfold rulesF
  by_cases h : 10 < l.length
  · rw [if_pos h]; simp; omega
  · rw [if_neg h, faultL_zero]
    exact ⟨fun h1 => ⟨by omega, h1⟩, fun h1 => h1.2⟩
theorem rulesF_fine {l : List Q} (h : (rulesF l).1 = 0) : rulesF l = (0, -1) := by
  obtain ⟨h1, h2⟩ := rulesF_zero.1 h
  unfold rulesF
  rw [if_neg (by omega)]
  exact faultL_fine h2
theorem rulesF_small (l : List Q) : (rulesF l).1 ≤ 8 := by
  unfold rulesF
  split
  · simp
  · exact faultL_small l 0

/-- Does this rule come before the one that is held? -/
def nearer {α : Type} (f : α → List UInt8) (s : List UInt8) (b r : α) : Bool := Lib.hasPrefix s (f r) && decide ((f b).length < (f r).length)
/-- The closest of rules. -/
def closestG {α : Type} (f : α → List UInt8) (s : List UInt8) (b : α) (l : List α) : α := l.foldl (fun b r => if nearer f s b r then r else b) b
theorem closestG_map {α β : Type} (f : α → List UInt8) (g : β → List UInt8) (m : α → β) (hm : ∀ a, g (m a) = f a) (s : List UInt8) : ∀ (l : List α) (b : α), m (closestG f s b l) = closestG g s (m b) (l.map m)
  | [], b => rfl
  | r :: l, b => by
    show m (closestG f s (if nearer f s b r then r else b) l) = closestG g s (if nearer g s (m b) (m r) then m r else m b) (l.map m)
    rw [closestG_map f g m hm s l]
    have e : nearer g s (m b) (m r) = nearer f s b r := by unfold nearer; rw [hm, hm]
    rw [e]
    cases nearer f s b r <;> rfl
theorem closestG_snoc {α : Type} (f : α → List UInt8) (s : List UInt8) (b : α) (l : List α) (r : α) : closestG f s b (l ++ [r]) = if nearer f s (closestG f s b l) r then r else closestG f s b l := by
  unfold closestG; rw [List.foldl_append]; rfl
theorem closestG_app {α : Type} (f : α → List UInt8) (s : List UInt8) (b : α) (l m : List α) : closestG f s b (l ++ m) = closestG f s (closestG f s b l) m := by
  unfold closestG; rw [List.foldl_append]
theorem closestG_mem {α : Type} (f : α → List UInt8) (s : List UInt8) : ∀ (l : List α) (b : α), closestG f s b l = b ∨ closestG f s b l ∈ l
  | [], b => .inl rfl
  | r :: l, b => by
    show closestG f s (if nearer f s b r then r else b) l = b ∨ _ ∈ r :: l
    cases h : nearer f s b r with
    | true =>
      rcases closestG_mem f s l r with h1 | h1
      · exact .inr (by show closestG f s (if nearer f s b r then r else b) l ∈ _; rw [h, if_pos rfl, h1]; simp)
      · exact .inr (by show closestG f s (if nearer f s b r then r else b) l ∈ _; rw [h, if_pos rfl]; simp [h1])
    | false =>
      rcases closestG_mem f s l b with h1 | h1
      · exact .inl (by rw [if_neg (by decide)]; exact h1)
      · exact .inr (by show closestG f s (if nearer f s b r then r else b) l ∈ _; rw [h, if_neg (by decide)]; simp [h1])
/-- What is closest is as long as any that it begins with. -/
theorem closestG_most {α : Type} (f : α → List UInt8) (s : List UInt8) : ∀ (l : List α) (b : α), (f b).length ≤ (f (closestG f s b l)).length ∧ ∀ r ∈ l, Lib.hasPrefix s (f r) = true → (f r).length ≤ (f (closestG f s b l)).length
  | [], b => ⟨Nat.le_refl _, fun r hr => by simp at hr⟩
  | x :: l, b => by
    show _ ≤ (f (closestG f s (if nearer f s b x then x else b) l)).length ∧ ∀ r ∈ x :: l, _ → _ ≤ (f (closestG f s (if nearer f s b x then x else b) l)).length
    obtain ⟨h1, h2⟩ := closestG_most f s l (if nearer f s b x then x else b)
    have h3 : (f b).length ≤ (f (if nearer f s b x then x else b)).length ∧ (Lib.hasPrefix s (f x) = true → (f x).length ≤ (f (if nearer f s b x then x else b)).length) := by
      unfold nearer
      cases Lib.hasPrefix s (f x) with
      | false => simp
      | true =>
        by_cases h : (f b).length < (f x).length
        · simp [h]; omega
        · simp [h]; omega
    refine ⟨Nat.le_trans h3.1 h1, fun r hr hp => ?_⟩
    rcases List.mem_cons.1 hr with rfl | hr
    · exact Nat.le_trans (h3.2 hp) h1
    · exact h2 r hr hp
/-- Where a longer one comes, it is all the same what was held. -/
theorem closestG_far {α : Type} (f : α → List UInt8) (s : List UInt8) {x : α} (hp : Lib.hasPrefix s (f x) = true) : ∀ (l : List α) (b c : α), x ∈ l → (f b).length < (f x).length → (f c).length < (f x).length → closestG f s b l = closestG f s c l
  | [], b, c, h, _, _ => by simp at h
  | y :: l, b, c, h, hb, hc => by
    show closestG f s (if nearer f s b y then y else b) l = closestG f s (if nearer f s c y then y else c) l
    rcases List.mem_cons.1 h with rfl | h
    · have e1 : nearer f s b x = true := by unfold nearer; rw [hp]; simpa using hb
      have e2 : nearer f s c x = true := by unfold nearer; rw [hp]; simpa using hc
      rw [e1, e2]; rfl
    · cases h1 : nearer f s b y with
      | false =>
        cases h2 : nearer f s c y with
        | false => exact closestG_far f s hp l b c h hb hc
        | true =>
          simp only [nearer, Bool.and_eq_true, Bool.and_eq_false_iff, decide_eq_true_eq, decide_eq_false_iff_not] at h1 h2
          have : ¬ (f b).length < (f y).length := by rcases h1 with h1 | h1; · rw [h2.1] at h1; cases h1
                                                     · exact h1
          exact closestG_far f s hp l b y h hb (by omega)
      | true =>
        cases h2 : nearer f s c y with
        | true => rfl
        | false =>
          simp only [nearer, Bool.and_eq_true, Bool.and_eq_false_iff, decide_eq_true_eq, decide_eq_false_iff_not] at h1 h2
          have : ¬ (f c).length < (f y).length := by rcases h2 with h2 | h2; · rw [h1.1] at h2; cases h2
                                                     · exact h2
          exact closestG_far f s hp l y c h (by omega) hc
/-- A rule that is not the closest changes nothing. -/
theorem closestG_less {α : Type} (f : α → List UInt8) (s : List UInt8) (b : α) (l m : List α) (r : α)
    (h : Lib.hasPrefix s (f r) = false ∨ ∃ x, (x ∈ l ∨ x ∈ m) ∧ Lib.hasPrefix s (f x) = true ∧ (f r).length < (f x).length) :
    closestG f s b (l ++ m) = closestG f s b (l ++ r :: m) := by
  rw [closestG_app, closestG_app]
  show _ = closestG f s (if nearer f s (closestG f s b l) r then r else closestG f s b l) m
  cases hn : nearer f s (closestG f s b l) r with
  | false => rfl
  | true =>
    simp only [nearer, Bool.and_eq_true, decide_eq_true_eq] at hn
    rcases h with h | ⟨x, hx, hp, hlen⟩
    · rw [hn.1] at h; cases h
    · rcases hx with hx | hx
      · have := (closestG_most f s l b).2 x hx hp
        omega
      · exact closestG_far f s hp m _ _ hx (by omega) hlen

/-- Put at the end, if it is not there. -/
def addL (l : List (List UInt8)) (s : List UInt8) : List (List UInt8) := if s ∈ l then l else l ++ [s]
theorem addL_in {l : List (List UInt8)} {s : List UInt8} (h : s ∈ l) : addL l s = l := by unfold addL; rw [if_pos h]
theorem addL_out {l : List (List UInt8)} {s : List UInt8} (h : s ∉ l) : addL l s = l ++ [s] := by unfold addL; rw [if_neg h]
theorem mem_addL {l : List (List UInt8)} {s x : List UInt8} : x ∈ addL l s ↔ x ∈ l ∨ x = s := by
  unfold addL
  split
  · rename_i h
    exact ⟨.inl, fun h1 => h1.elim id fun e => e ▸ h⟩
  · simp
theorem addL_nodup {l : List (List UInt8)} {s : List UInt8} (h : l.Nodup) : (addL l s).Nodup := by
  unfold addL
  split
  · exact h
  · rename_i hs
    rw [List.nodup_append]
    exact ⟨h, by simp, fun a ha b hb e => hs (by rw [List.mem_singleton] at hb; rw [← hb, ← e]; exact ha)⟩
theorem addL_length (l : List (List UInt8)) (s : List UInt8) : (addL l s).length ≤ l.length + 1 := by
  unfold addL
  split
  · omega
  · simp
/-- One more way, if it is a link. -/
def wayStep (a s : List UInt8) (acc : List (List UInt8)) (to : List UInt8) : List (List UInt8) := if (swapK a to s).2 = 0 then addL acc (swapK a to s).1 else acc
def waysTo (a s : List UInt8) (l : List (List UInt8)) : List (List UInt8) := l.foldl (wayStep a s) []
/-- The ways by one rule, and the link itself. -/
def waysL (q : Q) (s : List UInt8) : List (List UInt8) := addL (waysTo q.1 s q.2) s
def noQ : Q := ([], [])
def closestQ (s : List UInt8) (l : List Q) : Q := closestG Prod.fst s noQ l
/-- The ways to a link: and what is told of them. -/
def waysQ (l : List Q) (s : List UInt8) : List (List UInt8) × (Nat × Int) :=
  if (rulesF l).1 ≠ 0 then ([], rulesF l) else if checkK s ≠ 0 then ([], (checkK s, -1)) else (waysL (closestQ s l) s, (0, -1))

theorem waysTo_snoc (a s : List UInt8) (l : List (List UInt8)) (t : List UInt8) : waysTo a s (l ++ [t]) = wayStep a s (waysTo a s l) t := by
  unfold waysTo; rw [List.foldl_append]; rfl
theorem waysTo_take {a s : List UInt8} {l : List (List UInt8)} {k : Nat} (hk : k < l.length) : waysTo a s (l.take (k + 1)) = wayStep a s (waysTo a s (l.take k)) l[k] := by
  rw [List.take_succ_eq_append_getElem hk, waysTo_snoc]
theorem wayStep_ok {a s t x : List UInt8} {acc : List (List UInt8)} (h : swapK a t s = (x, 0)) : wayStep a s acc t = addL acc x := by unfold wayStep; rw [h]; rfl
theorem wayStep_bad {a s t x : List UInt8} {acc : List (List UInt8)} {k : Nat} (h : swapK a t s = (x, k + 1)) : wayStep a s acc t = acc := by unfold wayStep; rw [h]; simp
theorem waysQ_bad {l : List Q} {s : List UInt8} (h : (rulesF l).1 ≠ 0) : waysQ l s = ([], rulesF l) := by unfold waysQ; rw [if_pos h]
theorem waysQ_link {l : List Q} {s : List UInt8} (h : (rulesF l).1 = 0) (h1 : checkK s ≠ 0) : waysQ l s = ([], (checkK s, -1)) := by unfold waysQ; rw [if_neg (by rw [h]; simp), if_pos h1]
theorem waysQ_ok {l : List Q} {s : List UInt8} (h : (rulesF l).1 = 0) (h1 : checkK s = 0) : waysQ l s = (waysL (closestQ s l) s, (0, -1)) := by unfold waysQ; rw [if_neg (by rw [h]; simp), if_neg (by rw [h1]; simp)]

theorem foldl_keeps {α β : Type} (P : α → Prop) (g : α → β → α) : ∀ (l : List β) (a : α), P a → (∀ a, ∀ b ∈ l, P a → P (g a b)) → P (l.foldl g a)
  | [], a, h, _ => h
  | b :: l, a, h, hs => foldl_keeps P g l (g a b) (hs a b (by simp) h) fun a c hc => hs a c (by simp [hc])
/-- What holds of the ways by one rule. -/
theorem waysTo_good (a s : List UInt8) (l : List (List UInt8)) : (waysTo a s l).Nodup ∧ ∀ x ∈ waysTo a s l, checkK x = 0 ∧ ∃ t ∈ l, (swapK a t s).2 = 0 ∧ x = (swapK a t s).1 := by
  unfold waysTo
  refine foldl_keeps (fun acc => acc.Nodup ∧ ∀ x ∈ acc, checkK x = 0 ∧ ∃ t ∈ l, (swapK a t s).2 = 0 ∧ x = (swapK a t s).1) _ l [] ⟨by simp, fun x hx => by simp at hx⟩ fun acc t ht h => ?_
  unfold wayStep
  split
  · rename_i h0
    refine ⟨addL_nodup h.1, fun x hx => ?_⟩
    rcases mem_addL.1 hx with hx | rfl
    · exact h.2 x hx
    · exact ⟨(swap_back h0).2.1, t, ht, h0, rfl⟩
  · exact h
theorem waysL_good (q : Q) {s : List UInt8} (h : checkK s = 0) : (waysL q s).Nodup ∧ (∀ x ∈ waysL q s, checkK x = 0) ∧ s ∈ waysL q s := by
  obtain ⟨h1, h2⟩ := waysTo_good q.1 s q.2
  refine ⟨addL_nodup h1, fun x hx => ?_, mem_addL.2 (.inr rfl)⟩
  rcases mem_addL.1 hx with hx | rfl
  · exact (h2 x hx).1
  · exact h
theorem swapK_le (a b s : List UInt8) : (swapK a b s).1.length ≤ b.length + s.length := by
  unfold swapK
  repeat' split
  all_goals simp
theorem waysL_short (q : Q) (s : List UInt8) {m : Nat} (h : ∀ t ∈ q.2, t.length ≤ m) : ∀ x ∈ waysL q s, x.length ≤ m + s.length := by
  intro x hx
  rcases mem_addL.1 hx with hx | rfl
  · obtain ⟨_, t, ht, _, rfl⟩ := (waysTo_good q.1 s q.2).2 x hx
    have := swapK_le q.1 t s
    have := h t ht
    omega
  · omega
theorem wayStep_length (a s : List UInt8) (acc : List (List UInt8)) (t : List UInt8) : (wayStep a s acc t).length ≤ acc.length + 1 := by
  unfold wayStep
  split
  · exact addL_length _ _
  · omega
theorem waysTo_length (a s : List UInt8) (l : List (List UInt8)) : (waysTo a s l).length ≤ l.length := by
  have : ∀ (l : List (List UInt8)) (acc : List (List UInt8)), (l.foldl (wayStep a s) acc).length ≤ acc.length + l.length := by
    intro l
    induction l with
    | nil => intro acc; simp
    | cons t l ih =>
      intro acc
      have h1 := wayStep_length a s acc t
      have h2 := ih (wayStep a s acc t)
      simp only [List.foldl_cons, List.length_cons]
      omega
  simpa [waysTo] using this l []
theorem waysL_length (q : Q) (s : List UInt8) : (waysL q s).length ≤ q.2.length + 1 := by
  have h1 := waysTo_length q.1 s q.2
  have h2 := addL_length (waysTo q.1 s q.2) s
  unfold waysL
  omega
theorem nodup_take {l : List (List UInt8)} (h : l.Nodup) {i : Nat} (hi : i < l.length) : l[i] ∉ l.take i := by
  have e : l = l.take i ++ l[i] :: l.drop (i + 1) := by rw [← List.drop_eq_getElem_cons hi, List.take_append_drop]
  rw [e, List.nodup_append] at h
  intro hm
  exact h.2.2 _ hm l[i] List.mem_cons_self rfl
/-- Without a rule that is not the longest. -/
theorem waysQ_less {l : List Q} {s : List UInt8} {k : Nat} (hk : k < l.length) (h0 : (rulesF l).1 = 0) (h1 : checkK s = 0)
    (h : Lib.hasPrefix s l[k].1 = false ∨ ∃ i, ∃ hi : i < l.length, Lib.hasPrefix s l[i].1 = true ∧ l[k].1.length < l[i].1.length) :
    waysQ (l.take k ++ l.drop (k + 1)) s = waysQ l s := by
  obtain ⟨hn, hr⟩ := rulesF_zero.1 h0
  have e : l = l.take k ++ l[k] :: l.drop (k + 1) := by rw [← List.drop_eq_getElem_cons hk, List.take_append_drop]
  have h0' : (rulesF (l.take k ++ l.drop (k + 1))).1 = 0 := by
    refine rulesF_zero.2 ⟨by simp; omega, fun q hq => hr q ?_⟩
    rcases List.mem_append.1 hq with hq | hq
    · exact List.mem_of_mem_take hq
    · exact List.mem_of_mem_drop hq
  rw [waysQ_ok h0 h1, waysQ_ok h0' h1]
  have hc : closestQ s (l.take k ++ l.drop (k + 1)) = closestQ s l := by
    unfold closestQ
    conv => rhs; rw [e]
    refine closestG_less Prod.fst s noQ _ _ _ ?_
    rcases h with h | ⟨i, hi, hp, hlen⟩
    · exact .inl h
    · refine .inr ⟨l[i], ?_, hp, hlen⟩
      have hm : l[i] ∈ l.take k ++ l[k] :: l.drop (k + 1) := by rw [← e]; exact List.getElem_mem hi
      rcases List.mem_append.1 hm with hm | hm
      · exact .inl hm
      · rcases List.mem_cons.1 hm with hm | hm
        · rw [hm] at hlen; omega
        · exact .inr hm
  rw [hc]
end Go.Proofs.YtmeipangcgdinaaGreatDoor
/-
  A net, plainly: texts at links, hosts that are off: no machine.
-/
namespace Go.Proofs.YtmeipangcgdinaaGreatDoor

/-- A text at a link, and how much of it comes (below 0: all). -/
structure Si where
  u : List UInt8
  t : List UInt8
  c : Int
/-- A net: what is put, which hosts are off, how often it was asked. -/
structure Ns where
  l : List Si
  off : List (List UInt8)
  calls : Nat
def Ns.none : Ns := ⟨[], [], 0⟩

/-- The place of a link. -/
def spotN (l : List Si) (u : List UInt8) : Option Nat := l.findIdx? fun x => x.u == u
/-- The same as a number (-1: none). -/
def atN (l : List Si) (u : List UInt8) : Int := match spotN l u with | some k => (k : Int) | .none => -1

theorem spot_some {l : List Si} {u : List UInt8} {k : Nat} (h : spotN l u = some k) : ∃ hk : k < l.length, l[k].u = u := by
  unfold spotN at h
  obtain ⟨hk, hx, _⟩ := List.findIdx?_eq_some_iff_getElem.1 h
  exact ⟨hk, by simpa using hx⟩
theorem spot_first {l : List Si} {u : List UInt8} {k : Nat} (hk : k < l.length) (hu : l[k].u = u) (h0 : ∀ j (h : j < l.length), j < k → l[j].u ≠ u) : spotN l u = some k := by
  unfold spotN
  refine List.findIdx?_eq_some_iff_getElem.2 ⟨hk, by simpa using hu, fun j hj => ?_⟩
  simpa using h0 j (by omega) hj
theorem spot_none {l : List Si} {u : List UInt8} (h : ∀ j (h : j < l.length), l[j].u ≠ u) : spotN l u = Option.none := by
  unfold spotN
  refine List.findIdx?_eq_none_iff.2 fun x hx => ?_
  obtain ⟨j, hj, rfl⟩ := List.getElem_of_mem hx
  simpa using h j hj

/-- A text is put at a link. -/
def putN (s : Ns) (u t : List UInt8) : Ns × Nat :=
  if checkK u ≠ 0 then (s, checkK u) else if 20000 < t.length then (s, 2)
  else match spotN s.l u with
    | some k => ({ s with l := s.l.set k ⟨u, t, -1⟩ }, 0)
    | .none => if 60 ≤ s.l.length then (s, 8) else ({ s with l := s.l ++ [⟨u, t, -1⟩] }, 0)
/-- A host is on, or off. -/
def hostN (s : Ns) (h : List UInt8) (on : Bool) : Ns × Nat :=
  if isPart h = false then (s, 5) else ({ s with off := s.off.filter (fun x => !(x == h)) ++ (if on = true then [] else [h]) }, 0)
/-- Only so much comes. -/
def cutN (s : Ns) (u : List UInt8) (k : Int) : Ns × Nat :=
  match spotN s.l u with
  | .none => (s, 6)
  | some i => if k < 0 then (s, 2) else ({ s with l := s.l.modify i fun x => { x with c := k } }, 0)
/-- What comes of a text. -/
def comesN (x : Si) : List UInt8 := if 0 ≤ x.c ∧ x.c < x.t.length then x.t.take x.c.toNat else x.t
/-- What is at a link. -/
def getN (s : Ns) (u : List UInt8) : Ns × List UInt8 × Nat :=
  if checkK u ≠ 0 then (s, [], checkK u) else if (linkL u).1 ∈ s.off then ({ s with calls := s.calls + 1 }, [], 13)
  else match spotN s.l u with
    | .none => ({ s with calls := s.calls + 1 }, [], 6)
    | some k => ({ s with calls := s.calls + 1 }, ((s.l[k]?).map comesN).getD [], 0)

theorem putN_bad {s : Ns} {u t : List UInt8} {k : Nat} (h : checkK u = k + 1) : putN s u t = (s, k + 1) := by unfold putN; rw [if_pos (by omega), h]
theorem putN_long {s : Ns} {u t : List UInt8} (h : checkK u = 0) (h1 : 20000 < t.length) : putN s u t = (s, 2) := by unfold putN; rw [if_neg (by omega), if_pos h1]
theorem putN_there {s : Ns} {u t : List UInt8} {k : Nat} (h : checkK u = 0) (h1 : ¬ 20000 < t.length) (h2 : spotN s.l u = some k) : putN s u t = ({ s with l := s.l.set k ⟨u, t, -1⟩ }, 0) := by unfold putN; rw [if_neg (by omega), if_neg h1, h2]
theorem putN_full {s : Ns} {u t : List UInt8} (h : checkK u = 0) (h1 : ¬ 20000 < t.length) (h2 : spotN s.l u = .none) (h3 : 60 ≤ s.l.length) : putN s u t = (s, 8) := by unfold putN; rw [if_neg (by omega), if_neg h1, h2]; exact if_pos h3
theorem putN_new {s : Ns} {u t : List UInt8} (h : checkK u = 0) (h1 : ¬ 20000 < t.length) (h2 : spotN s.l u = .none) (h3 : ¬ 60 ≤ s.l.length) : putN s u t = ({ s with l := s.l ++ [⟨u, t, -1⟩] }, 0) := by unfold putN; rw [if_neg (by omega), if_neg h1, h2]; exact if_neg h3
theorem hostN_bad {s : Ns} {h : List UInt8} {on : Bool} (e : isPart h = false) : hostN s h on = (s, 5) := by unfold hostN; rw [if_pos e]
theorem hostN_good {s : Ns} {h : List UInt8} {on : Bool} (e : isPart h = true) : hostN s h on = ({ s with off := s.off.filter (fun x => !(x == h)) ++ (if on = true then [] else [h]) }, 0) := by unfold hostN; rw [if_neg (by simp [e])]
theorem cutN_none {s : Ns} {u : List UInt8} {k : Int} (h : spotN s.l u = .none) : cutN s u k = (s, 6) := by unfold cutN; rw [h]
theorem cutN_neg {s : Ns} {u : List UInt8} {k : Int} {i : Nat} (h : spotN s.l u = some i) (hk : k < 0) : cutN s u k = (s, 2) := by unfold cutN; rw [h]; exact if_pos hk
theorem cutN_good {s : Ns} {u : List UInt8} {k : Int} {i : Nat} (h : spotN s.l u = some i) (hk : ¬ k < 0) : cutN s u k = ({ s with l := s.l.modify i fun x => { x with c := k } }, 0) := by unfold cutN; rw [h]; exact if_neg hk
theorem getN_bad {s : Ns} {u : List UInt8} {k : Nat} (h : checkK u = k + 1) : getN s u = (s, [], k + 1) := by unfold getN; rw [if_pos (by omega), h]
theorem getN_off {s : Ns} {u : List UInt8} (h : checkK u = 0) (h1 : (linkL u).1 ∈ s.off) : getN s u = ({ s with calls := s.calls + 1 }, [], 13) := by unfold getN; rw [if_neg (by omega), if_pos h1]
theorem getN_none {s : Ns} {u : List UInt8} (h : checkK u = 0) (h1 : ¬ (linkL u).1 ∈ s.off) (h2 : spotN s.l u = .none) : getN s u = ({ s with calls := s.calls + 1 }, [], 6) := by unfold getN; rw [if_neg (by omega), if_neg h1, h2]
theorem getN_good {s : Ns} {u : List UInt8} {k : Nat} (h : checkK u = 0) (h1 : ¬ (linkL u).1 ∈ s.off) (h2 : spotN s.l u = some k) (hk : k < s.l.length) : getN s u = ({ s with calls := s.calls + 1 }, comesN s.l[k], 0) := by unfold getN; rw [if_neg (by omega), if_neg h1, h2]; simp [hk]
end Go.Proofs.YtmeipangcgdinaaGreatDoor
