/-
  Own texts of the proof, joined by program: PackPure, PackFacts, WantPure.
-/
import Derived.Test.YtmeipangcgdinaaGreatDoorTreePureTreeSortTreeFactsTreeInsertTreeAt
import Derived.Test.YtmeipangcgdinaaGreatDoorDigitsReadPurePressPureSumPure
import Derived.Test.YtmeipangcgdinaaGreatDoorLinkPureMirrorPureNetPure
/-
  Packs as lists of bytes: how a file is written and read, how a text is read as files; a pack is read as it was written, what is read was written, what is cut short is none but at the end of a file. No Go text is spoken of here.
-/
namespace Go.Proofs.YtmeipangcgdinaaGreatDoor

/-- What stands between the bytes c. -/
def piecesBy (c : UInt8) : List UInt8 → List (List UInt8)
  | [] => [[]]
  | b :: r => if b = c then [] :: piecesBy c r else match piecesBy c r with | [] => [[b]] | p :: ps => (b :: p) :: ps
/-- What stands ahead of the first byte c, and behind it. -/
def cutBy (c : UInt8) : List UInt8 → Option (List UInt8 × List UInt8)
  | [] => none
  | b :: r => if b = c then some ([], r) else match cutBy c r with | none => none | some (x, y) => some (b :: x, y)

theorem cutBy_no {c : UInt8} : ∀ {l : List UInt8}, cutBy c l = none ↔ c ∉ l
  | [] => by simp [cutBy]
  | b :: r => by
    have ih := cutBy_no (c := c) (l := r)
    unfold cutBy
    by_cases h : b = c
    · simp [h]
    · rw [if_neg h]
      cases hr : cutBy c r with
      | none => simp [ih.1 hr, Ne.symm h]
      | some x =>
        have : c ∈ r := by
          rcases Classical.em (c ∈ r) with h' | h'
          · exact h'
          · rw [ih.2 h'] at hr; cases hr
        simp [this]
theorem cutBy_some {c : UInt8} : ∀ {l a b : List UInt8}, cutBy c l = some (a, b) → l = a ++ c :: b ∧ c ∉ a
  | [], a, b, h => by simp [cutBy] at h
  | x :: r, a, b, h => by
    unfold cutBy at h
    by_cases hx : x = c
    · rw [if_pos hx] at h
      simp at h
      obtain ⟨rfl, rfl⟩ := h
      simp [hx]
    · rw [if_neg hx] at h
      cases hr : cutBy c r with
      | none => rw [hr] at h; cases h
      | some y =>
        rw [hr] at h
        simp at h
        have ih := cutBy_some (l := r) (a := y.1) (b := y.2) hr
        refine ⟨by rw [← h.1, ← h.2]; simp [ih.1], ?_⟩
        rw [← h.1]
        simp [ih.2, Ne.symm hx]
theorem cutBy_of {c : UInt8} (b : List UInt8) : ∀ {a : List UInt8}, c ∉ a → cutBy c (a ++ c :: b) = some (a, b)
  | [], _ => by simp [cutBy]
  | x :: a, h => by
    simp at h
    have ih := cutBy_of b h.2
    show cutBy c (x :: (a ++ c :: b)) = _
    unfold cutBy
    rw [if_neg (Ne.symm h.1), ih]

theorem indexBy_none {c : UInt8} : ∀ {l : List UInt8}, c ∉ l → Lib.indexByte l c = -1
  | [], _ => rfl
  | b :: r, h => by
    simp at h
    have ih := indexBy_none h.2
    simp [Lib.indexByte, Ne.symm h.1, ih]
theorem indexBy_at {c : UInt8} (b : List UInt8) : ∀ {a : List UInt8}, c ∉ a → Lib.indexByte (a ++ c :: b) c = a.length
  | [], _ => by simp [Lib.indexByte]
  | x :: a, h => by
    simp at h
    have ih := indexBy_at b h.2
    show Lib.indexByte (x :: (a ++ c :: b)) c = _
    have hn : ¬ ((a.length : Int) = -1) := by omega
    simp [Lib.indexByte, Ne.symm h.1, ih]

theorem piecesBy_none {c : UInt8} : ∀ {l : List UInt8}, c ∉ l → piecesBy c l = [l]
  | [], _ => rfl
  | b :: r, h => by
    simp at h
    simp [piecesBy, Ne.symm h.1, piecesBy_none h.2]
theorem piecesBy_some {c : UInt8} (b : List UInt8) : ∀ {a : List UInt8}, c ∉ a → piecesBy c (a ++ c :: b) = a :: piecesBy c b
  | [], _ => by simp [piecesBy]
  | x :: a, h => by
    simp at h
    have ih := piecesBy_some b h.2
    show piecesBy c (x :: (a ++ c :: b)) = _
    rw [piecesBy, if_neg (Ne.symm h.1), ih]
theorem piecesBy_cut {c : UInt8} {l a b : List UInt8} (h : cutBy c l = some (a, b)) : piecesBy c l = a :: piecesBy c b := by
  obtain ⟨rfl, h'⟩ := cutBy_some h
  exact piecesBy_some b h'
theorem piecesBy_ne (c : UInt8) (l : List UInt8) : piecesBy c l ≠ [] := by
  cases h : cutBy c l with
  | none => rw [piecesBy_none (cutBy_no.1 h)]; simp
  | some x => rw [piecesBy_cut (a := x.1) (b := x.2) h]; simp
/-- One piece: nothing was cut. -/
theorem piecesBy_one {c : UInt8} {l x : List UInt8} (h : piecesBy c l = [x]) : l = x ∧ c ∉ l := by
  cases hc : cutBy c l with
  | none =>
    have hn := cutBy_no.1 hc
    rw [piecesBy_none hn] at h
    simp at h
    exact ⟨h, hn⟩
  | some y =>
    rw [piecesBy_cut (a := y.1) (b := y.2) hc] at h
    simp at h
    exact absurd h.2 (piecesBy_ne _ _)
theorem piecesBy_two {c : UInt8} {l x y : List UInt8} {r : List (List UInt8)} (h : piecesBy c l = x :: y :: r) : ∃ b, l = x ++ c :: b ∧ c ∉ x ∧ piecesBy c b = y :: r := by
  cases hc : cutBy c l with
  | none => rw [piecesBy_none (cutBy_no.1 hc)] at h; simp at h
  | some z =>
    rw [piecesBy_cut (a := z.1) (b := z.2) hc] at h
    obtain ⟨e, hn⟩ := cutBy_some (a := z.1) (b := z.2) hc
    simp at h
    exact ⟨z.2, by rw [← h.1]; exact e, by rw [← h.1]; exact hn, h.2⟩
theorem piecesBy_length (c : UInt8) : ∀ l : List UInt8, (piecesBy c l).length = l.count c + 1
  | [] => rfl
  | b :: r => by
    have ih := piecesBy_length c r
    unfold piecesBy
    by_cases h : b = c
    · simp [h, ih]
    · rw [if_neg h]
      cases hr : piecesBy c r with
      | nil => exact absurd hr (piecesBy_ne _ _)
      | cons p ps =>
        rw [hr] at ih
        simp [h] at ih ⊢
        exact ih
theorem piecesBy_le (c : UInt8) : ∀ (l : List UInt8), ∀ x ∈ piecesBy c l, x.length ≤ l.length
  | [], x, h => by simp [piecesBy] at h; simp [h]
  | b :: r, x, h => by
    have ih := piecesBy_le c r
    unfold piecesBy at h
    by_cases hb : b = c
    · rw [if_pos hb] at h
      rcases List.mem_cons.1 h with h | h
      · simp [h]
      · have := ih x h
        simp
        omega
    · rw [if_neg hb] at h
      cases hr : piecesBy c r with
      | nil => exact absurd hr (piecesBy_ne _ _)
      | cons p ps =>
        rw [hr] at h ih
        rcases List.mem_cons.1 h with h | h
        · have := ih p (by simp)
          simp [h]
          omega
        · have := ih x (by simp [h])
          simp
          omega

/-- The first line of a file, without its end. -/
def lineL (f : F) : List UInt8 := f.p ++ 32 :: (if f.r = true then 120 else 102) :: 32 :: digitsL f.t.length
/-- A file as text. -/
def fileL (f : F) : List UInt8 := lineL f ++ 10 :: (f.t ++ [10])
/-- A pack. -/
def packL (l : List F) : List UInt8 := l.flatMap fileL

theorem packL_nil : packL [] = [] := rfl
theorem packL_cons (f : F) (l : List F) : packL (f :: l) = fileL f ++ packL l := rfl
theorem packL_snoc (l : List F) (f : F) : packL (l ++ [f]) = packL l ++ fileL f := by simp [packL]
theorem fileL_ne (f : F) : fileL f ≠ [] := by simp [fileL]
theorem fileL_length (f : F) : (fileL f).length = f.p.length + (digitsL f.t.length).length + f.t.length + 5 := by
  simp [fileL, lineL]
  omega

/-- The words of a first line: a path, whether it may be run, how many bytes. -/
def headOf (line : List UInt8) : Option (List UInt8 × Bool × Nat) :=
  match piecesBy 32 line with
  | [a, m, d] => if (m = [120] ∨ m = [102]) ∧ 0 ≤ numberL d 6 then some (a, decide (m = [120]), (numberL d 6).toNat) else none
  | _ => none
/-- The first file of a text, and what stands behind it. -/
def cutFileL (s : List UInt8) : Option (F × List UInt8) :=
  match cutBy 10 s with
  | none => none
  | some (line, rest) => match headOf line with
    | none => none
    | some (a, x, n) => if rest[n]? = some 10 then some (⟨a, x, rest.take n⟩, rest.drop (n + 1)) else none

theorem headOf_some {line a : List UInt8} {x : Bool} {n : Nat} (h : headOf line = some (a, x, n)) :
    line = a ++ 32 :: (if x = true then 120 else 102) :: 32 :: digitsL n ∧ 32 ∉ a := by
  unfold headOf at h
  split at h
  · rename_i b m d hp
    split at h
    · rename_i hc
      simp only [Option.some.injEq, Prod.mk.injEq] at h
      obtain ⟨rfl, hx, rfl⟩ := h
      obtain ⟨r, rfl, h1, h2⟩ := piecesBy_two hp
      obtain ⟨q, rfl, _, h3⟩ := piecesBy_two h2
      obtain ⟨rfl, _⟩ := piecesBy_one h3
      have hd := number_inv hc.2
      refine ⟨?_, h1⟩
      rw [← hd]
      rcases hc.1 with e | e <;> subst e <;> subst hx <;> simp
    · cases h
  · cases h

theorem digit_not {n : Nat} {c : UInt8} (h : c.toNat < 48 ∨ 57 < c.toNat) : c ∉ digitsL n := by
  intro hm
  have := List.all_eq_true.1 (digits_digit n) c hm
  simp [isDigit] at this
  omega

theorem headOf_line {f : F} (hp : 32 ∉ f.p) (ht : f.t.length < 1000000) : headOf (lineL f) = some (f.p, f.r, f.t.length) := by
  have hd : 32 ∉ digitsL f.t.length := digit_not (by decide)
  have e : piecesBy 32 (lineL f) = [f.p, [if f.r = true then 120 else 102], digitsL f.t.length] := by
    unfold lineL
    rw [piecesBy_some _ hp]
    have h2 : (32 : UInt8) ∉ [if f.r = true then (120 : UInt8) else 102] := by cases f.r <;> decide
    have := piecesBy_some (digitsL f.t.length) h2
    rw [List.singleton_append] at this
    rw [this, piecesBy_none hd]
  unfold headOf
  rw [e]
  have hn : numberL (digitsL f.t.length) 6 = f.t.length := number_digits (k := 5) (by omega)
  simp only [hn]
  rw [if_pos ⟨by cases f.r <;> simp, by omega⟩]
  cases f.r <;> simp

theorem cutFile_some {s r : List UInt8} {f : F} (h : cutFileL s = some (f, r)) : s = fileL f ++ r := by
  unfold cutFileL at h
  split at h
  · cases h
  · rename_i line rest hc
    split at h
    · cases h
    · rename_i a x n hh
      split at h
      · rename_i hn
        simp only [Option.some.injEq, Prod.mk.injEq] at h
        obtain ⟨rfl, rfl⟩ := h
        obtain ⟨rfl, _⟩ := cutBy_some hc
        obtain ⟨rfl, _⟩ := headOf_some hh
        obtain ⟨hl, hv⟩ := List.getElem?_eq_some_iff.1 hn
        have e : rest = rest.take n ++ 10 :: rest.drop (n + 1) := by
          have := List.take_append_drop n rest
          rw [List.drop_eq_getElem_cons hl, hv] at this
          exact this.symm
        have el : (rest.take n).length = n := by rw [List.length_take]; omega
        unfold fileL lineL
        simp only [el]
        conv => lhs; rw [e]
        simp
      · cases h
theorem cutFile_less {s r : List UInt8} {f : F} (h : cutFileL s = some (f, r)) : r.length < s.length := by
  rw [cutFile_some h, List.length_append, fileL_length]
  omega

/-- A file that can be told in a pack. -/
def Plain (f : F) : Prop := 32 ∉ f.p ∧ 10 ∉ f.p ∧ f.t.length < 1000000

theorem line_noEnd {f : F} (h : Plain f) : 10 ∉ lineL f := by
  have hd : 10 ∉ digitsL f.t.length := digit_not (by decide)
  unfold lineL
  simp [h.2.1, hd]
  cases f.r <;> decide

theorem cutFile_file {f : F} (h : Plain f) (r : List UInt8) : cutFileL (fileL f ++ r) = some (f, r) := by
  have e : fileL f ++ r = lineL f ++ 10 :: (f.t ++ 10 :: r) := by simp [fileL]
  unfold cutFileL
  rw [e, cutBy_of _ (line_noEnd h)]
  simp only [headOf_line h.1 h.2.2]
  rw [if_pos (by rw [List.getElem?_append_right (Nat.le_refl _), Nat.sub_self]; rfl)]
  simp

/-- What is cut short of a file is none. -/
theorem cutFile_short {f : F} (h : Plain f) {k : Nat} (hk : k < (fileL f).length) : cutFileL ((fileL f).take k) = none := by
  by_cases hl : k ≤ (lineL f).length
  · have e : (fileL f).take k = (lineL f).take k := by
      unfold fileL
      rw [List.take_append_of_le_length hl]
    unfold cutFileL
    rw [e, cutBy_no.2 (fun hm => line_noEnd h (List.mem_of_mem_take hm))]
  · have e : (fileL f).take k = lineL f ++ 10 :: (f.t ++ [10]).take (k - (lineL f).length - 1) := by
      unfold fileL
      rw [List.take_append]
      obtain ⟨j, hj⟩ : ∃ j, k - (lineL f).length = j + 1 := ⟨k - (lineL f).length - 1, by omega⟩
      rw [hj, List.take_succ_cons, List.take_of_length_le (by omega)]
      simp
    unfold cutFileL
    rw [e, cutBy_of _ (line_noEnd h)]
    simp only [headOf_line h.1 h.2.2]
    rw [if_neg]
    intro hc
    obtain ⟨hl', _⟩ := List.getElem?_eq_some_iff.1 hc
    rw [List.length_take] at hl'
    have : (fileL f).length = (lineL f).length + f.t.length + 2 := by simp [fileL]; omega
    omega

/-- A text read as files, so many at most: those ahead of the first that is none, and whether there is no such one. -/
def readN : Nat → List UInt8 → List F × Bool
  | 0, _ => ([], false)
  | n + 1, s => if s = [] then ([], true) else
    match cutFileL s with
    | none => ([], false)
    | some (f, r) => (f :: (readN n r).1, (readN n r).2)
/-- A text read as files. -/
def readA (s : List UInt8) : List F × Bool := readN (s.length + 1) s

theorem readN_bad {n : Nat} {s : List UInt8} (h0 : s ≠ []) (h : cutFileL s = none) : readN (n + 1) s = ([], false) := by
  rw [readN, if_neg h0, h]
theorem readN_good {n : Nat} {s r : List UInt8} {f : F} (h0 : s ≠ []) (h : cutFileL s = some (f, r)) : readN (n + 1) s = (f :: (readN n r).1, (readN n r).2) := by
  rw [readN, if_neg h0, h]
/-- How many are let is no matter, where it is more than there are bytes. -/
theorem readN_same : ∀ (n m : Nat) (s : List UInt8), s.length < n → s.length < m → readN n s = readN m s
  | 0, _, s, h, _ => by omega
  | _, 0, s, _, h => by omega
  | n + 1, m + 1, s, h, h' => by
    by_cases h0 : s = []
    · rw [readN, readN, if_pos h0, if_pos h0]
    · cases hc : cutFileL s with
      | none => rw [readN_bad h0 hc, readN_bad h0 hc]
      | some x =>
        have hlt := cutFile_less (f := x.1) (r := x.2) hc
        rw [readN_good (f := x.1) (r := x.2) h0 hc, readN_good (f := x.1) (r := x.2) h0 hc, readN_same n m x.2 (by omega) (by omega)]

theorem readA_nil : readA [] = ([], true) := by simp [readA, readN]
theorem readA_bad {s : List UInt8} (h0 : s ≠ []) (h : cutFileL s = none) : readA s = ([], false) := readN_bad h0 h
theorem readA_good {s r : List UInt8} {f : F} (h0 : s ≠ []) (h : cutFileL s = some (f, r)) : readA s = (f :: (readA r).1, (readA r).2) := by
  have hlt := cutFile_less h
  unfold readA
  rw [readN_good h0 h, readN_same s.length (r.length + 1) r hlt (by omega)]

theorem cutFile_nil : cutFileL [] = none := rfl

/-- What is read was written. -/
theorem pack_readA : ∀ (n : Nat) (s : List UInt8), s.length ≤ n → (readA s).2 = true → packL (readA s).1 = s
  | n, [], _, _ => by rw [readA_nil]; rfl
  | 0, b :: s, h, _ => by simp at h
  | n + 1, b :: s, h, hr => by
    cases hc : cutFileL (b :: s) with
    | none => rw [readA_bad (by simp) hc] at hr; cases hr
    | some x =>
      rw [readA_good (f := x.1) (r := x.2) (by simp) hc] at hr ⊢
      have hlt := cutFile_less (f := x.1) (r := x.2) hc
      have ih := pack_readA n x.2 (by omega) hr
      show packL (x.1 :: (readA x.2).1) = _
      rw [packL_cons, ih, ← cutFile_some (f := x.1) (r := x.2) hc]
theorem readA_app {f : F} (h : Plain f) (r : List UInt8) : readA (fileL f ++ r) = (f :: (readA r).1, (readA r).2) :=
  readA_good (fun e => fileL_ne f (List.append_eq_nil_iff.1 e).1) (cutFile_file h r)
/-- A pack is read as it was written. -/
theorem readA_pack : ∀ {l : List F}, (∀ f ∈ l, Plain f) → readA (packL l) = (l, true)
  | [], _ => readA_nil
  | f :: l, h => by
    rw [packL_cons, readA_app (h f (by simp)), readA_pack fun g hg => h g (by simp [hg])]
/-- What is cut short is none, but at the end of a file. -/
theorem readA_take : ∀ {l : List F} {k : Nat}, (∀ f ∈ l, Plain f) → k < (packL l).length → (readA ((packL l).take k)).2 = true →
    (readA ((packL l).take k)).1.length < l.length ∧ (readA ((packL l).take k)).1 = l.take (readA ((packL l).take k)).1.length
  | [], k, _, h, _ => by simp [packL] at h
  | f :: l, k, h, hk, hr => by
    rw [packL_cons] at hk hr ⊢
    by_cases hf : (fileL f).length ≤ k
    · have e : (fileL f ++ packL l).take k = fileL f ++ (packL l).take (k - (fileL f).length) := by
        rw [List.take_append, List.take_of_length_le hf]
      rw [e, readA_app (h f (by simp))] at hr ⊢
      have ih := readA_take (l := l) (k := k - (fileL f).length) (fun g hg => h g (by simp [hg])) (by rw [List.length_append] at hk; omega) hr
      refine ⟨by simp; exact ih.1, ?_⟩
      show f :: _ = _
      rw [List.length_cons, List.take_succ_cons, ← ih.2]
    · have e : (fileL f ++ packL l).take k = (fileL f).take k := List.take_append_of_le_length (by omega)
      rw [e] at hr ⊢
      by_cases h0 : (fileL f).take k = []
      · rw [h0, readA_nil]
        simp
      · rw [readA_bad h0 (cutFile_short (h f (by simp)) (by omega))] at hr
        cases hr

/-- What Read answers: files, and an error's number and place. -/
def readP (s : List UInt8) : List F × Nat × Int :=
  if 20000 < s.length then ([], 2, -1)
  else if (readA s).2 = false then ([], 1, (((readA s).1.length : Nat) : Int))
  else if (treeFault (readA s).1).1 = 0 then ((readA s).1, 0, -1) else ([], treeFault (readA s).1)

theorem readP_long {s : List UInt8} (h : 20000 < s.length) : readP s = ([], 2, -1) := by unfold readP; rw [if_pos h]
theorem readP_none {s : List UInt8} (h : s.length ≤ 20000) (h1 : (readA s).2 = false) : readP s = ([], 1, (((readA s).1.length : Nat) : Int)) := by
  unfold readP
  rw [if_neg (by omega), if_pos h1]
theorem readP_fault {s : List UInt8} (h : s.length ≤ 20000) (h1 : (readA s).2 = true) (h2 : (treeFault (readA s).1).1 ≠ 0) : readP s = ([], treeFault (readA s).1) := by
  unfold readP
  rw [if_neg (by omega), if_neg (by rw [h1]; simp), if_neg h2]
theorem readP_fine {s : List UInt8} (h : s.length ≤ 20000) (h1 : (readA s).2 = true) (h2 : (treeFault (readA s).1).1 = 0) : readP s = ((readA s).1, 0, -1) := by
  unfold readP
  rw [if_neg (by omega), if_neg (by rw [h1]; simp), if_pos h2]

/-- The files that are read are no longer than the text. -/
theorem pack_mem {l : List F} {f : F} (h : f ∈ l) : f.p.length ≤ (packL l).length ∧ f.t.length ≤ (packL l).length := by
  obtain ⟨a, b, rfl⟩ := List.append_of_mem h
  have := fileL_length f
  simp [packL] at this ⊢
  omega
theorem pack_count : ∀ (l : List F), l.length ≤ (packL l).length
  | [] => by simp
  | f :: l => by
    have ih := pack_count l
    have := fileL_length f
    rw [packL_cons, List.length_append, List.length_cons]
    omega
end Go.Proofs.YtmeipangcgdinaaGreatDoor
/-
  Facts on packs of right trees: no Go text is spoken of here.
-/
namespace Go.Proofs.YtmeipangcgdinaaGreatDoor

theorem mem_pieces : ∀ {l : List UInt8} {b : UInt8}, b ∈ l → b ≠ 47 → ∃ x ∈ pieces l, b ∈ x
  | [], _, h, _ => by simp at h
  | c :: r, b, h, h47 => by
    by_cases hc : c = 47
    · have e : pieces (c :: r) = [] :: pieces r := by rw [pieces, if_pos hc]
      rw [e]
      rcases List.mem_cons.1 h with h | h
      · exact absurd (h.trans hc) h47
      · obtain ⟨x, hx, hb⟩ := mem_pieces h h47
        exact ⟨x, by simp [hx], hb⟩
    · cases hp : pieces r with
      | nil => exact absurd hp (pieces_ne r)
      | cons q qs =>
        have e : pieces (c :: r) = (c :: q) :: qs := by rw [pieces, if_neg hc, hp]
        rw [e]
        rcases List.mem_cons.1 h with h | h
        · exact ⟨c :: q, by simp, by simp [h]⟩
        · obtain ⟨x, hx, hb⟩ := mem_pieces h h47
          rw [hp] at hx
          rcases List.mem_cons.1 hx with hx | hx
          · exact ⟨c :: q, by simp, by rw [hx] at hb; simp [hb]⟩
          · exact ⟨x, by simp [hx], hb⟩
theorem path_not {s : List UInt8} {b : UInt8} (h : checkCode s = 0) (hb : b ≠ 47) (hp : partByte b = false) : b ∉ s := by
  intro hm
  obtain ⟨x, hx, hbx⟩ := mem_pieces hm hb
  have := (checkCode_zero.1 h).1 x hx
  unfold isPart at this
  simp only [Bool.and_eq_true] at this
  have := List.all_eq_true.1 this.2 b hbx
  rw [hp] at this
  cases this
theorem plain_right {f : F} (h : Right f) : Plain f := ⟨path_not h.1 (by decide) (by decide), path_not h.1 (by decide) (by decide), by have := h.2; omega⟩
theorem plain_tree {l : List F} (h : (treeFault l).1 = 0) : ∀ f ∈ l, Plain f := fun f hf => plain_right ((tree_good.1 h).1.right f hf)

theorem clean_itself {s : List UInt8} (h : checkCode s = 0) : cleanL s = (s, 0) := by
  obtain ⟨hp, hl⟩ := checkCode_zero.1 h
  refine cleanL_of (ks := pieces s) ⟨?_, cleanF_keep hp, hp, hl, (join_pieces s).symm⟩
  have := head_join hp
  rwa [join_pieces] at this

theorem pack_length {l : List F} (h : ∀ f ∈ l, Right f) : (packL l).length ≤ 88 * l.length + total l := by
  induction l with
  | nil => simp [packL]
  | cons f l ih =>
    have i := ih fun g hg => h g (by simp [hg])
    have a := path_short (h f (by simp)).1
    have b := (h f (by simp)).2
    have c := digits_length 3 f.t.length (by omega)
    have d := fileL_length f
    have t : total (f :: l) = f.t.length + total l := by simp [total]
    rw [packL_cons, List.length_append, List.length_cons, t]
    omega
theorem pack_small {l : List F} (h : (treeFault l).1 = 0) : (packL l).length ≤ 20000 := by
  obtain ⟨g, hn, ht⟩ := tree_good.1 h
  have := pack_length g.right
  omega

/-- What Read answers: files that are right, and a pack of them is the text; or an error, and none. -/
theorem readP_cases (s : List UInt8) : (∃ r, readP s = (r, 0, -1) ∧ packL r = s ∧ (treeFault r).1 = 0) ∨ ∃ c i, readP s = ([], c, i) ∧ c ≠ 0 := by
  by_cases hl : 20000 < s.length
  · exact .inr ⟨2, -1, readP_long hl, by decide⟩
  · have hl' : s.length ≤ 20000 := by omega
    cases h1 : (readA s).2 with
    | false => exact .inr ⟨1, _, readP_none hl' h1, by decide⟩
    | true =>
      by_cases h2 : (treeFault (readA s).1).1 = 0
      · exact .inl ⟨_, readP_fine hl' h1 h2, pack_readA _ s (Nat.le_refl _) h1, h2⟩
      · exact .inr ⟨_, _, readP_fault hl' h1 h2, h2⟩
theorem readP_pack {l : List F} (h : (treeFault l).1 = 0) : readP (packL l) = (l, 0, -1) := by
  have e := readA_pack (plain_tree h)
  have := readP_fine (s := packL l) (pack_small h) (by rw [e]) (by rw [e]; exact h)
  rw [this, e]
theorem readP_cut {l y : List F} {k : Nat} (h : (treeFault l).1 = 0) (hk : k < (packL l).length) (hy : readP ((packL l).take k) = (y, 0, -1)) : y.length < l.length ∧ y = l.take y.length := by
  have hs := pack_small h
  have hl : ((packL l).take k).length ≤ 20000 := by rw [List.length_take]; omega
  cases h1 : (readA ((packL l).take k)).2 with
  | false =>
    rw [readP_none hl h1] at hy
    cases hy
  | true =>
    by_cases h2 : (treeFault (readA ((packL l).take k)).1).1 = 0
    · rw [readP_fine hl h1 h2] at hy
      simp only [Prod.mk.injEq] at hy
      obtain ⟨rfl, _⟩ := hy
      exact readA_take (plain_tree h) hk h1
    · rw [readP_fault hl h1 h2] at hy
      simp only [Prod.mk.injEq] at hy
      exact absurd (by rw [hy.2]) h2
end Go.Proofs.YtmeipangcgdinaaGreatDoor
/-
  What is wanted: plain functions over lists of bytes: no machine.
-/
namespace Go.Proofs.YtmeipangcgdinaaGreatDoor

/-- What is wanted: name, link, kind, parts that go, sum. -/
structure Wt where
  n : List UInt8
  u : List UInt8
  k : List UInt8
  s : Int
  m : Int
def Wt.zero : Wt := ⟨[], [], [], 0, 0⟩
def kPlain : List UInt8 := [112, 108, 97, 105, 110]
def kPack : List UInt8 := [112, 97, 99, 107]
def kPress : List UInt8 := [112, 114, 101, 115, 115]
def kindW (k : List UInt8) : Bool := k == [112, 108, 97, 105, 110] || k == [112, 97, 99, 107] || k == [112, 114, 101, 115, 115]

/-- The number of the error that checking what is wanted tells. -/
def wantCode (x : Wt) : Nat :=
  if isPart x.n = false then 5 else if checkK x.u ≠ 0 then checkK x.u else if kindW x.k = false then 4
  else if x.s < 0 ∨ 6 < x.s then 2 else if x.s ≠ 0 ∧ x.k = kPlain then 3 else if isS x.m = false then 2 else 0

theorem want_name {x : Wt} (h : isPart x.n = false) : wantCode x = 5 := by unfold wantCode; rw [if_pos h]
theorem want_link {x : Wt} {k : Nat} (h : isPart x.n = true) (h1 : checkK x.u = k + 1) : wantCode x = k + 1 := by unfold wantCode; rw [if_neg (by simp [h]), if_pos (by omega), h1]
theorem want_kind {x : Wt} (h : isPart x.n = true) (h1 : checkK x.u = 0) (h2 : kindW x.k = false) : wantCode x = 4 := by unfold wantCode; rw [if_neg (by simp [h]), if_neg (by omega), if_pos h2]
theorem want_strip {x : Wt} (h : isPart x.n = true) (h1 : checkK x.u = 0) (h2 : kindW x.k = true) (h3 : x.s < 0 ∨ 6 < x.s) : wantCode x = 2 := by unfold wantCode; rw [if_neg (by simp [h]), if_neg (by omega), if_neg (by simp [h2]), if_pos h3]
theorem want_shape {x : Wt} (h : isPart x.n = true) (h1 : checkK x.u = 0) (h2 : kindW x.k = true) (h3 : ¬ (x.s < 0 ∨ 6 < x.s)) (h4 : x.s ≠ 0 ∧ x.k = kPlain) : wantCode x = 3 := by unfold wantCode; rw [if_neg (by simp [h]), if_neg (by omega), if_neg (by simp [h2]), if_neg h3, if_pos h4]
theorem want_sum {x : Wt} (h : isPart x.n = true) (h1 : checkK x.u = 0) (h2 : kindW x.k = true) (h3 : ¬ (x.s < 0 ∨ 6 < x.s)) (h4 : ¬ (x.s ≠ 0 ∧ x.k = kPlain)) : wantCode x = if isS x.m = false then 2 else 0 := by unfold wantCode; rw [if_neg (by simp [h]), if_neg (by omega), if_neg (by simp [h2]), if_neg h3, if_neg h4]

theorem want_zero {x : Wt} (h : wantCode x = 0) : isPart x.n = true ∧ checkK x.u = 0 ∧ kindW x.k = true ∧ (0 ≤ x.s ∧ x.s ≤ 6) ∧ (x.s = 0 ∨ x.k ≠ kPlain) ∧ isS x.m = true := by
  unfold wantCode at h
  split at h
  · omega
  · split at h
    · omega
    · split at h
      · omega
      · split at h
        · omega
        · split at h
          · omega
          · split at h
            · omega
            · rename_i h1 h2 h3 h4 h5 h6
              refine ⟨by simpa using h1, by omega, by simpa using h3, by omega, ?_, by simpa using h6⟩
              by_cases h0 : x.s = 0
              · exact .inl h0
              · exact .inr fun e => h5 ⟨h0, e⟩
/-- Only the sum, and what goes of the paths, is another. -/
theorem want_other {x : Wt} (h : wantCode x = 0) (hk : x.k ≠ kPlain) {s m : Int} (hs : 0 ≤ s ∧ s ≤ 6) (hm : isS m = true) : wantCode { x with s := s, m := m } = 0 := by
  obtain ⟨h1, h2, h3, _, _, _⟩ := want_zero h
  rw [want_sum (x := { x with s := s, m := m }) h1 h2 h3 (by show ¬ (s < 0 ∨ 6 < s); omega) (fun e => hk e.2)]
  show (if isS m = false then 2 else 0) = 0
  rw [hm]
  rfl
theorem want_le (x : Wt) : wantCode x ≤ 8 := by
  have := checkK_small x.u
  unfold wantCode
  split
  · omega
  · split
    · omega
    · split
      · omega
      · split
        · omega
        · split
          · omega
          · split <;> omega

theorem part_noSlash {s : List UInt8} (h : isPart s = true) : 47 ∉ s := by
  intro hm
  simp only [isPart, Bool.and_eq_true, List.all_eq_true] at h
  exact absurd (h.2 _ hm) (by decide)
/-- A path of one part. -/
theorem part_path {s : List UInt8} : isPart s = true ↔ checkCode s = 0 ∧ (pieces s).length = 1 := by
  constructor
  · intro h
    have hp := pieces_none (cutL_no (part_noSlash h))
    refine ⟨?_, by rw [hp]; rfl⟩
    unfold checkCode
    rw [hp]
    simp [h]
  · rintro ⟨h, hl⟩
    have hn : cutL s = none := by
      cases hc : cutL s with
      | none => rfl
      | some y =>
        obtain ⟨a, b⟩ := y
        rw [pieces_some hc, List.length_cons] at hl
        have := List.length_pos_iff.2 (pieces_ne b)
        omega
    have hp := pieces_none hn
    unfold checkCode at h
    rw [hp] at h
    cases hs : isPart s with
    | true => rfl
    | false => simp [hs] at h

/-- Its text (not right: empty). -/
def wordsW (x : Wt) : List (List UInt8) := [x.n, x.u, x.k, digitsL x.s.toNat, textS x.m]
def textW (x : Wt) : List UInt8 := if wantCode x = 0 then Lib.join (wordsW x) [32] else []
theorem textW_yes {x : Wt} (h : wantCode x = 0) : textW x = Lib.join (wordsW x) [32] := by unfold textW; rw [if_pos h]
theorem textW_no {x : Wt} (h : wantCode x ≠ 0) : textW x = [] := by unfold textW; rw [if_neg h]

/-- One digit. -/
def digitW (d : List UInt8) : Bool := d.length == 1 && d.all isDigit
/-- Its value. -/
def valueW (d : List UInt8) : Int := ((d.headD 0).toNat : Int) - 48
/-- What five words say. -/
def fiveW (a b c d e : List UInt8) : Wt := ⟨a, b, c, valueW d, (readS e).1⟩
/-- What is read, and an error's number. -/
def readW (s : List UInt8) : Wt × Nat :=
  match piecesBy 32 s with
  | [a, b, c, d, e] => if (a = [] ∨ b = [] ∨ c = [] ∨ d = [] ∨ e = []) ∨ digitW d = false ∨ (readS e).2 ≠ 0 then (Wt.zero, 1)
    else if wantCode (fiveW a b c d e) ≠ 0 then (Wt.zero, wantCode (fiveW a b c d e)) else (fiveW a b c d e, 0)
  | _ => (Wt.zero, 1)
theorem readW_few {s : List UInt8} (h : (piecesBy 32 s).length ≠ 5) : readW s = (Wt.zero, 1) := by
  unfold readW
  split
  · rename_i e
    rw [e] at h
    exact absurd rfl h
  · rfl
theorem five_of {s : List UInt8} (h : (piecesBy 32 s).length = 5) : ∃ a b c d e, piecesBy 32 s = [a, b, c, d, e] := by
  generalize piecesBy 32 s = l at h ⊢
  rcases l with _ | ⟨a, _ | ⟨b, _ | ⟨c, _ | ⟨d, _ | ⟨e, _ | ⟨f, r⟩⟩⟩⟩⟩⟩
  · cases h
  · cases h
  · cases h
  · cases h
  · cases h
  · exact ⟨a, b, c, d, e, rfl⟩
  · simp at h
theorem readW_five {s a b c d e : List UInt8} (h : piecesBy 32 s = [a, b, c, d, e]) : readW s = if (a = [] ∨ b = [] ∨ c = [] ∨ d = [] ∨ e = []) ∨ digitW d = false ∨ (readS e).2 ≠ 0 then (Wt.zero, 1)
    else if wantCode (fiveW a b c d e) ≠ 0 then (Wt.zero, wantCode (fiveW a b c d e)) else (fiveW a b c d e, 0) := by
  unfold readW
  rw [h]

/-- A file that comes plain. -/
def plainT (x : Wt) (s : List UInt8) : List F × Nat := if (treeFault [⟨x.n, false, s⟩]).1 = 0 then ([⟨x.n, false, s⟩], 0) else ([], (treeFault [⟨x.n, false, s⟩]).1)
/-- A pack that came. -/
def packT (n : Int) (s : List UInt8) : List F × Nat × Int := if (readP s).2.1 ≠ 0 then ([], (readP s).2) else stripT (readP s).1 n
/-- A pressed text that came. -/
def pressT (n : Int) (s : List UInt8) : List F × Nat × Int := if (openS s 20000).2.1 ≠ 0 then ([], (openS s 20000).2) else packT n (openS s 20000).1
/-- What came, opened: the files, and an error's number. -/
def openW (x : Wt) (s : List UInt8) : List F × Nat :=
  if wantCode x ≠ 0 then ([], wantCode x) else if 20000 < s.length then ([], 2) else if x.k = kPlain then plainT x s
  else if x.k = kPack then ((packT x.s s).1, (packT x.s s).2.1) else ((pressT x.s s).1, (pressT x.s s).2.1)
theorem openW_bad {x : Wt} {s : List UInt8} {k : Nat} (h : wantCode x = k + 1) : openW x s = ([], k + 1) := by unfold openW; rw [if_pos (by omega), h]
theorem openW_long {x : Wt} {s : List UInt8} (h : wantCode x = 0) (hl : 20000 < s.length) : openW x s = ([], 2) := by unfold openW; rw [if_neg (by omega), if_pos hl]
theorem openW_plain {x : Wt} {s : List UInt8} (h : wantCode x = 0) (hl : ¬ 20000 < s.length) (hk : x.k = kPlain) : openW x s = plainT x s := by unfold openW; rw [if_neg (by omega), if_neg hl, if_pos hk]
theorem openW_pack {x : Wt} {s : List UInt8} (h : wantCode x = 0) (hl : ¬ 20000 < s.length) (hk : x.k = kPack) : openW x s = ((packT x.s s).1, (packT x.s s).2.1) := by unfold openW; rw [if_neg (by omega), if_neg hl, if_neg (by rw [hk]; decide), if_pos hk]
theorem openW_press {x : Wt} {s : List UInt8} (h : wantCode x = 0) (hl : ¬ 20000 < s.length) (hk : x.k = kPress) : openW x s = ((pressT x.s s).1, (pressT x.s s).2.1) := by unfold openW; rw [if_neg (by omega), if_neg hl, if_neg (by rw [hk]; decide), if_neg (by rw [hk]; decide)]

/-- What came, by its sum. -/
def rightW (x : Wt) (s : List UInt8) : List F × Nat :=
  if (openW x s).2 ≠ 0 then ([], (openW x s).2) else if (treeFault (openW x s).1).1 = 0 ∧ ((sumL (packL (openW x s).1) : Nat) : Int) = x.m then ((openW x s).1, 0) else ([], 12)

theorem kind_cases {k : List UInt8} (h : kindW k = true) : k = kPlain ∨ k = kPack ∨ k = kPress := by
  simp only [kindW, Bool.or_eq_true, beq_iff_eq] at h
  rcases h with (h | h) | h
  · exact .inl h
  · exact .inr (.inl h)
  · exact .inr (.inr h)

/-- A tree that is not stripped. -/
theorem stripL_none {s : List UInt8} (h : checkCode s = 0) : stripL s 0 = (s, 0) := by
  unfold stripL
  have := List.length_pos_iff.2 (pieces_ne s)
  rw [if_neg (by simp [h]), if_neg (by omega), if_neg (by omega)]
  show (Lib.join ((pieces s).drop 0) [47], 0) = _
  rw [List.drop_zero, join_pieces]
theorem stripT_none {l : List F} (h : (treeFault l).1 = 0) : stripT l 0 = (l, 0, -1) := by
  have hr : ∀ f ∈ l, checkCode f.p = 0 := fun f hf => ((tree_good.1 h).1.right f hf).1
  have hz : ∀ f ∈ l, (stripL f.p 0).2 = 0 := fun f hf => by rw [stripL_none (hr f hf)]
  have hs : stripAll 0 l = (l, 0, 0) := by
    unfold stripAll
    rw [mapPaths_all _ _ 0 hz]
    have : ∀ f ∈ l, ({ f with p := (stripL f.p 0).1 } : F) = id f := fun f hf => by rw [stripL_none (hr f hf)]; rfl
    rw [List.map_congr_left this, List.map_id]
  unfold stripT
  rw [if_neg (by simp [h]), hs, if_neg (by simp), sortT_tree h]

/-- What was packed comes back. -/
theorem packT_back {t l : List F} {n : Int} (ht : (treeFault t).1 = 0) (h : stripT t n = (l, 0, -1)) : packT n (packL t) = (l, 0, -1) := by
  unfold packT
  rw [readP_pack ht, if_neg (by simp)]
  exact h
theorem pressT_back {t l : List F} {n : Int} (ht : (treeFault t).1 = 0) (h : stripT t n = (l, 0, -1)) : pressT n (pressL (packL t)) = (l, 0, -1) := by
  have hl := pack_small ht
  have e := read_one (packL t) (by omega)
  have ho : openS (pressL (packL t)) 20000 = (packL t, 0, -1) := by
    rw [openS_fine (by rw [e]) (by rw [e]; show ¬ (20000 : Int) < (sizeL (runs (packL t)) : Nat); rw [size_runs]; omega), e]
    show (openL (runs (packL t)), 0, -1) = _
    rw [open_runs]
  unfold pressT
  rw [ho, if_neg (by simp)]
  exact packT_back ht h
/-- What is right has the sum, and no other. -/
theorem rightW_is {x : Wt} {s : List UInt8} {l : List F} (h : openW x s = (l, 0)) (hl : (treeFault l).1 = 0) : rightW x s = if ((sumL (packL l) : Nat) : Int) = x.m then (l, 0) else ([], 12) := by
  unfold rightW
  rw [h, if_neg (by simp)]
  simp only [hl, true_and]
end Go.Proofs.YtmeipangcgdinaaGreatDoor
