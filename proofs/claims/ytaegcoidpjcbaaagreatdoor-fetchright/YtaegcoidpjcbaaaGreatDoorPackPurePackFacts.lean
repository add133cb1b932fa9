/-
  Own texts of the proof, joined by program: PackPure, PackFacts.
-/
import Derived.Test.YtaegcoidpjcbaaaGreatDoorTreePureTreeSortTreeFactsTreeInsertTreeAt
import Derived.Test.YtaegcoidpjcbaaaGreatDoorDigitsReadPurePressPureSumPure
/-
  Packs as lists of bytes: how a file is written and read, how a text is read as files; a pack is read as it was written, what is read was written, what is cut short is none but at the end of a file. No Go text is spoken of here.
-/
namespace Go.Proofs.YtaegcoidpjcbaaaGreatDoor

/-- What stands between the bytes c. -/
def piecesBy (c : UInt8) : List UInt8 → List (List UInt8)
  | [] => [[]]
  | b :: r => if b = c then [] :: piecesBy c r else match piecesBy c r with | [] => [[b]] | p :: ps => (b :: p) :: ps
/-- What stands ahead of the first byte c, and behind it. -/
def cutBy (c : UInt8) : List UInt8 → Option (List UInt8 × List UInt8)
  | [] => none
  | b :: r => if b = c then some ([], r) else match cutBy c r with | none => none | some (x, y) => some (b :: x, y)

theorem cutBy_no {c : UInt8} : ∀ {l : List UInt8}, cutBy c l = none ↔ c ∉ l
  | [] => by simp [cutBy]
  | b :: r => by
    have ih := cutBy_no (c := c) (l := r)
    unfold cutBy
    by_cases h : b = c
    · simp [h]
    · rw [if_neg h]
      cases hr : cutBy c r with
      | none => simp [ih.1 hr, Ne.symm h]
      | some x =>
        have : c ∈ r := by
          rcases Classical.em (c ∈ r) with h' | h'
          · exact h'
          · rw [ih.2 h'] at hr; cases hr
        simp [this]
theorem cutBy_some {c : UInt8} : ∀ {l a b : List UInt8}, cutBy c l = some (a, b) → l = a ++ c :: b ∧ c ∉ a
  | [], a, b, h => by simp [cutBy] at h
  | x :: r, a, b, h => by
    unfold cutBy at h
    by_cases hx : x = c
    · rw [if_pos hx] at h
      simp at h
      obtain ⟨rfl, rfl⟩ := h
      simp [hx]
    · rw [if_neg hx] at h
      cases hr : cutBy c r with
      | none => rw [hr] at h; cases h
      | some y =>
        rw [hr] at h
        simp at h
        have ih := cutBy_some (l := r) (a := y.1) (b := y.2) hr
        refine ⟨by rw [← h.1, ← h.2]; simp [ih.1], ?_⟩
        rw [← h.1]
        simp [ih.2, Ne.symm hx]
theorem cutBy_of {c : UInt8} (b : List UInt8) : ∀ {a : List UInt8}, c ∉ a → cutBy c (a ++ c :: b) = some (a, b)
  | [], _ => by simp [cutBy]
  | x :: a, h => by
    simp at h
    have ih := cutBy_of b h.2
    show cutBy c (x :: (a ++ c :: b)) = _
    unfold cutBy
    rw [if_neg (Ne.symm h.1), ih]

theorem indexBy_none {c : UInt8} : ∀ {l : List UInt8}, c ∉ l → Lib.indexByte l c = -1
  | [], _ => rfl
  | b :: r, h => by
    simp at h
    have ih := indexBy_none h.2
    simp [Lib.indexByte, Ne.symm h.1, ih]
theorem indexBy_at {c : UInt8} (b : List UInt8) : ∀ {a : List UInt8}, c ∉ a → Lib.indexByte (a ++ c :: b) c = a.length
  | [], _ => by simp [Lib.indexByte]
  | x :: a, h => by
    simp at h
    have ih := indexBy_at b h.2
    show Lib.indexByte (x :: (a ++ c :: b)) c = _
    have hn : ¬ ((a.length : Int) = -1) := by omega
    simp [Lib.indexByte, Ne.symm h.1, ih]

theorem piecesBy_none {c : UInt8} : ∀ {l : List UInt8}, c ∉ l → piecesBy c l = [l]
  | [], _ => rfl
  | b :: r, h => by
    simp at h
    simp [piecesBy, Ne.symm h.1, piecesBy_none h.2]
theorem piecesBy_some {c : UInt8} (b : List UInt8) : ∀ {a : List UInt8}, c ∉ a → piecesBy c (a ++ c :: b) = a :: piecesBy c b
  | [], _ => by simp [piecesBy]
  | x :: a, h => by
    simp at h
    have ih := piecesBy_some b h.2
    show piecesBy c (x :: (a ++ c :: b)) = _
    rw [piecesBy, if_neg (Ne.symm h.1), ih]
theorem piecesBy_cut {c : UInt8} {l a b : List UInt8} (h : cutBy c l = some (a, b)) : piecesBy c l = a :: piecesBy c b := by
  obtain ⟨rfl, h'⟩ := cutBy_some h
  exact piecesBy_some b h'
theorem piecesBy_ne (c : UInt8) (l : List UInt8) : piecesBy c l ≠ [] := by
  cases h : cutBy c l with
  | none => rw [piecesBy_none (cutBy_no.1 h)]; simp
  | some x => rw [piecesBy_cut (a := x.1) (b := x.2) h]; simp
/-- One piece: nothing was cut. -/
theorem piecesBy_one {c : UInt8} {l x : List UInt8} (h : piecesBy c l = [x]) : l = x ∧ c ∉ l := by
  cases hc : cutBy c l with
  | none =>
    have hn := cutBy_no.1 hc
    rw [piecesBy_none hn] at h
    simp at h
    exact ⟨h, hn⟩
  | some y =>
    rw [piecesBy_cut (a := y.1) (b := y.2) hc] at h
    simp at h
    exact absurd h.2 (piecesBy_ne _ _)
theorem piecesBy_two {c : UInt8} {l x y : List UInt8} {r : List (List UInt8)} (h : piecesBy c l = x :: y :: r) : ∃ b, l = x ++ c :: b ∧ c ∉ x ∧ piecesBy c b = y :: r := by
  cases hc : cutBy c l with
  | none => rw [piecesBy_none (cutBy_no.1 hc)] at h; simp at h
  | some z =>
    rw [piecesBy_cut (a := z.1) (b := z.2) hc] at h
    obtain ⟨e, hn⟩ := cutBy_some (a := z.1) (b := z.2) hc
    simp at h
    exact ⟨z.2, by rw [← h.1]; exact e, by rw [← h.1]; exact hn, h.2⟩
theorem piecesBy_length (c : UInt8) : ∀ l : List UInt8, (piecesBy c l).length = l.count c + 1
  | [] => rfl
  | b :: r => by
    have ih := piecesBy_length c r
    unfold piecesBy
    by_cases h : b = c
    · simp [h, ih]
    · rw [if_neg h]
      cases hr : piecesBy c r with
      | nil => exact absurd hr (piecesBy_ne _ _)
      | cons p ps =>
        rw [hr] at ih
        simp [h] at ih ⊢
        exact ih
theorem piecesBy_le (c : UInt8) : ∀ (l : List UInt8), ∀ x ∈ piecesBy c l, x.length ≤ l.length
  | [], x, h => by simp [piecesBy] at h; simp [h]
  | b :: r, x, h => by
    have ih := piecesBy_le c r
    unfold piecesBy at h
    by_cases hb : b = c
    · rw [if_pos hb] at h
      rcases List.mem_cons.1 h with h | h
      · simp [h]
      · have := ih x h
        simp
        omega
    · rw [if_neg hb] at h
      cases hr : piecesBy c r with
      | nil => exact absurd hr (piecesBy_ne _ _)
      | cons p ps =>
        rw [hr] at h ih
        rcases List.mem_cons.1 h with h | h
        · have := ih p (by simp)
          simp [h]
          omega
        · have := ih x (by simp [h])
          simp
          omega

/-- The first line of a file, without its end. -/
def lineL (f : F) : List UInt8 := f.p ++ 32 :: (if f.r = true then 120 else 102) :: 32 :: digitsL f.t.length
/-- A file as text. -/
def fileL (f : F) : List UInt8 := lineL f ++ 10 :: (f.t ++ [10])
/-- A pack. -/
def packL (l : List F) : List UInt8 := l.flatMap fileL

theorem packL_nil : packL [] = [] := rfl
theorem packL_cons (f : F) (l : List F) : packL (f :: l) = fileL f ++ packL l := rfl
theorem packL_snoc (l : List F) (f : F) : packL (l ++ [f]) = packL l ++ fileL f := by simp [packL]
theorem fileL_ne (f : F) : fileL f ≠ [] := by simp [fileL]
theorem fileL_length (f : F) : (fileL f).length = f.p.length + (digitsL f.t.length).length + f.t.length + 5 := by
  simp [fileL, lineL]
  omega

/-- The words of a first line: a path, whether it may be run, how many bytes. -/
def headOf (line : List UInt8) : Option (List UInt8 × Bool × Nat) :=
  match piecesBy 32 line with
  | [a, m, d] => if (m = [120] ∨ m = [102]) ∧ 0 ≤ numberL d 6 then some (a, decide (m = [120]), (numberL d 6).toNat) else none
  | _ => none
/-- The first file of a text, and what stands behind it. -/
def cutFileL (s : List UInt8) : Option (F × List UInt8) :=
  match cutBy 10 s with
  | none => none
  | some (line, rest) => match headOf line with
    | none => none
    | some (a, x, n) => if rest[n]? = some 10 then some (⟨a, x, rest.take n⟩, rest.drop (n + 1)) else none

theorem headOf_some {line a : List UInt8} {x : Bool} {n : Nat} (h : headOf line = some (a, x, n)) :
    line = a ++ 32 :: (if x = true then 120 else 102) :: 32 :: digitsL n ∧ 32 ∉ a := by
  unfold headOf at h
  split at h
  · rename_i b m d hp
    split at h
    · rename_i hc
      simp only [Option.some.injEq, Prod.mk.injEq] at h
      obtain ⟨rfl, hx, rfl⟩ := h
      obtain ⟨r, rfl, h1, h2⟩ := piecesBy_two hp
      obtain ⟨q, rfl, _, h3⟩ := piecesBy_two h2
      obtain ⟨rfl, _⟩ := piecesBy_one h3
      have hd := number_inv hc.2
      refine ⟨?_, h1⟩
      rw [← hd]
      rcases hc.1 with e | e <;> subst e <;> subst hx <;> simp
    · cases h
  · cases h

theorem digit_not {n : Nat} {c : UInt8} (h : c.toNat < 48 ∨ 57 < c.toNat) : c ∉ digitsL n := by
  intro hm
  have := List.all_eq_true.1 (digits_digit n) c hm
  simp [isDigit] at this
  omega

theorem headOf_line {f : F} (hp : 32 ∉ f.p) (ht : f.t.length < 1000000) : headOf (lineL f) = some (f.p, f.r, f.t.length) := by
  have hd : 32 ∉ digitsL f.t.length := digit_not (by decide)
  have e : piecesBy 32 (lineL f) = [f.p, [if f.r = true then 120 else 102], digitsL f.t.length] := by
    unfold lineL
    rw [piecesBy_some _ hp]
    have h2 : (32 : UInt8) ∉ [if f.r = true then (120 : UInt8) else 102] := by cases f.r <;> decide
    have := piecesBy_some (digitsL f.t.length) h2
    rw [List.singleton_append] at this
    rw [this, piecesBy_none hd]
  unfold headOf
  rw [e]
  have hn : numberL (digitsL f.t.length) 6 = f.t.length := number_digits (k := 5) (by omega)
  simp only [hn]
  rw [if_pos ⟨by cases f.r <;> simp, by omega⟩]
  cases f.r <;> simp

theorem cutFile_some {s r : List UInt8} {f : F} (h : cutFileL s = some (f, r)) : s = fileL f ++ r := by
  unfold cutFileL at h
  split at h
  · cases h
  · rename_i line rest hc
    split at h
    · cases h
    · rename_i a x n hh
      split at h
      · rename_i hn
        simp only [Option.some.injEq, Prod.mk.injEq] at h
        obtain ⟨rfl, rfl⟩ := h
        obtain ⟨rfl, _⟩ := cutBy_some hc
        obtain ⟨rfl, _⟩ := headOf_some hh
        obtain ⟨hl, hv⟩ := List.getElem?_eq_some_iff.1 hn
        have e : rest = rest.take n ++ 10 :: rest.drop (n + 1) := by
          have := List.take_append_drop n rest
          rw [List.drop_eq_getElem_cons hl, hv] at this
          exact this.symm
        have el : (rest.take n).length = n := by rw [List.length_take]; omega
        unfold fileL lineL
        simp only [el]
        conv => lhs; rw [e]
        simp
      · cases h
theorem cutFile_less {s r : List UInt8} {f : F} (h : cutFileL s = some (f, r)) : r.length < s.length := by
  rw [cutFile_some h, List.length_append, fileL_length]
  omega

/-- A file that can be told in a pack. -/
def Plain (f : F) : Prop := 32 ∉ f.p ∧ 10 ∉ f.p ∧ f.t.length < 1000000

theorem line_noEnd {f : F} (h : Plain f) : 10 ∉ lineL f := by
  have hd : 10 ∉ digitsL f.t.length := digit_not (by decide)
  unfold lineL
  simp [h.2.1, hd]
  cases f.r <;> decide

theorem cutFile_file {f : F} (h : Plain f) (r : List UInt8) : cutFileL (fileL f ++ r) = some (f, r) := by
  have e : fileL f ++ r = lineL f ++ 10 :: (f.t ++ 10 :: r) := by simp [fileL]
  unfold cutFileL
  rw [e, cutBy_of _ (line_noEnd h)]
  simp only [headOf_line h.1 h.2.2]
  rw [if_pos (by rw [List.getElem?_append_right (Nat.le_refl _), Nat.sub_self]; rfl)]
  simp

/-- What is cut short of a file is none. -/
theorem cutFile_short {f : F} (h : Plain f) {k : Nat} (hk : k < (fileL f).length) : cutFileL ((fileL f).take k) = none := by
  by_cases hl : k ≤ (lineL f).length
  · have e : (fileL f).take k = (lineL f).take k := by
      unfold fileL
      rw [List.take_append_of_le_length hl]
    unfold cutFileL
    rw [e, cutBy_no.2 (fun hm => line_noEnd h (List.mem_of_mem_take hm))]
  · have e : (fileL f).take k = lineL f ++ 10 :: (f.t ++ [10]).take (k - (lineL f).length - 1) := by
      unfold fileL
      rw [List.take_append]
      obtain ⟨j, hj⟩ : ∃ j, k - (lineL f).length = j + 1 := ⟨k - (lineL f).length - 1, by omega⟩
      rw [hj, List.take_succ_cons, List.take_of_length_le (by omega)]
      simp
    unfold cutFileL
    rw [e, cutBy_of _ (line_noEnd h)]
    simp only [headOf_line h.1 h.2.2]
    rw [if_neg]
    intro hc
    obtain ⟨hl', _⟩ := List.getElem?_eq_some_iff.1 hc
    rw [List.length_take] at hl'
    have : (fileL f).length = (lineL f).length + f.t.length + 2 := by simp [fileL]; omega
    omega

/-- A text read as files, so many at most: those ahead of the first that is none, and whether there is no such one. -/
def readN : Nat → List UInt8 → List F × Bool
  | 0, _ => ([], false)
  | n + 1, s => if s = [] then ([], true) else
    match cutFileL s with
    | none => ([], false)
    | some (f, r) => (f :: (readN n r).1, (readN n r).2)
/-- A text read as files. -/
def readA (s : List UInt8) : List F × Bool := readN (s.length + 1) s

theorem readN_bad {n : Nat} {s : List UInt8} (h0 : s ≠ []) (h : cutFileL s = none) : readN (n + 1) s = ([], false) := by
  rw [readN, if_neg h0, h]
theorem readN_good {n : Nat} {s r : List UInt8} {f : F} (h0 : s ≠ []) (h : cutFileL s = some (f, r)) : readN (n + 1) s = (f :: (readN n r).1, (readN n r).2) := by
  rw [readN, if_neg h0, h]
/-- How many are let is no matter, where it is more than there are bytes. -/
theorem readN_same : ∀ (n m : Nat) (s : List UInt8), s.length < n → s.length < m → readN n s = readN m s
  | 0, _, s, h, _ => by omega
  | _, 0, s, _, h => by omega
  | n + 1, m + 1, s, h, h' => by
    by_cases h0 : s = []
    · rw [readN, readN, if_pos h0, if_pos h0]
    · cases hc : cutFileL s with
      | none => rw [readN_bad h0 hc, readN_bad h0 hc]
      | some x =>
        have hlt := cutFile_less (f := x.1) (r := x.2) hc
        rw [readN_good (f := x.1) (r := x.2) h0 hc, readN_good (f := x.1) (r := x.2) h0 hc, readN_same n m x.2 (by omega) (by omega)]

theorem readA_nil : readA [] = ([], true) := by simp [readA, readN]
theorem readA_bad {s : List UInt8} (h0 : s ≠ []) (h : cutFileL s = none) : readA s = ([], false) := readN_bad h0 h
theorem readA_good {s r : List UInt8} {f : F} (h0 : s ≠ []) (h : cutFileL s = some (f, r)) : readA s = (f :: (readA r).1, (readA r).2) := by
  have hlt := cutFile_less h
  unfold readA
  rw [readN_good h0 h, readN_same s.length (r.length + 1) r hlt (by omega)]

theorem cutFile_nil : cutFileL [] = none := rfl

/-- What is read was written. -/
theorem pack_readA : ∀ (n : Nat) (s : List UInt8), s.length ≤ n → (readA s).2 = true → packL (readA s).1 = s
  | n, [], _, _ => by rw [readA_nil]; rfl
  | 0, b :: s, h, _ => by simp at h
  | n + 1, b :: s, h, hr => by
    cases hc : cutFileL (b :: s) with
    | none => rw [readA_bad (by simp) hc] at hr; cases hr
    | some x =>
      rw [readA_good (f := x.1) (r := x.2) (by simp) hc] at hr ⊢
      have hlt := cutFile_less (f := x.1) (r := x.2) hc
      have ih := pack_readA n x.2 (by omega) hr
      show packL (x.1 :: (readA x.2).1) = _
      rw [packL_cons, ih, ← cutFile_some (f := x.1) (r := x.2) hc]
theorem readA_app {f : F} (h : Plain f) (r : List UInt8) : readA (fileL f ++ r) = (f :: (readA r).1, (readA r).2) :=
  readA_good (fun e => fileL_ne f (List.append_eq_nil_iff.1 e).1) (cutFile_file h r)
/-- A pack is read as it was written. -/
theorem readA_pack : ∀ {l : List F}, (∀ f ∈ l, Plain f) → readA (packL l) = (l, true)
  | [], _ => readA_nil
  | f :: l, h => by
    rw [packL_cons, readA_app (h f (by simp)), readA_pack fun g hg => h g (by simp [hg])]
/-- What is cut short is none, but at the end of a file. -/
theorem readA_take : ∀ {l : List F} {k : Nat}, (∀ f ∈ l, Plain f) → k < (packL l).length → (readA ((packL l).take k)).2 = true →
    (readA ((packL l).take k)).1.length < l.length ∧ (readA ((packL l).take k)).1 = l.take (readA ((packL l).take k)).1.length
  | [], k, _, h, _ => by simp [packL] at h
  | f :: l, k, h, hk, hr => by
    rw [packL_cons] at hk hr ⊢
    by_cases hf : (fileL f).length ≤ k
    · have e : (fileL f ++ packL l).take k = fileL f ++ (packL l).take (k - (fileL f).length) := by
        rw [List.take_append, List.take_of_length_le hf]
      rw [e, readA_app (h f (by simp))] at hr ⊢
      have ih := readA_take (l := l) (k := k - (fileL f).length) (fun g hg => h g (by simp [hg])) (by rw [List.length_append] at hk; omega) hr
      refine ⟨by simp; exact ih.1, ?_⟩
      show f :: _ = _
      rw [List.length_cons, List.take_succ_cons, ← ih.2]
    · have e : (fileL f ++ packL l).take k = (fileL f).take k := List.take_append_of_le_length (by omega)
      rw [e] at hr ⊢
      by_cases h0 : (fileL f).take k = []
      · rw [h0, readA_nil]
        simp
      · rw [readA_bad h0 (cutFile_short (h f (by simp)) (by omega))] at hr
        cases hr

/-- What Read answers: files, and an error's number and place. -/
def readP (s : List UInt8) : List F × Nat × Int :=
  if 20000 < s.length then ([], 2, -1)
  else if (readA s).2 = false then ([], 1, (((readA s).1.length : Nat) : Int))
  else if (treeFault (readA s).1).1 = 0 then ((readA s).1, 0, -1) else ([], treeFault (readA s).1)

theorem readP_long {s : List UInt8} (h : 20000 < s.length) : readP s = ([], 2, -1) := by unfold readP; rw [if_pos h]
theorem readP_none {s : List UInt8} (h : s.length ≤ 20000) (h1 : (readA s).2 = false) : readP s = ([], 1, (((readA s).1.length : Nat) : Int)) := by
  unfold readP
  rw [if_neg (by omega), if_pos h1]
theorem readP_fault {s : List UInt8} (h : s.length ≤ 20000) (h1 : (readA s).2 = true) (h2 : (treeFault (readA s).1).1 ≠ 0) : readP s = ([], treeFault (readA s).1) := by
  unfold readP
  rw [if_neg (by omega), if_neg (by rw [h1]; simp), if_neg h2]
theorem readP_fine {s : List UInt8} (h : s.length ≤ 20000) (h1 : (readA s).2 = true) (h2 : (treeFault (readA s).1).1 = 0) : readP s = ((readA s).1, 0, -1) := by
  unfold readP
  rw [if_neg (by omega), if_neg (by rw [h1]; simp), if_pos h2]

/-- The files that are read are no longer than the text. -/
theorem pack_mem {l : List F} {f : F} (h : f ∈ l) : f.p.length ≤ (packL l).length ∧ f.t.length ≤ (packL l).length := by
  obtain ⟨a, b, rfl⟩ := List.append_of_mem h
  have := fileL_length f
  simp [packL] at this ⊢
  omega
theorem pack_count : ∀ (l : List F), l.length ≤ (packL l).length
  | [] => by simp
  | f :: l => by
    have ih := pack_count l
    have := fileL_length f
    rw [packL_cons, List.length_append, List.length_cons]
    omega
end Go.Proofs.YtaegcoidpjcbaaaGreatDoor
/-
  Facts on packs of right trees: no Go text is spoken of here.
-/
namespace Go.Proofs.YtaegcoidpjcbaaaGreatDoor

theorem mem_pieces : ∀ {l : List UInt8} {b : UInt8}, b ∈ l → b ≠ 47 → ∃ x ∈ pieces l, b ∈ x
  | [], _, h, _ => by simp at h
  | c :: r, b, h, h47 => by
    by_cases hc : c = 47
    · have e : pieces (c :: r) = [] :: pieces r := by rw [pieces, if_pos hc]
      rw [e]
      rcases List.mem_cons.1 h with h | h
      · exact absurd (h.trans hc) h47
      · obtain ⟨x, hx, hb⟩ := mem_pieces h h47
        exact ⟨x, by simp [hx], hb⟩
    · cases hp : pieces r with
      | nil => exact absurd hp (pieces_ne r)
      | cons q qs =>
        have e : pieces (c :: r) = (c :: q) :: qs := by rw [pieces, if_neg hc, hp]
        rw [e]
        rcases List.mem_cons.1 h with h | h
        · exact ⟨c :: q, by simp, by simp [h]⟩
        · obtain ⟨x, hx, hb⟩ := mem_pieces h h47
          rw [hp] at hx
          rcases List.mem_cons.1 hx with hx | hx
          · exact ⟨c :: q, by simp, by rw [hx] at hb; simp [hb]⟩
          · exact ⟨x, by simp [hx], hb⟩
theorem path_not {s : List UInt8} {b : UInt8} (h : checkCode s = 0) (hb : b ≠ 47) (hp : partByte b = false) : b ∉ s := by
  intro hm
  obtain ⟨x, hx, hbx⟩ := mem_pieces hm hb
  have := (checkCode_zero.1 h).1 x hx
  unfold isPart at this
  simp only [Bool.and_eq_true] at this
  have := List.all_eq_true.1 this.2 b hbx
  rw [hp] at this
  cases this
theorem plain_right {f : F} (h : Right f) : Plain f := ⟨path_not h.1 (by decide) (by decide), path_not h.1 (by decide) (by decide), by have := h.2; omega⟩
theorem plain_tree {l : List F} (h : (treeFault l).1 = 0) : ∀ f ∈ l, Plain f := fun f hf => plain_right ((tree_good.1 h).1.right f hf)

theorem clean_itself {s : List UInt8} (h : checkCode s = 0) : cleanL s = (s, 0) := by
  obtain ⟨hp, hl⟩ := checkCode_zero.1 h
  refine cleanL_of (ks := pieces s) ⟨?_, cleanF_keep hp, hp, hl, (join_pieces s).symm⟩
  have := head_join hp
  rwa [join_pieces] at this

theorem pack_length {l : List F} (h : ∀ f ∈ l, Right f) : (packL l).length ≤ 88 * l.length + total l := by
  induction l with
  | nil => simp [packL]
  | cons f l ih =>
    have i := ih fun g hg => h g (by simp [hg])
    have a := path_short (h f (by simp)).1
    have b := (h f (by simp)).2
    have c := digits_length 3 f.t.length (by omega)
    have d := fileL_length f
    have t : total (f :: l) = f.t.length + total l := by simp [total]
    rw [packL_cons, List.length_append, List.length_cons, t]
    omega
theorem pack_small {l : List F} (h : (treeFault l).1 = 0) : (packL l).length ≤ 20000 := by
  obtain ⟨g, hn, ht⟩ := tree_good.1 h
  have := pack_length g.right
  omega

/-- What Read answers: files that are right, and a pack of them is the text; or an error, and none. -/
theorem readP_cases (s : List UInt8) : (∃ r, readP s = (r, 0, -1) ∧ packL r = s ∧ (treeFault r).1 = 0) ∨ ∃ c i, readP s = ([], c, i) ∧ c ≠ 0 := by
  by_cases hl : 20000 < s.length
  · exact .inr ⟨2, -1, readP_long hl, by decide⟩
  · have hl' : s.length ≤ 20000 := by omega
    cases h1 : (readA s).2 with
    | false => exact .inr ⟨1, _, readP_none hl' h1, by decide⟩
    | true =>
      by_cases h2 : (treeFault (readA s).1).1 = 0
      · exact .inl ⟨_, readP_fine hl' h1 h2, pack_readA _ s (Nat.le_refl _) h1, h2⟩
      · exact .inr ⟨_, _, readP_fault hl' h1 h2, h2⟩
theorem readP_pack {l : List F} (h : (treeFault l).1 = 0) : readP (packL l) = (l, 0, -1) := by
  have e := readA_pack (plain_tree h)
  have := readP_fine (s := packL l) (pack_small h) (by rw [e]) (by rw [e]; exact h)
  rw [this, e]
theorem readP_cut {l y : List F} {k : Nat} (h : (treeFault l).1 = 0) (hk : k < (packL l).length) (hy : readP ((packL l).take k) = (y, 0, -1)) : y.length < l.length ∧ y = l.take y.length := by
  have hs := pack_small h
  have hl : ((packL l).take k).length ≤ 20000 := by rw [List.length_take]; omega
  cases h1 : (readA ((packL l).take k)).2 with
  | false =>
    rw [readP_none hl h1] at hy
    cases hy
  | true =>
    by_cases h2 : (treeFault (readA ((packL l).take k)).1).1 = 0
    · rw [readP_fine hl h1 h2] at hy
      simp only [Prod.mk.injEq] at hy
      obtain ⟨rfl, _⟩ := hy
      exact readA_take (plain_tree h) hk h1
    · rw [readP_fault hl h1 h2] at hy
      simp only [Prod.mk.injEq] at hy
      exact absurd (by rw [hy.2]) h2
end Go.Proofs.YtaegcoidpjcbaaaGreatDoor
