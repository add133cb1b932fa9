/-
  Paths as lists of bytes: what a part is, how a text is cut at slashes, checked, cleaned, joined and stripped: plain functions and what holds of them. No Go text is spoken of here.
-/
import Derived.Lib.Strings
import Derived.Lib.Bytealg
import Derived.Lib.Join
namespace Go.Proofs.YtkcjgncpcidfoaaGreatDoor

/-- May this byte stand in a part? -/
def partByte (b : UInt8) : Bool := (97 ≤ b && b ≤ 122) || (48 ≤ b && b ≤ 57) || b == 46 || b == 95 || b == 45
def partInt (b : Int) : Bool := (decide (97 ≤ b) && decide (b ≤ 122)) || (decide (48 ≤ b) && decide (b ≤ 57)) || decide (b = 46) || decide (b = 95) || decide (b = 45)

theorem partInt_byte (b : UInt8) : partInt (b.toNat : Int) = partByte b := by
  have h : ∀ k : UInt8, (decide ((b.toNat : Int) = (k.toNat : Int))) = (b == k) := fun k => by
    rw [Bool.eq_iff_iff]; simp [← UInt8.toNat_inj]; omega
  have h1 : ∀ k : UInt8, (decide ((k.toNat : Int) ≤ (b.toNat : Int))) = decide (k ≤ b) := fun k => by
    rw [Bool.eq_iff_iff]; simp [UInt8.le_iff_toNat_le]
  have h2 : ∀ k : UInt8, (decide ((b.toNat : Int) ≤ (k.toNat : Int))) = decide (b ≤ k) := fun k => by
    rw [Bool.eq_iff_iff]; simp [UInt8.le_iff_toNat_le]
  have e1 := h1 97; have e2 := h2 122; have e3 := h1 48; have e4 := h2 57; have e5 := h 46; have e6 := h 95; have e7 := h 45
  simp only [UInt8.reduceToNat, Int.cast_ofNat_Int] at e1 e2 e3 e4 e5 e6 e7
  unfold partInt partByte
  rw [e1, e2, e3, e4, e5, e6, e7]

/-- Is this a part of a path? -/
def isPart (l : List UInt8) : Bool := !l.isEmpty && decide (l.length ≤ 12) && !(l == [46]) && !(l == [46, 46]) && l.all partByte

/-- What stands between slashes. -/
def pieces : List UInt8 → List (List UInt8)
  | [] => [[]]
  | c :: r => if c = 47 then [] :: pieces r else match pieces r with | [] => [[c]] | p :: ps => (c :: p) :: ps

theorem pieces_ne (l : List UInt8) : pieces l ≠ [] := by
  cases l with
  | nil => simp [pieces]
  | cons c r =>
    unfold pieces
    split
    · simp
    · split <;> simp

/-- What stands ahead of the first slash, and behind it. -/
def cutL : List UInt8 → Option (List UInt8 × List UInt8)
  | [] => none
  | c :: r => if c = 47 then some ([], r) else match cutL r with | none => none | some (a, b) => some (c :: a, b)

theorem cutL_some : ∀ {l a b : List UInt8}, cutL l = some (a, b) → l = a ++ 47 :: b
  | [], a, b, h => by simp [cutL] at h
  | c :: r, a, b, h => by
    unfold cutL at h
    split at h
    · rename_i hc
      simp at h
      obtain ⟨rfl, rfl⟩ := h
      simp [hc]
    · split at h
      · cases h
      · rename_i a' b' h'
        simp at h
        obtain ⟨rfl, rfl⟩ := h
        simp [cutL_some h']

theorem index_none : ∀ {l : List UInt8}, cutL l = none → Lib.indexByte l 47 = -1
  | [], _ => rfl
  | c :: r, h => by
    unfold cutL at h
    split at h
    · cases h
    · rename_i hc
      split at h
      · rename_i h'
        unfold Lib.indexByte
        rw [index_none h']
        simp [hc]
      · cases h

theorem index_some : ∀ {l a b : List UInt8}, cutL l = some (a, b) → Lib.indexByte l 47 = a.length
  | [], a, b, h => by simp [cutL] at h
  | c :: r, a, b, h => by
    unfold cutL at h
    split at h
    · rename_i hc
      simp at h
      obtain ⟨rfl, rfl⟩ := h
      simp [Lib.indexByte, hc]
    · rename_i hc
      split at h
      · cases h
      · rename_i a' b' h'
        simp at h
        obtain ⟨rfl, rfl⟩ := h
        unfold Lib.indexByte
        rw [index_some h']
        have : ((a'.length : Int) == -1) = false := by simp
        simp [hc, this]

theorem pieces_none : ∀ {l : List UInt8}, cutL l = none → pieces l = [l]
  | [], _ => rfl
  | c :: r, h => by
    unfold cutL at h
    split at h
    · cases h
    · rename_i hc
      split at h
      · rename_i h'
        simp [pieces, hc, pieces_none h']
      · cases h

theorem pieces_some : ∀ {l a b : List UInt8}, cutL l = some (a, b) → pieces l = a :: pieces b
  | [], a, b, h => by simp [cutL] at h
  | c :: r, a, b, h => by
    unfold cutL at h
    split at h
    · rename_i hc
      simp at h
      obtain ⟨rfl, rfl⟩ := h
      simp [pieces, hc]
    · rename_i hc
      split at h
      · cases h
      · rename_i a' b' h'
        simp at h
        obtain ⟨rfl, rfl⟩ := h
        simp [pieces, hc, pieces_some h']

theorem cutL_no : ∀ {a : List UInt8}, 47 ∉ a → cutL a = none
  | [], _ => rfl
  | c :: r, h => by
    have hc : c ≠ 47 := fun e => h (by rw [e]; exact List.mem_cons_self)
    have hr := cutL_no (a := r) (fun e => h (List.mem_cons_of_mem _ e))
    simp [cutL, hc, hr]

theorem cutL_of : ∀ {a : List UInt8} (b : List UInt8), 47 ∉ a → cutL (a ++ 47 :: b) = some (a, b)
  | [], b, _ => by simp [cutL]
  | c :: r, b, h => by
    have hc : c ≠ 47 := fun e => h (by rw [e]; exact List.mem_cons_self)
    have hr := cutL_of (a := r) b (fun e => h (List.mem_cons_of_mem _ e))
    simp [cutL, hc, hr]

theorem drop_cut {l : List UInt8} {f k : Nat} (hfk : f ≤ k) (hk : k < l.length) (h47 : l[k] = 47) : l.drop f = (l.drop f).take (k - f) ++ 47 :: l.drop (k + 1) := by
  have e1 : l.drop k = 47 :: l.drop (k + 1) := by rw [List.drop_eq_getElem_cons hk, h47]
  have e2 : (l.drop f).drop (k - f) = l.drop k := by rw [List.drop_drop]; congr 1; omega
  rw [← e1, ← e2]
  exact (List.take_append_drop _ _).symm

theorem take_more {l : List UInt8} {f k : Nat} (hfk : f ≤ k) (hk : k < l.length) : (l.drop f).take (k + 1 - f) = (l.drop f).take (k - f) ++ [l[k]] := by
  have e : k + 1 - f = (k - f) + 1 := by omega
  have hl : k - f < (l.drop f).length := by rw [List.length_drop]; omega
  rw [e, List.take_succ_eq_append_getElem hl]
  congr 2
  rw [List.getElem_drop]
  congr 1
  omega

/-- The number of the error that checking a text tells (0: none). -/
def checkCode (l : List UInt8) : Nat := if (pieces l).all isPart then (if 6 < (pieces l).length then 8 else 0) else 5

theorem pieces_length : ∀ l : List UInt8, (pieces l).length ≤ l.length + 1
  | [] => by simp [pieces]
  | c :: r => by
    have ih := pieces_length r
    unfold pieces
    split
    · simp; omega
    · split
      · simp
      · rename_i p ps h
        rw [h] at ih
        simp at ih ⊢
        omega

/-- One piece more, when a text is cleaned: the pieces kept so far, and the number of an error (0: none). -/
def cleanStep (st : List (List UInt8) × Nat) (x : List UInt8) : List (List UInt8) × Nat :=
  if st.2 ≠ 0 then st
  else if x = [] ∨ x = [46] then st
  else if x = [46, 46] then (if st.1 = [] then (st.1, 10) else (st.1.dropLast, 0))
  else if isPart x then (st.1 ++ [x], 0) else (st.1, 5)

def cleanF (xs : List (List UInt8)) : List (List UInt8) × Nat := xs.foldl cleanStep ([], 0)

theorem cleanF_snoc (pre : List (List UInt8)) (x : List UInt8) : cleanF (pre ++ [x]) = cleanStep (cleanF pre) x := by simp [cleanF]

theorem cleanStep_stuck (st : List (List UInt8) × Nat) (h : st.2 ≠ 0) : ∀ xs : List (List UInt8), xs.foldl cleanStep st = st
  | [] => rfl
  | x :: xs => by
    have : cleanStep st x = st := by simp [cleanStep, h]
    rw [List.foldl_cons, this, cleanStep_stuck st h xs]

theorem cleanF_prefix {pre xs : List (List UInt8)} (hp : pre <+: xs) (h : (cleanF pre).2 ≠ 0) : cleanF xs = cleanF pre := by
  obtain ⟨r, rfl⟩ := hp
  show (pre ++ r).foldl cleanStep ([], 0) = _
  rw [List.foldl_append]
  exact cleanStep_stuck _ h r

theorem cleanStep_dot {st : List (List UInt8) × Nat} {x : List UInt8} (h : st.2 = 0) (hx : x = [] ∨ x = [46]) : cleanStep st x = st := by simp [cleanStep, h, hx]
theorem cleanStep_up {st : List (List UInt8) × Nat} (h : st.2 = 0) (hk : st.1 ≠ []) : cleanStep st [46, 46] = (st.1.dropLast, 0) := by simp [cleanStep, h, hk]
theorem cleanStep_out {st : List (List UInt8) × Nat} (h : st.2 = 0) (hk : st.1 = []) : cleanStep st [46, 46] = ([], 10) := by simp [cleanStep, h, hk]
theorem cleanStep_part {st : List (List UInt8) × Nat} {x : List UInt8} (h : st.2 = 0) (h0 : x ≠ []) (h1 : x ≠ [46]) (h2 : x ≠ [46, 46]) (hx : isPart x = true) : cleanStep st x = (st.1 ++ [x], 0) := by simp [cleanStep, h, h0, h1, h2, hx]
theorem cleanStep_none {st : List (List UInt8) × Nat} {x : List UInt8} (h : st.2 = 0) (h0 : x ≠ []) (h1 : x ≠ [46]) (h2 : x ≠ [46, 46]) (hx : isPart x = false) : cleanStep st x = (st.1, 5) := by simp [cleanStep, h, h0, h1, h2, hx]

theorem cleanF_length : ∀ pre : List (List UInt8), (cleanF pre).1.length ≤ pre.length := by
  intro pre
  have h : ∀ (xs : List (List UInt8)) (st : List (List UInt8) × Nat), (xs.foldl cleanStep st).1.length ≤ st.1.length + xs.length := by
    intro xs
    induction xs with
    | nil => intro st; simp
    | cons x xs ih =>
      intro st
      have h1 : (cleanStep st x).1.length ≤ st.1.length + 1 := by
        unfold cleanStep
        split
        · omega
        · split
          · omega
          · split
            · split <;> simp <;> omega
            · split <;> simp
      have := ih (cleanStep st x)
      simp only [List.foldl_cons, List.length_cons]
      omega
  have := h pre ([], 0)
  simpa [cleanF] using this

theorem isPart_length {x : List UInt8} (h : isPart x = true) : x.length ≤ 12 := by
  simp [isPart] at h
  exact h.1.1.1.2

theorem cleanStep_parts {st : List (List UInt8) × Nat} (h : ∀ x ∈ st.1, isPart x = true) (y : List UInt8) : ∀ x ∈ (cleanStep st y).1, isPart x = true := by
  unfold cleanStep
  split
  · exact h
  · split
    · exact h
    · split
      · split
        · exact h
        · intro x hx
          exact h x ((List.dropLast_sublist _).subset hx)
      · split
        · rename_i hy
          intro x hx
          rcases List.mem_append.1 hx with hx | hx
          · exact h x hx
          · simp at hx; subst hx; exact hy
        · exact h

theorem cleanF_parts (xs : List (List UInt8)) : ∀ x ∈ (cleanF xs).1, isPart x = true := by
  have h : ∀ (xs : List (List UInt8)) (st : List (List UInt8) × Nat), (∀ x ∈ st.1, isPart x = true) → ∀ x ∈ (xs.foldl cleanStep st).1, isPart x = true := by
    intro xs
    induction xs with
    | nil => intro st h; exact h
    | cons y ys ih => intro st h; exact ih _ (cleanStep_parts h y)
  exact h xs ([], 0) (by simp)

theorem joinTail_length {M : Nat} : ∀ {k : List (List UInt8)}, (∀ x ∈ k, x.length ≤ M) → (Lib.joinTail [47] k).length ≤ (M + 1) * k.length
  | [], _ => by simp [Lib.joinTail]
  | x :: k, h => by
    have h1 := h x List.mem_cons_self
    have h2 := joinTail_length (k := k) (fun y hy => h y (List.mem_cons_of_mem _ hy))
    have e : Lib.joinTail [47] (x :: k) = 47 :: x ++ Lib.joinTail [47] k := by simp [Lib.joinTail]
    rw [e, List.length_append, List.length_cons, List.length_cons, Nat.mul_add]
    omega

theorem join_length {M : Nat} {k : List (List UInt8)} (h : ∀ x ∈ k, x.length ≤ M) : (Lib.join k [47]).length ≤ (M + 1) * k.length := by
  cases k with
  | nil => simp [Lib.join_nil]
  | cons x k =>
    have h1 := h x List.mem_cons_self
    have h2 := joinTail_length (k := k) (fun y hy => h y (List.mem_cons_of_mem _ hy))
    rw [Lib.join_cons, List.length_append, List.length_cons, Nat.mul_add]
    omega

/-- What cleaning a text tells: the text, and the number of an error (0: none). -/
def cleanL (l : List UInt8) : List UInt8 × Nat :=
  if l.head? = some 47 then ([], 3)
  else if (cleanF (pieces l)).2 ≠ 0 then ([], (cleanF (pieces l)).2)
  else if 6 < (cleanF (pieces l)).1.length then ([], 8)
  else (Lib.join (cleanF (pieces l)).1 [47], 0)

/-- What stripping the first parts of a text tells: the text, and the number of an error (0: none). -/
def stripL (s : List UInt8) (n : Int) : List UInt8 × Nat :=
  if checkCode s ≠ 0 then ([], checkCode s)
  else if n < 0 then ([], 2)
  else if ((pieces s).length : Int) ≤ n then ([], 3)
  else (Lib.join ((pieces s).drop n.toNat) [47], 0)

end Go.Proofs.YtkcjgncpcidfoaaGreatDoor
