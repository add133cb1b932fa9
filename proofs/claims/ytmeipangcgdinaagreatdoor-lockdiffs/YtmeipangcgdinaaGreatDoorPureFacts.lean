/-
  Own texts of the proof, joined by program: Pure, Facts.
-/
import Derived.Lib.Strings
import Derived.Lib.Bytealg
import Derived.Lib.Join
/-
  Paths as lists of bytes: what a part is, how a text is cut at slashes, checked, cleaned, joined and stripped: plain functions and what holds of them. No Go text is spoken of here.
-/
namespace Go.Proofs.YtmeipangcgdinaaGreatDoor

/-- May this byte stand in a part? -/
def partByte (b : UInt8) : Bool := (97 ≤ b && b ≤ 122) || (48 ≤ b && b ≤ 57) || b == 46 || b == 95 || b == 45
def partInt (b : Int) : Bool := (decide (97 ≤ b) && decide (b ≤ 122)) || (decide (48 ≤ b) && decide (b ≤ 57)) || decide (b = 46) || decide (b = 95) || decide (b = 45)

theorem partInt_byte (b : UInt8) : partInt (b.toNat : Int) = partByte b := by
  have h : ∀ k : UInt8, (decide ((b.toNat : Int) = (k.toNat : Int))) = (b == k) := fun k => by
    rw [Bool.eq_iff_iff]; simp [← UInt8.toNat_inj]; omega
  have h1 : ∀ k : UInt8, (decide ((k.toNat : Int) ≤ (b.toNat : Int))) = decide (k ≤ b) := fun k => by
    rw [Bool.eq_iff_iff]; simp [UInt8.le_iff_toNat_le]
  have h2 : ∀ k : UInt8, (decide ((b.toNat : Int) ≤ (k.toNat : Int))) = decide (b ≤ k) := fun k => by
    rw [Bool.eq_iff_iff]; simp [UInt8.le_iff_toNat_le]
  have e1 := h1 97; have e2 := h2 122; have e3 := h1 48; have e4 := h2 57; have e5 := h 46; have e6 := h 95; have e7 := h 45
  simp only [UInt8.reduceToNat, Int.cast_ofNat_Int] at e1 e2 e3 e4 e5 e6 e7
  unfold partInt partByte
  rw [e1, e2, e3, e4, e5, e6, e7]

/-- Is this a part of a path? -/
def isPart (l : List UInt8) : Bool := !l.isEmpty && decide (l.length ≤ 12) && !(l == [46]) && !(l == [46, 46]) && l.all partByte

/-- What stands between slashes. -/
def pieces : List UInt8 → List (List UInt8)
  | [] => [[]]
  | c :: r => if c = 47 then [] :: pieces r else match pieces r with | [] => [[c]] | p :: ps => (c :: p) :: ps

theorem pieces_ne (l : List UInt8) : pieces l ≠ [] := by
  cases l with
  | nil => simp [pieces]
  | cons c r =>
    unfold pieces
    split
    · simp
    · split <;> simp

/-- What stands ahead of the first slash, and behind it. -/
def cutL : List UInt8 → Option (List UInt8 × List UInt8)
  | [] => none
  | c :: r => if c = 47 then some ([], r) else match cutL r with | none => none | some (a, b) => some (c :: a, b)

theorem cutL_some : ∀ {l a b : List UInt8}, cutL l = some (a, b) → l = a ++ 47 :: b
  | [], a, b, h => by simp [cutL] at h
  | c :: r, a, b, h => by
    unfold cutL at h
    split at h
    · rename_i hc
      simp at h
      obtain ⟨rfl, rfl⟩ := h
      simp [hc]
    · split at h
      · cases h
      · rename_i a' b' h'
        simp at h
        obtain ⟨rfl, rfl⟩ := h
        simp [cutL_some h']

theorem index_none : ∀ {l : List UInt8}, cutL l = none → Lib.indexByte l 47 = -1
  | [], _ => rfl
  | c :: r, h => by
    unfold cutL at h
    split at h
    · cases h
    · rename_i hc
      split at h
      · rename_i h'
        unfold Lib.indexByte
        rw [index_none h']
        simp [hc]
      · cases h

theorem index_some : ∀ {l a b : List UInt8}, cutL l = some (a, b) → Lib.indexByte l 47 = a.length
  | [], a, b, h => by simp [cutL] at h
  | c :: r, a, b, h => by
    unfold cutL at h
    split at h
    · rename_i hc
      simp at h
      obtain ⟨rfl, rfl⟩ := h
      simp [Lib.indexByte, hc]
    · rename_i hc
      split at h
      · cases h
      · rename_i a' b' h'
        simp at h
        obtain ⟨rfl, rfl⟩ := h
        unfold Lib.indexByte
        rw [index_some h']
        have : ((a'.length : Int) == -1) = false := by simp
        simp [hc, this]

theorem pieces_none : ∀ {l : List UInt8}, cutL l = none → pieces l = [l]
  | [], _ => rfl
  | c :: r, h => by
    unfold cutL at h
    split at h
    · cases h
    · rename_i hc
      split at h
      · rename_i h'
        simp [pieces, hc, pieces_none h']
      · cases h

theorem pieces_some : ∀ {l a b : List UInt8}, cutL l = some (a, b) → pieces l = a :: pieces b
  | [], a, b, h => by simp [cutL] at h
  | c :: r, a, b, h => by
    unfold cutL at h
    split at h
    · rename_i hc
      simp at h
      obtain ⟨rfl, rfl⟩ := h
      simp [pieces, hc]
    · rename_i hc
      split at h
      · cases h
      · rename_i a' b' h'
        simp at h
        obtain ⟨rfl, rfl⟩ := h
        simp [pieces, hc, pieces_some h']

theorem cutL_no : ∀ {a : List UInt8}, 47 ∉ a → cutL a = none
  | [], _ => rfl
  | c :: r, h => by
    have hc : c ≠ 47 := fun e => h (by rw [e]; exact List.mem_cons_self)
    have hr := cutL_no (a := r) (fun e => h (List.mem_cons_of_mem _ e))
    simp [cutL, hc, hr]

theorem cutL_of : ∀ {a : List UInt8} (b : List UInt8), 47 ∉ a → cutL (a ++ 47 :: b) = some (a, b)
  | [], b, _ => by simp [cutL]
  | c :: r, b, h => by
    have hc : c ≠ 47 := fun e => h (by rw [e]; exact List.mem_cons_self)
    have hr := cutL_of (a := r) b (fun e => h (List.mem_cons_of_mem _ e))
    simp [cutL, hc, hr]

theorem drop_cut {l : List UInt8} {f k : Nat} (hfk : f ≤ k) (hk : k < l.length) (h47 : l[k] = 47) : l.drop f = (l.drop f).take (k - f) ++ 47 :: l.drop (k + 1) := by
  have e1 : l.drop k = 47 :: l.drop (k + 1) := by rw [List.drop_eq_getElem_cons hk, h47]
  have e2 : (l.drop f).drop (k - f) = l.drop k := by rw [List.drop_drop]; congr 1; omega
  rw [← e1, ← e2]
  exact (List.take_append_drop _ _).symm

theorem take_more {l : List UInt8} {f k : Nat} (hfk : f ≤ k) (hk : k < l.length) : (l.drop f).take (k + 1 - f) = (l.drop f).take (k - f) ++ [l[k]] := by
  have e : k + 1 - f = (k - f) + 1 := by omega
  have hl : k - f < (l.drop f).length := by rw [List.length_drop]; omega
  rw [e, List.take_succ_eq_append_getElem hl]
  congr 2
  rw [List.getElem_drop]
  congr 1
  omega

/-- The number of the error that checking a text tells (0: none). -/
def checkCode (l : List UInt8) : Nat := if (pieces l).all isPart then (if 6 < (pieces l).length then 8 else 0) else 5

theorem pieces_length : ∀ l : List UInt8, (pieces l).length ≤ l.length + 1
  | [] => by simp [pieces]
  | c :: r => by
    have ih := pieces_length r
    unfold pieces
    split
    · simp; omega
    · split
      · simp
      · rename_i p ps h
        rw [h] at ih
        simp at ih ⊢
        omega

/-- One piece more, when a text is cleaned: the pieces kept so far, and the number of an error (0: none). -/
def cleanStep (st : List (List UInt8) × Nat) (x : List UInt8) : List (List UInt8) × Nat :=
  if st.2 ≠ 0 then st
  else if x = [] ∨ x = [46] then st
  else if x = [46, 46] then (if st.1 = [] then (st.1, 10) else (st.1.dropLast, 0))
  else if isPart x then (st.1 ++ [x], 0) else (st.1, 5)

def cleanF (xs : List (List UInt8)) : List (List UInt8) × Nat := xs.foldl cleanStep ([], 0)

theorem cleanF_snoc (pre : List (List UInt8)) (x : List UInt8) : cleanF (pre ++ [x]) = cleanStep (cleanF pre) x := by simp [cleanF]

theorem cleanStep_stuck (st : List (List UInt8) × Nat) (h : st.2 ≠ 0) : ∀ xs : List (List UInt8), xs.foldl cleanStep st = st
  | [] => rfl
  | x :: xs => by
    have : cleanStep st x = st := by simp [cleanStep, h]
    rw [List.foldl_cons, this, cleanStep_stuck st h xs]

theorem cleanF_prefix {pre xs : List (List UInt8)} (hp : pre <+: xs) (h : (cleanF pre).2 ≠ 0) : cleanF xs = cleanF pre := by
  obtain ⟨r, rfl⟩ := hp
  show (pre ++ r).foldl cleanStep ([], 0) = _
  rw [List.foldl_append]
  exact cleanStep_stuck _ h r

theorem cleanStep_dot {st : List (List UInt8) × Nat} {x : List UInt8} (h : st.2 = 0) (hx : x = [] ∨ x = [46]) : cleanStep st x = st := by simp [cleanStep, h, hx]
theorem cleanStep_up {st : List (List UInt8) × Nat} (h : st.2 = 0) (hk : st.1 ≠ []) : cleanStep st [46, 46] = (st.1.dropLast, 0) := by simp [cleanStep, h, hk]
theorem cleanStep_out {st : List (List UInt8) × Nat} (h : st.2 = 0) (hk : st.1 = []) : cleanStep st [46, 46] = ([], 10) := by simp [cleanStep, h, hk]
theorem cleanStep_part {st : List (List UInt8) × Nat} {x : List UInt8} (h : st.2 = 0) (h0 : x ≠ []) (h1 : x ≠ [46]) (h2 : x ≠ [46, 46]) (hx : isPart x = true) : cleanStep st x = (st.1 ++ [x], 0) := by simp [cleanStep, h, h0, h1, h2, hx]
theorem cleanStep_none {st : List (List UInt8) × Nat} {x : List UInt8} (h : st.2 = 0) (h0 : x ≠ []) (h1 : x ≠ [46]) (h2 : x ≠ [46, 46]) (hx : isPart x = false) : cleanStep st x = (st.1, 5) := by simp [cleanStep, h, h0, h1, h2, hx]

theorem cleanF_length : ∀ pre : List (List UInt8), (cleanF pre).1.length ≤ pre.length := by
  intro pre
  have h : ∀ (xs : List (List UInt8)) (st : List (List UInt8) × Nat), (xs.foldl cleanStep st).1.length ≤ st.1.length + xs.length := by
    intro xs
    induction xs with
    | nil => intro st; simp
    | cons x xs ih =>
      intro st
      have h1 : (cleanStep st x).1.length ≤ st.1.length + 1 := by
        unfold cleanStep
        split
        · omega
        · split
          · omega
          · split
            · split <;> simp <;> omega
            · split <;> simp
      have := ih (cleanStep st x)
      simp only [List.foldl_cons, List.length_cons]
      omega
  have := h pre ([], 0)
  simpa [cleanF] using this

theorem isPart_length {x : List UInt8} (h : isPart x = true) : x.length ≤ 12 := by
  simp [isPart] at h
  exact h.1.1.1.2

theorem cleanStep_parts {st : List (List UInt8) × Nat} (h : ∀ x ∈ st.1, isPart x = true) (y : List UInt8) : ∀ x ∈ (cleanStep st y).1, isPart x = true := by
  unfold cleanStep
  split
  · exact h
  · split
    · exact h
    · split
      · split
        · exact h
        · intro x hx
          exact h x ((List.dropLast_sublist _).subset hx)
      · split
        · rename_i hy
          intro x hx
          rcases List.mem_append.1 hx with hx | hx
          · exact h x hx
          · simp at hx; subst hx; exact hy
        · exact h

theorem cleanF_parts (xs : List (List UInt8)) : ∀ x ∈ (cleanF xs).1, isPart x = true := by
  have h : ∀ (xs : List (List UInt8)) (st : List (List UInt8) × Nat), (∀ x ∈ st.1, isPart x = true) → ∀ x ∈ (xs.foldl cleanStep st).1, isPart x = true := by
    intro xs
    induction xs with
    | nil => intro st h; exact h
    | cons y ys ih => intro st h; exact ih _ (cleanStep_parts h y)
  exact h xs ([], 0) (by simp)

theorem joinTail_length {M : Nat} : ∀ {k : List (List UInt8)}, (∀ x ∈ k, x.length ≤ M) → (Lib.joinTail [47] k).length ≤ (M + 1) * k.length
  | [], _ => by simp [Lib.joinTail]
  | x :: k, h => by
    have h1 := h x List.mem_cons_self
    have h2 := joinTail_length (k := k) (fun y hy => h y (List.mem_cons_of_mem _ hy))
    have e : Lib.joinTail [47] (x :: k) = 47 :: x ++ Lib.joinTail [47] k := by simp [Lib.joinTail]
    rw [e, List.length_append, List.length_cons, List.length_cons, Nat.mul_add]
    omega

theorem join_length {M : Nat} {k : List (List UInt8)} (h : ∀ x ∈ k, x.length ≤ M) : (Lib.join k [47]).length ≤ (M + 1) * k.length := by
  cases k with
  | nil => simp [Lib.join_nil]
  | cons x k =>
    have h1 := h x List.mem_cons_self
    have h2 := joinTail_length (k := k) (fun y hy => h y (List.mem_cons_of_mem _ hy))
    rw [Lib.join_cons, List.length_append, List.length_cons, Nat.mul_add]
    omega

/-- What cleaning a text tells: the text, and the number of an error (0: none). -/
def cleanL (l : List UInt8) : List UInt8 × Nat :=
  if l.head? = some 47 then ([], 3)
  else if (cleanF (pieces l)).2 ≠ 0 then ([], (cleanF (pieces l)).2)
  else if 6 < (cleanF (pieces l)).1.length then ([], 8)
  else (Lib.join (cleanF (pieces l)).1 [47], 0)

/-- What stripping the first parts of a text tells: the text, and the number of an error (0: none). -/
def stripL (s : List UInt8) (n : Int) : List UInt8 × Nat :=
  if checkCode s ≠ 0 then ([], checkCode s)
  else if n < 0 then ([], 2)
  else if ((pieces s).length : Int) ≤ n then ([], 3)
  else (Lib.join ((pieces s).drop n.toNat) [47], 0)

end Go.Proofs.YtmeipangcgdinaaGreatDoor
/-
  What is clean stays so and is never outside; what is joined to a place is in it: facts on the plain functions of paths. No Go text is spoken of here.
-/
namespace Go.Proofs.YtmeipangcgdinaaGreatDoor

theorem pieces_app : ∀ (a b : List UInt8), pieces (a ++ 47 :: b) = pieces a ++ pieces b
  | [], b => by simp [pieces]
  | c :: r, b => by
    have ih := pieces_app r b
    by_cases hc : c = 47
    · simp [pieces, hc, ih]
    · have hne := pieces_ne r
      obtain ⟨p, ps, hp⟩ := List.exists_cons_of_ne_nil hne
      simp [pieces, hc, ih, hp]

theorem isPart_noSlash {x : List UInt8} (h : isPart x = true) : 47 ∉ x := by
  intro hx
  simp [isPart] at h
  have := h.2 47 hx
  exact absurd this (by decide)

theorem isPart_ne {x : List UInt8} (h : isPart x = true) : x ≠ [] ∧ x ≠ [46] ∧ x ≠ [46, 46] := by
  simp [isPart] at h
  exact ⟨h.1.1.1.1, h.1.1.2, h.1.2⟩

theorem pieces_part {x : List UInt8} (h : 47 ∉ x) : pieces x = [x] := pieces_none (cutL_no h)

theorem join_two (x : List UInt8) {ks : List (List UInt8)} (h : ks ≠ []) : Lib.join (x :: ks) [47] = x ++ 47 :: Lib.join ks [47] := by
  obtain ⟨y, r, rfl⟩ := List.exists_cons_of_ne_nil h
  rw [Lib.join_cons, Lib.join_cons]
  simp [Lib.joinTail]

theorem pieces_join : ∀ {ks : List (List UInt8)}, ks ≠ [] → (∀ x ∈ ks, isPart x = true) → pieces (Lib.join ks [47]) = ks
  | [], h, _ => absurd rfl h
  | [x], _, h => by rw [Lib.join_one]; exact pieces_part (isPart_noSlash (h x (by simp)))
  | x :: y :: r, _, h => by
    rw [join_two x (by simp), pieces_app, pieces_part (isPart_noSlash (h x (by simp))), pieces_join (ks := y :: r) (by simp) (fun z hz => h z (List.mem_cons_of_mem _ hz))]
    rfl

theorem join_pieces : ∀ l : List UInt8, Lib.join (pieces l) [47] = l
  | [] => by simp [pieces, Lib.join_one]
  | c :: r => by
    have ih := join_pieces r
    have hne := pieces_ne r
    obtain ⟨p, ps, hp⟩ := List.exists_cons_of_ne_nil hne
    by_cases hc : c = 47
    · subst hc
      have e : pieces (47 :: r) = [] :: pieces r := by simp [pieces]
      rw [e, join_two [] hne, ih]; rfl
    · have e : pieces (c :: r) = (c :: p) :: ps := by simp [pieces, hc, hp]
      rw [e, Lib.join_cons]
      rw [hp, Lib.join_cons] at ih
      rw [List.cons_append, ih]

theorem join_app : ∀ {a b : List (List UInt8)}, a ≠ [] → b ≠ [] → Lib.join (a ++ b) [47] = Lib.join a [47] ++ 47 :: Lib.join b [47]
  | [], _, h, _ => absurd rfl h
  | [x], b, _, hb => by rw [Lib.join_one]; exact join_two x hb
  | x :: y :: r, b, _, hb => by
    have ih := join_app (a := y :: r) (b := b) (by simp) hb
    have e1 : Lib.join (x :: (y :: r ++ b)) [47] = x ++ 47 :: Lib.join (y :: r ++ b) [47] := join_two x (by simp)
    rw [List.cons_append, e1, ih, join_two x (by simp)]
    simp

theorem cleanStep_lift (b k0 : List (List UInt8)) (x : List UInt8) (hc : (cleanStep (k0, 0) x).2 = 0) : cleanStep (b ++ k0, 0) x = (b ++ (cleanStep (k0, 0) x).1, 0) := by
  by_cases h1 : x = [] ∨ x = [46]
  · rw [cleanStep_dot (st := (k0, 0)) rfl h1, cleanStep_dot (st := (b ++ k0, 0)) rfl h1]
  by_cases h2 : x = [46, 46]
  · subst h2
    by_cases hk : k0 = []
    · rw [cleanStep_out (st := (k0, 0)) rfl hk] at hc
      cases hc
    · rw [cleanStep_up (st := (k0, 0)) rfl hk, cleanStep_up (st := (b ++ k0, 0)) rfl (by simp [hk])]
      simp only [List.dropLast_append_of_ne_nil hk]
  simp only [not_or] at h1
  by_cases hp : isPart x = true
  · rw [cleanStep_part (st := (k0, 0)) rfl h1.1 h1.2 h2 hp, cleanStep_part (st := (b ++ k0, 0)) rfl h1.1 h1.2 h2 hp]
    simp
  · rw [cleanStep_none (st := (k0, 0)) rfl h1.1 h1.2 h2 (by simpa using hp)] at hc
    cases hc

theorem foldl_lift (b : List (List UInt8)) : ∀ (xs k0 k : List (List UInt8)), xs.foldl cleanStep (k0, 0) = (k, 0) → xs.foldl cleanStep (b ++ k0, 0) = (b ++ k, 0)
  | [], k0, k, h => by simp at h; simp [h]
  | x :: xs, k0, k, h => by
    simp only [List.foldl_cons] at h ⊢
    by_cases hc : (cleanStep (k0, 0) x).2 = 0
    · rw [cleanStep_lift b k0 x hc]
      generalize cleanStep (k0, 0) x = st at h hc
      obtain ⟨k1, c1⟩ := st
      simp only at hc
      subst hc
      exact foldl_lift b xs _ k h
    · rw [cleanStep_stuck _ hc xs] at h
      rw [h] at hc
      exact absurd rfl hc

theorem cleanF_keep {ks : List (List UInt8)} (h : ∀ x ∈ ks, isPart x = true) : cleanF ks = (ks, 0) := by
  have : ∀ (ks k0 : List (List UInt8)), (∀ x ∈ ks, isPart x = true) → ks.foldl cleanStep (k0, 0) = (k0 ++ ks, 0) := by
    intro ks
    induction ks with
    | nil => intro k0 _; simp
    | cons x r ih =>
      intro k0 h
      have hx := h x List.mem_cons_self
      obtain ⟨h0, h1, h2⟩ := isPart_ne hx
      rw [List.foldl_cons, cleanStep_part (st := (k0, 0)) rfl h0 h1 h2 hx, ih _ (fun z hz => h z (List.mem_cons_of_mem _ hz))]
      simp
  have := this ks [] h
  simpa [cleanF] using this

theorem cleanF_app {xs ys kx ky : List (List UInt8)} (hx : cleanF xs = (kx, 0)) (hy : cleanF ys = (ky, 0)) : cleanF (xs ++ ys) = (kx ++ ky, 0) := by
  show (xs ++ ys).foldl cleanStep ([], 0) = _
  rw [List.foldl_append]
  have e : xs.foldl cleanStep ([], 0) = (kx, 0) := hx
  rw [e]
  have := foldl_lift kx ys [] ky hy
  simpa using this

/-- What a clean text is. -/
structure Clean (s c : List UInt8) (ks : List (List UInt8)) : Prop where
  head : s.head? ≠ some 47
  fold : cleanF (pieces s) = (ks, 0)
  parts : ∀ x ∈ ks, isPart x = true
  few : ks.length ≤ 6
  text : c = Lib.join ks [47]

theorem cleanL_ok {s c : List UInt8} (h : cleanL s = (c, 0)) : ∃ ks, Clean s c ks := by
  unfold cleanL at h
  split at h
  · cases h
  · rename_i hh
    split at h
    · rename_i hc
      simp at h
      exact absurd h.2 hc
    · rename_i hc
      split at h
      · cases h
      · rename_i hl
        simp at h hc
        refine ⟨(cleanF (pieces s)).1, hh, ?_, cleanF_parts _, by omega, h.symm⟩
        rw [← hc]

theorem cleanL_of {s c : List UInt8} {ks : List (List UInt8)} (h : Clean s c ks) : cleanL s = (c, 0) := by
  unfold cleanL
  rw [if_neg h.head, h.fold]
  have := h.few
  simp [h.text, show ¬ 6 < ks.length by omega]

theorem cleanL_bad {s c : List UInt8} {k : Nat} (h : cleanL s = (c, k + 1)) : c = [] := by
  unfold cleanL at h
  split at h
  · simp at h; exact h.1
  · split at h
    · simp at h; exact h.1
    · split at h
      · simp at h; exact h.1
      · simp at h

theorem head_join {ks : List (List UInt8)} (h : ∀ x ∈ ks, isPart x = true) : (Lib.join ks [47]).head? ≠ some 47 := by
  cases ks with
  | nil => simp [Lib.join_nil]
  | cons x r =>
    have hx := h x List.mem_cons_self
    obtain ⟨c, y, rfl⟩ := List.exists_cons_of_ne_nil (isPart_ne hx).1
    rw [Lib.join_cons]
    intro e
    simp at e
    exact isPart_noSlash hx (by rw [e]; exact List.mem_cons_self)

theorem join_eq_nil {ks : List (List UInt8)} (h : ∀ x ∈ ks, isPart x = true) (e : Lib.join ks [47] = []) : ks = [] := by
  cases ks with
  | nil => rfl
  | cons x r =>
    have hx := h x List.mem_cons_self
    rw [Lib.join_cons] at e
    simp at e
    exact absurd e.1 (isPart_ne hx).1

/-- What is clean stays so. -/
theorem clean_again {s c : List UInt8} {ks : List (List UInt8)} (h : Clean s c ks) : Clean c c ks := by
  refine ⟨by rw [h.text]; exact head_join h.parts, ?_, h.parts, h.few, h.text⟩
  by_cases hk : ks = []
  · subst hk
    rw [h.text, Lib.join_nil]
    decide
  · rw [h.text, pieces_join hk h.parts, cleanF_keep h.parts]

theorem checkCode_zero {l : List UInt8} : checkCode l = 0 ↔ (∀ x ∈ pieces l, isPart x = true) ∧ (pieces l).length ≤ 6 := by
  unfold checkCode
  split
  · rename_i h
    rw [List.all_eq_true] at h
    split
    · rename_i hl
      simp; intro _; omega
    · rename_i hl
      simp; exact ⟨h, by omega⟩
  · rename_i h
    simp only [List.all_eq_true] at h
    simp
    intro h'
    exact absurd h' h

theorem clean_checked {s c : List UInt8} {ks : List (List UInt8)} (h : Clean s c ks) (hc : c ≠ []) : pieces c = ks ∧ ks ≠ [] := by
  have hk : ks ≠ [] := fun e => hc (by rw [h.text, e, Lib.join_nil])
  exact ⟨by rw [h.text]; exact pieces_join hk h.parts, hk⟩

theorem clean_path {s c : List UInt8} {ks : List (List UInt8)} (h : Clean s c ks) (hc : c ≠ []) : checkCode c = 0 := by
  obtain ⟨e, _⟩ := clean_checked h hc
  rw [checkCode_zero, e]
  exact ⟨h.parts, h.few⟩

/-- No piece of what is clean leads anywhere else. -/
theorem clean_inside {s c : List UInt8} {ks : List (List UInt8)} (h : Clean s c ks) : ∀ x ∈ pieces c, x ≠ [46] ∧ x ≠ [46, 46] ∧ (c ≠ [] → x ≠ []) := by
  by_cases hc : c = []
  · subst hc
    intro x hx
    simp [pieces] at hx
    subst hx
    exact ⟨by simp, by simp, fun h => absurd rfl h⟩
  · obtain ⟨e, _⟩ := clean_checked h hc
    intro x hx
    rw [e] at hx
    obtain ⟨h0, h1, h2⟩ := isPart_ne (h.parts x hx)
    exact ⟨h1, h2, fun _ => h0⟩

theorem path_ne {d : List UInt8} (h : checkCode d = 0) : d ≠ [] := by
  intro e
  subst e
  exact absurd h (by decide)

/-- What is joined to a place. -/
theorem join_below {d s c : List UInt8} {ks : List (List UInt8)} (hd : checkCode d = 0) (h : Clean s c ks) (hc : c ≠ []) :
    cleanL (d ++ 47 :: s) = if 6 < (pieces d).length + ks.length then ([], 8) else (d ++ 47 :: c, 0) := by
  obtain ⟨hdp, hdl⟩ := checkCode_zero.1 hd
  obtain ⟨_, hk⟩ := clean_checked h hc
  have hf : cleanF (pieces (d ++ 47 :: s)) = (pieces d ++ ks, 0) := by
    rw [pieces_app]
    exact cleanF_app (cleanF_keep hdp) h.fold
  have hh : (d ++ 47 :: s).head? ≠ some 47 := by
    have := head_join hdp
    rw [join_pieces] at this
    obtain ⟨x, y, rfl⟩ := List.exists_cons_of_ne_nil (path_ne hd)
    simpa using this
  unfold cleanL
  rw [if_neg hh, hf]
  simp only [ne_eq, not_true_eq_false, if_false, List.length_append]
  split
  · rfl
  · rw [join_app (pieces_ne d) hk, join_pieces, ← h.text]

theorem joined_path {d s c : List UInt8} {ks : List (List UInt8)} (hd : checkCode d = 0) (h : Clean s c ks) (hc : c ≠ []) (hl : (pieces d).length + ks.length ≤ 6) : checkCode (d ++ 47 :: c) = 0 := by
  obtain ⟨hdp, hdl⟩ := checkCode_zero.1 hd
  obtain ⟨e, hk⟩ := clean_checked h hc
  rw [checkCode_zero, pieces_app, e]
  refine ⟨fun x hx => ?_, by simpa using hl⟩
  rcases List.mem_append.1 hx with hx | hx
  · exact hdp x hx
  · exact h.parts x hx

theorem hasPrefix_app (a b : List UInt8) : Lib.hasPrefix (a ++ b) a = true := by
  simp [Lib.hasPrefix]

/-- Parts, each with a slash behind it. -/
def headL (ks : List (List UInt8)) : List UInt8 := (ks.map (· ++ [47])).flatten

theorem headL_snoc (ks : List (List UInt8)) (x : List UInt8) : headL (ks ++ [x]) = headL ks ++ x ++ [47] := by simp [headL]

theorem headL_join : ∀ {a b : List (List UInt8)}, b ≠ [] → headL a ++ Lib.join b [47] = Lib.join (a ++ b) [47]
  | [], b, _ => by simp [headL]
  | x :: a, b, hb => by
    have ih := headL_join (a := a) (b := b) hb
    have e : headL (x :: a) = x ++ 47 :: headL a := by simp [headL]
    rw [e, List.cons_append, join_two x (by simp [hb]), ← ih]
    simp

theorem headL_length {M : Nat} : ∀ {ks : List (List UInt8)}, (∀ x ∈ ks, x.length ≤ M) → (headL ks).length ≤ (M + 1) * ks.length
  | [], _ => by simp [headL]
  | x :: ks, h => by
    have h1 := h x List.mem_cons_self
    have h2 := headL_length (ks := ks) (fun y hy => h y (List.mem_cons_of_mem _ hy))
    have e : headL (x :: ks) = x ++ 47 :: headL ks := by simp [headL]
    rw [e, List.length_append, List.length_cons, List.length_cons, Nat.mul_add]
    omega

/-- What is left of a path is a path. -/
theorem rest_path {s : List UInt8} {n : Nat} (h : checkCode s = 0) (hn : n < (pieces s).length) : pieces (Lib.join ((pieces s).drop n) [47]) = (pieces s).drop n ∧ checkCode (Lib.join ((pieces s).drop n) [47]) = 0 := by
  obtain ⟨hp, hl⟩ := checkCode_zero.1 h
  have hne : (pieces s).drop n ≠ [] := by
    intro e
    have := congrArg List.length e
    rw [List.length_drop] at this
    simp at this
    omega
  have hp' : ∀ x ∈ (pieces s).drop n, isPart x = true := fun x hx => hp x (List.mem_of_mem_drop hx)
  have e := pieces_join hne hp'
  refine ⟨e, ?_⟩
  rw [checkCode_zero, e]
  exact ⟨hp', by rw [List.length_drop]; omega⟩

theorem strip_twice {s : List UInt8} {n m : Nat} (h : checkCode s = 0) (hn : n < (pieces s).length) : stripL (Lib.join ((pieces s).drop n) [47]) m = stripL s ((n : Int) + m) := by
  obtain ⟨e1, e2⟩ := rest_path h hn
  unfold stripL
  rw [e2, e1, h]
  simp only [ne_eq, not_true_eq_false, if_false]
  have e3 : ((n : Int) + m).toNat = n + m := by omega
  have n1 : ¬ (m : Int) < 0 := by omega
  have n2 : ¬ (n : Int) + m < 0 := by omega
  rw [if_neg n1, if_neg n2, List.length_drop, List.drop_drop, e3, Int.toNat_natCast]
  by_cases hl : (pieces s).length ≤ n + m
  · rw [if_pos (by omega), if_pos (by omega)]
  · rw [if_neg (by omega), if_neg (by omega)]

theorem strip_head {s : List UInt8} {n : Nat} (hn : n < (pieces s).length) : headL ((pieces s).take n) ++ Lib.join ((pieces s).drop n) [47] = s := by
  have hne : (pieces s).drop n ≠ [] := by
    intro e
    have := congrArg List.length e
    rw [List.length_drop] at this
    simp at this
    omega
  rw [headL_join hne, List.take_append_drop, join_pieces]
theorem isPart_short {x : List UInt8} (h : isPart x = true) : x.length ≤ 12 := by
  simp [isPart] at h
  omega
theorem join_short : ∀ ks : List (List UInt8), (∀ x ∈ ks, isPart x = true) → (Lib.join ks [47]).length ≤ 13 * ks.length
  | [], _ => by simp [Lib.join_nil]
  | [x], h => by
    have := isPart_short (h x (by simp))
    rw [Lib.join_one]; simp; omega
  | x :: y :: r, h => by
    have h1 := isPart_short (h x (by simp))
    have h2 := join_short (y :: r) fun z hz => h z (List.mem_cons_of_mem _ hz)
    rw [join_two x (by simp)]
    simp at h2 ⊢
    omega
theorem path_short {s : List UInt8} (h : checkCode s = 0) : s.length ≤ 78 := by
  obtain ⟨hp, hl⟩ := checkCode_zero.1 h
  have := join_short (pieces s) hp
  rw [join_pieces] at this
  omega
end Go.Proofs.YtmeipangcgdinaaGreatDoor
