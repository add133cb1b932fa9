/-
  The lines of a text, each with its end: plain functions over lists of bytes; the lines of a lock's text; each is read as it was written: no machine.
-/
import Derived.Test.YtmeipangcgdinaaGreatDoorPkLockSetPkLockText
namespace Go.Proofs.YtmeipangcgdinaaGreatDoor

/-- The lines of a text, with their ends. -/
def linesL : List UInt8 → List (List UInt8)
  | [] => []
  | c :: r => if c = 10 then [c] :: linesL r else match linesL r with
    | [] => [[c]]
    | x :: l => (c :: x) :: l
theorem lines_end (b : List UInt8) : ∀ {a : List UInt8}, 10 ∉ a → linesL (a ++ 10 :: b) = (a ++ [10]) :: linesL b
  | [], _ => by simp [linesL]
  | x :: a, h => by
    simp at h
    have ih := lines_end b h.2
    rw [show linesL (x :: a ++ 10 :: b) = if x = 10 then [x] :: linesL (a ++ 10 :: b) else match linesL (a ++ 10 :: b) with | [] => [[x]] | y :: l => (x :: y) :: l from rfl, if_neg (Ne.symm h.1), ih]
    rfl
theorem lines_last : ∀ {a : List UInt8}, 10 ∉ a → a ≠ [] → linesL a = [a]
  | [], _, h => absurd rfl h
  | x :: a, h, _ => by
    simp at h
    unfold linesL
    rw [if_neg (Ne.symm h.1)]
    by_cases ha : a = []
    · subst ha; rfl
    · rw [lines_last h.2 ha]
theorem lines_cut {t a b : List UInt8} (h : cutBy 10 t = some (a, b)) : linesL t = (a ++ [10]) :: linesL b := by
  obtain ⟨h1, h2⟩ := cutBy_some h
  rw [h1]
  exact lines_end b h2
theorem lines_rest {t : List UInt8} (h : cutBy 10 t = none) (ht : t ≠ []) : linesL t = [t] := lines_last (cutBy_no.1 h) ht

theorem part_has {s : List UInt8} (h : isPart s = true) : 10 ∉ s ∧ 32 ∉ s ∧ s ≠ [] := by
  have hb : ∀ c ∈ s, partByte c = true := by
    intro c hc
    simp only [isPart, Bool.and_eq_true, List.all_eq_true] at h
    exact h.2 c hc
  refine ⟨fun hm => absurd (hb _ hm) (by decide), fun hm => absurd (hb _ hm) (by decide), ?_⟩
  rintro rfl
  exact absurd h (by decide)
theorem linesK_lines : ∀ {l : List Wt}, (∀ x ∈ l, 10 ∉ textW x) → linesL (linesK l) = l.map fun x => textW x ++ [10]
  | [], _ => rfl
  | x :: l, h => by
    show linesL ((textW x ++ [10]) ++ linesK l) = _
    rw [List.append_assoc]
    show linesL (textW x ++ 10 :: linesK l) = _
    rw [lines_end _ (h x List.mem_cons_self), linesK_lines fun y hy => h y (List.mem_cons_of_mem _ hy)]
    rfl
theorem part_not {s : List UInt8} {c : UInt8} (h : isPart s = true) (hc : partByte c = false) : c ∉ s := fun hm => by
  simp only [isPart, Bool.and_eq_true, List.all_eq_true] at h
  have := h.2 c hm
  rw [hc] at this
  cases this
theorem link_not {s : List UInt8} {c : UInt8} (h : checkK s = 0) (hc : partByte c = false) (h1 : c ≠ 47) (h2 : c ≠ 58) : c ∉ s ∧ s ≠ [] := by
  rw [checkK_eq] at h
  cases hm : cutM s with
  | none => rw [link_no hm] at h; cases h
  | some kb =>
    obtain ⟨k, b⟩ := kb
    have hs := cutM_some hm
    cases hl : cutL b with
    | none => rw [link_end hm hl] at h; cases h
    | some xy =>
      obtain ⟨x, y⟩ := xy
      have hb := cutL_some hl
      cases hk : kindL k with
      | false => rw [link_kind hm hl hk] at h; cases h
      | true =>
        cases hx : isPart x with
        | false => rw [link_host hm hl hk hx] at h; cases h
        | true =>
          rw [link_ok hm hl hk hx] at h
          have hy : checkCode y = 0 := h
          have hck : c ∉ k := by
            have : k = [104, 116, 116, 112] ∨ k = [102, 116, 112] ∨ k = [102, 105, 108, 101] := by simpa [kindL, or_assoc] using hk
            intro hmem
            have hb : partByte c = true := by
              rcases this with rfl | rfl | rfl
              · exact (by decide : ∀ d ∈ ([104, 116, 116, 112] : List UInt8), partByte d = true) c hmem
              · exact (by decide : ∀ d ∈ ([102, 116, 112] : List UInt8), partByte d = true) c hmem
              · exact (by decide : ∀ d ∈ ([102, 105, 108, 101] : List UInt8), partByte d = true) c hmem
            rw [hc] at hb
            cases hb
          refine ⟨?_, by rw [hs]; simp⟩
          rw [hs, hb]
          simp only [List.mem_append, List.mem_cons, not_or]
          exact ⟨hck, h2, h1, h1, part_not hx hc, h1, path_not hy h1 hc⟩
theorem kind_not {k : List UInt8} {c : UInt8} (h : kindW k = true) (hc : partByte c = false) : c ∉ k ∧ k ≠ [] := by
  have hb : (∀ d ∈ k, partByte d = true) ∧ k ≠ [] := by
    rcases kind_cases h with rfl | rfl | rfl
    · exact ⟨by decide, by decide⟩
    · exact ⟨by decide, by decide⟩
    · exact ⟨by decide, by decide⟩
  refine ⟨fun hm => ?_, hb.2⟩
  have := hb.1 c hm
  rw [hc] at this
  cases this
theorem words_not {x : Wt} (h : wantCode x = 0) {c : UInt8} (hc : partByte c = false) (h1 : c ≠ 47) (h2 : c ≠ 58) : ∀ y ∈ wordsW x, c ∉ y ∧ y ≠ [] := by
  obtain ⟨z1, z2, z3, z4, _, z6⟩ := want_zero h
  have hdig : c.toNat < 48 ∨ 57 < c.toNat := by
    by_cases h48 : c.toNat < 48
    · exact .inl h48
    · by_cases h57 : 57 < c.toNat
      · exact .inr h57
      · exfalso
        have e1 : (48 : UInt8) ≤ c := UInt8.le_iff_toNat_le.2 (show 48 ≤ c.toNat by omega)
        have e2 : c ≤ (57 : UInt8) := UInt8.le_iff_toNat_le.2 (show c.toNat ≤ 57 by omega)
        simp [partByte, e1, e2] at hc
  have hd : ∀ n : Nat, c ∉ digitsL n := fun n => digit_not hdig
  intro y hy
  simp only [wordsW, List.mem_cons, List.not_mem_nil, or_false] at hy
  rcases hy with rfl | rfl | rfl | rfl | rfl
  · exact ⟨part_not z1 hc, (part_has z1).2.2⟩
  · exact link_not z2 hc h1 h2
  · exact kind_not z3 hc
  · exact ⟨hd _, List.length_pos_iff.1 (digits_pos _)⟩
  · rw [text_is z6]
    refine ⟨fun hm => ?_, by simp⟩
    rcases List.mem_cons.1 hm with rfl | hm
    · exact absurd hc (by decide)
    · exact hd _ hm
theorem join_five' (a b c d e : List UInt8) : Lib.join [a, b, c, d, e] [32] = a ++ 32 :: (b ++ 32 :: (c ++ 32 :: (d ++ 32 :: e))) := by simp [Lib.join]
/-- No line ends within the text of a want. -/
theorem text_line {x : Wt} (h : wantCode x = 0) : 10 ∉ textW x := by
  have hw := words_not h (c := 10) (by decide) (by decide) (by decide)
  rw [textW_yes h]
  unfold wordsW at hw ⊢
  rw [join_five']
  simp only [List.mem_append, List.mem_cons, not_or]
  exact ⟨(hw x.n (by simp)).1, by decide, (hw x.u (by simp)).1, by decide, (hw x.k (by simp)).1, by decide, (hw _ (by simp)).1, by decide, (hw _ (by simp)).1⟩
/-- A want is read as it was written. -/
theorem read_want {x : Wt} (h : wantCode x = 0) : readW (textW x) = (x, 0) := by
  obtain ⟨z1, z2, z3, z4, _, z6⟩ := want_zero h
  have hw := words_not h (c := 32) (by decide) (by decide) (by decide)
  have hp : piecesBy 32 (textW x) = wordsW x := by
    rw [textW_yes h]
    unfold wordsW at hw ⊢
    rw [join_five', piecesBy_some _ (hw x.n (by simp)).1, piecesBy_some _ (hw x.u (by simp)).1, piecesBy_some _ (hw x.k (by simp)).1, piecesBy_some _ (hw _ (by simp)).1, piecesBy_none (hw _ (by simp)).1]
  have hd : digitsL x.s.toNat = [UInt8.ofNat (48 + x.s.toNat)] := digits_small (by omega)
  have hv : valueW (digitsL x.s.toNat) = x.s := by
    rw [hd]
    unfold valueW
    show (((UInt8.ofNat (48 + x.s.toNat)).toNat : Nat) : Int) - 48 = x.s
    rw [digit_toNat (by omega)]
    omega
  have hg : digitW (digitsL x.s.toNat) = true := by
    unfold digitW
    rw [digits_digit, hd]
    rfl
  have hf : fiveW x.n x.u x.k (digitsL x.s.toNat) (textS x.m) = x := by
    unfold fiveW
    rw [hv, read_text z6]
  have hne : ¬ (x.n = [] ∨ x.u = [] ∨ x.k = [] ∨ digitsL x.s.toNat = [] ∨ textS x.m = []) := by
    unfold wordsW at hw
    simp only [not_or]
    exact ⟨(hw x.n (by simp)).2, (hw x.u (by simp)).2, (hw x.k (by simp)).2, (hw _ (by simp)).2, (hw _ (by simp)).2⟩
  rw [readW_five (hp.trans rfl), hf, read_text z6, hg, if_neg, if_neg]
  · omega
  · rintro (h' | h' | h')
    · exact hne h'
    · cases h'
    · exact h' rfl
/-- What the lines of a lock's text are. -/
theorem lock_lines {l : List Wt} (h : Lock l) : linesL (linesK l) = l.map fun x => textW x ++ [10] := linesK_lines fun x hx => text_line (h.right x hx)
end Go.Proofs.YtmeipangcgdinaaGreatDoor
