/-
  Facts on packs of right trees: no Go text is spoken of here.
-/
import Derived.Test.YtkcjgncpcidfoaaGreatDoorPackPure
namespace Go.Proofs.YtkcjgncpcidfoaaGreatDoor

theorem mem_pieces : ∀ {l : List UInt8} {b : UInt8}, b ∈ l → b ≠ 47 → ∃ x ∈ pieces l, b ∈ x
  | [], _, h, _ => by simp at h
  | c :: r, b, h, h47 => by
    by_cases hc : c = 47
    · have e : pieces (c :: r) = [] :: pieces r := by rw [pieces, if_pos hc]
      rw [e]
      rcases List.mem_cons.1 h with h | h
      · exact absurd (h.trans hc) h47
      · obtain ⟨x, hx, hb⟩ := mem_pieces h h47
        exact ⟨x, by simp [hx], hb⟩
    · cases hp : pieces r with
      | nil => exact absurd hp (pieces_ne r)
      | cons q qs =>
        have e : pieces (c :: r) = (c :: q) :: qs := by rw [pieces, if_neg hc, hp]
        rw [e]
        rcases List.mem_cons.1 h with h | h
        · exact ⟨c :: q, by simp, by simp [h]⟩
        · obtain ⟨x, hx, hb⟩ := mem_pieces h h47
          rw [hp] at hx
          rcases List.mem_cons.1 hx with hx | hx
          · exact ⟨c :: q, by simp, by rw [hx] at hb; simp [hb]⟩
          · exact ⟨x, by simp [hx], hb⟩
theorem path_not {s : List UInt8} {b : UInt8} (h : checkCode s = 0) (hb : b ≠ 47) (hp : partByte b = false) : b ∉ s := by
  intro hm
  obtain ⟨x, hx, hbx⟩ := mem_pieces hm hb
  have := (checkCode_zero.1 h).1 x hx
  unfold isPart at this
  simp only [Bool.and_eq_true] at this
  have := List.all_eq_true.1 this.2 b hbx
  rw [hp] at this
  cases this
theorem plain_right {f : F} (h : Right f) : Plain f := ⟨path_not h.1 (by decide) (by decide), path_not h.1 (by decide) (by decide), by have := h.2; omega⟩
theorem plain_tree {l : List F} (h : (treeFault l).1 = 0) : ∀ f ∈ l, Plain f := fun f hf => plain_right ((tree_good.1 h).1.right f hf)

theorem clean_itself {s : List UInt8} (h : checkCode s = 0) : cleanL s = (s, 0) := by
  obtain ⟨hp, hl⟩ := checkCode_zero.1 h
  refine cleanL_of (ks := pieces s) ⟨?_, cleanF_keep hp, hp, hl, (join_pieces s).symm⟩
  have := head_join hp
  rwa [join_pieces] at this

theorem pack_length {l : List F} (h : ∀ f ∈ l, Right f) : (packL l).length ≤ 88 * l.length + total l := by
  induction l with
  | nil => simp [packL]
  | cons f l ih =>
    have i := ih fun g hg => h g (by simp [hg])
    have a := path_short (h f (by simp)).1
    have b := (h f (by simp)).2
    have c := digits_length 3 f.t.length (by omega)
    have d := fileL_length f
    have t : total (f :: l) = f.t.length + total l := by simp [total]
    rw [packL_cons, List.length_append, List.length_cons, t]
    omega
theorem pack_small {l : List F} (h : (treeFault l).1 = 0) : (packL l).length ≤ 20000 := by
  obtain ⟨g, hn, ht⟩ := tree_good.1 h
  have := pack_length g.right
  omega

/-- What Read answers: files that are right, and a pack of them is the text; or an error, and none. -/
theorem readP_cases (s : List UInt8) : (∃ r, readP s = (r, 0, -1) ∧ packL r = s ∧ (treeFault r).1 = 0) ∨ ∃ c i, readP s = ([], c, i) ∧ c ≠ 0 := by
  by_cases hl : 20000 < s.length
  · exact .inr ⟨2, -1, readP_long hl, by decide⟩
  · have hl' : s.length ≤ 20000 := by omega
    cases h1 : (readA s).2 with
    | false => exact .inr ⟨1, _, readP_none hl' h1, by decide⟩
    | true =>
      by_cases h2 : (treeFault (readA s).1).1 = 0
      · exact .inl ⟨_, readP_fine hl' h1 h2, pack_readA _ s (Nat.le_refl _) h1, h2⟩
      · exact .inr ⟨_, _, readP_fault hl' h1 h2, h2⟩
theorem readP_pack {l : List F} (h : (treeFault l).1 = 0) : readP (packL l) = (l, 0, -1) := by
  have e := readA_pack (plain_tree h)
  have := readP_fine (s := packL l) (pack_small h) (by rw [e]) (by rw [e]; exact h)
  rw [this, e]
theorem readP_cut {l y : List F} {k : Nat} (h : (treeFault l).1 = 0) (hk : k < (packL l).length) (hy : readP ((packL l).take k) = (y, 0, -1)) : y.length < l.length ∧ y = l.take y.length := by
  have hs := pack_small h
  have hl : ((packL l).take k).length ≤ 20000 := by rw [List.length_take]; omega
  cases h1 : (readA ((packL l).take k)).2 with
  | false =>
    rw [readP_none hl h1] at hy
    cases hy
  | true =>
    by_cases h2 : (treeFault (readA ((packL l).take k)).1).1 = 0
    · rw [readP_fine hl h1 h2] at hy
      simp only [Prod.mk.injEq] at hy
      obtain ⟨rfl, _⟩ := hy
      exact readA_take (plain_tree h) hk h1
    · rw [readP_fault hl h1 h2] at hy
      simp only [Prod.mk.injEq] at hy
      exact absurd (by rw [hy.2]) h2
end Go.Proofs.YtkcjgncpcidfoaaGreatDoor
