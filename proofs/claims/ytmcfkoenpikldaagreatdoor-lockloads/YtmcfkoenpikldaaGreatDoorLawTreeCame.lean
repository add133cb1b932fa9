/-
  Own texts of the proof, joined by program: LawTree, Came.
-/
import Derived.Test.YtmcfkoenpikldaaGreatDoorTreeMemTreeSlotsTreeErrTreeOwn
import Derived.Test.YtmcfkoenpikldaaGreatDoorTreePureTreeSortTreeFactsTreeInsertTreeAt
/-
  The law package's LongFiles and OwnFiles: over this seat's translation.
-/
namespace Go.Proofs.YtmcfkoenpikldaaGreatDoor
open Go.RowKit Go.Shelf

def longF (f : F) : Bool := decide (100 < f.p.length) || (decide (200 < f.t.length) && !decide (f.t.length = 4000) && !decide (f.t.length = 4001))
def longL (l : List F) : Nat := if 25 < l.length ∧ l.length ≠ 31 then 1 else if l.any longF then 1 else 0

theorem longL_zero {l : List F} (h : longL l = 0) : (l.length ≤ 25 ∨ l.length = 31) ∧ ∀ f ∈ l, f.p.length ≤ 100 ∧ (f.t.length ≤ 200 ∨ f.t.length = 4000 ∨ f.t.length = 4001) := by
  unfold longL at h
  by_cases h1 : 25 < l.length ∧ l.length ≠ 31
  · rw [if_pos h1] at h; cases h
  · rw [if_neg h1] at h
    by_cases h2 : l.any longF = true
    · rw [if_pos h2] at h; cases h
    · refine ⟨by omega, fun f hf => ?_⟩
      have : longF f = false := by
        cases hl : longF f with
        | false => rfl
        | true => exact absurd (List.any_eq_true.2 ⟨f, hf, hl⟩) h2
      simp [longF] at this
      omega

set_option maxRecDepth 100000 in
set_option maxHeartbeats 4000000 in
theorem longFiles_same (l : List F) (a : Option Addr) (ca : Nat) (w : World) (hl : LiesAt w a l) (hm : l.length ≤ maxLen) (hp : ∀ f ∈ l, f.p.length ≤ maxLen ∧ f.t.length ≤ maxLen) :
    Calls Tryz.prog 102 #[.slice a l.length ca] w fun e w' => e = .returned (.int .i64 (longL l)) ∧ w' = w := by
  unfold maxLen at hm hp
  by_cases hmany : 25 < l.length ∧ l.length ≠ 31
  · have HF : Hid (longL l = 1) := by show longL l = 1; simp [longL, hmany]
    have h1 : (25 : Int) < (l.length : Int) := by omega
    have h2 : ((l.length : Int) != 31) = true := by simp; omega
    clear hl hp
    go_enter Tryz.func102, Tryz.ntmps102
    go_wp2
    go_ret
    exact ⟨by rw [HF.out]; rfl, rfl⟩
  · have HL : Hid (LiesAt w a l) := hl
    have HP : Hid (∀ f ∈ l, f.p.length ≤ 9223372036854775807 ∧ f.t.length ≤ 9223372036854775807) := hp
    clear hl hp
    have hsmall : l.length ≤ 31 := by omega
    have HM : Hid (¬ (25 < l.length ∧ l.length ≠ 31)) := hmany
    rcases (show l.length ≤ 25 ∨ l.length = 31 by omega) with hd | hd
    · have hd1 : ¬ (25 : Int) < (l.length : Int) := by omega
      clear hmany
      go_enter Tryz.func102, Tryz.ntmps102
      go_wp2_with fail
      go_loopw [3] (fun i wr => ∃ q : Nat, q ≤ l.length ∧ i = .int .i64 q ∧ (l.take q).any longF = false ∧ wr = w) (fun i _ => l.length - (intOf i).toNat)
      case atStart => exact ⟨0, by omega, rfl, by simp, rfl⟩
      case round =>
        obtain ⟨q, hq, rfl, hno, hb⟩ := hrel
        subst hb
        have HNO : Hid ((l.take q).any longF = false) := hno
        clear hno
        by_cases hlt : q < l.length
        · have hlt' : (q : Int) < (l.length : Int) := by omega
          obtain ⟨b, o, rfl, c0, c1, c2⟩ := HL.out.at hlt
          obtain ⟨hpl, htl⟩ := HP.out _ (List.getElem_mem hlt)
          cases hf : longF l[q] with
          | true =>
            have HF : Hid (longL l = 1) := by
              show longL l = 1
              unfold longL
              rw [if_neg HM.out, if_pos (List.any_eq_true.2 ⟨_, List.getElem_mem hlt, hf⟩)]
            generalize l[q] = f at c0 c1 c2 hpl htl hf
            simp only [longF, Bool.or_eq_true, Bool.and_eq_true, Bool.not_eq_true', decide_eq_true_eq, decide_eq_false_iff_not] at hf
            by_cases hp1 : 100 < f.p.length
            · have hp1' : (100 : Int) < (f.p.length : Int) := by omega
              clear hf hp1
              go_wp2
              go_ret
              exact ⟨by rw [HF.out]; rfl, rfl⟩
            · have hp1' : decide ((100 : Int) < (f.p.length : Int)) = false := by simp; omega
              have ht1 : (200 : Int) < (f.t.length : Int) := by omega
              have ht2 : ((f.t.length : Int) != 4000) = true := by simp; omega
              have ht3 : ((f.t.length : Int) != 4001) = true := by simp; omega
              clear hf hp1
              go_wp2
              go_ret
              exact ⟨by rw [HF.out]; rfl, rfl⟩
          | false =>
            have HN : Hid ((l.take (q + 1)).any longF = false) := by
              show List.any _ _ = false
              rw [List.take_succ_eq_append_getElem hlt, List.any_append, HNO.out]
              simp only [List.any_cons, List.any_nil, hf, Bool.or_false]
            generalize l[q] = f at c0 c1 c2 hpl htl hf
            simp only [longF, Bool.or_eq_false_iff, Bool.and_eq_false_iff, Bool.not_eq_false', decide_eq_true_eq, decide_eq_false_iff_not] at hf
            have hp1' : decide ((100 : Int) < (f.p.length : Int)) = false := by simp; omega
            by_cases ht : 200 < f.t.length
            · have ht1 : (200 : Int) < (f.t.length : Int) := by omega
              by_cases h4 : f.t.length = 4000
              · have ht2 : ((f.t.length : Int) != 4000) = false := by simp; omega
                clear hf ht h4
                go_wp2
                go_roundw
                case rel => exact ⟨q + 1, by omega, by go_num, HN.out, trivial⟩
                case measure => simp [intOf]; omega
              · have ht2 : ((f.t.length : Int) != 4000) = true := by simp; omega
                have ht3 : ((f.t.length : Int) != 4001) = false := by simp; omega
                clear hf ht h4
                go_wp2
                go_roundw
                case rel => exact ⟨q + 1, by omega, by go_num, HN.out, trivial⟩
                case measure => simp [intOf]; omega
            · have ht1 : decide ((200 : Int) < (f.t.length : Int)) = false := by simp; omega
              clear hf ht
              go_wp2
              go_roundw
              case rel => exact ⟨q + 1, by omega, by go_num, HN.out, trivial⟩
              case measure => simp [intOf]; omega
        · obtain rfl : q = l.length := by omega
          have HF : Hid (longL l = 0) := by
            show longL l = 0
            have := HNO.out
            rw [List.take_length] at this
            unfold longL
            rw [if_neg HM.out, if_neg (by simp [this])]
          go_wp2
          go_ret
          exact ⟨by rw [HF.out]; rfl, rfl⟩
    · have hd1 : (25 : Int) < (l.length : Int) := by omega
      have hd2 : ((l.length : Int) != 31) = false := by simp; omega
      clear hmany hd
      go_enter Tryz.func102, Tryz.ntmps102
      go_wp2_with fail
      go_loopw [3] (fun i wr => ∃ q : Nat, q ≤ l.length ∧ i = .int .i64 q ∧ (l.take q).any longF = false ∧ wr = w) (fun i _ => l.length - (intOf i).toNat)
      case atStart => exact ⟨0, by omega, rfl, by simp, rfl⟩
      case round =>
        obtain ⟨q, hq, rfl, hno, hb⟩ := hrel
        subst hb
        have HNO : Hid ((l.take q).any longF = false) := hno
        clear hno
        by_cases hlt : q < l.length
        · have hlt' : (q : Int) < (l.length : Int) := by omega
          obtain ⟨b, o, rfl, c0, c1, c2⟩ := HL.out.at hlt
          obtain ⟨hpl, htl⟩ := HP.out _ (List.getElem_mem hlt)
          cases hf : longF l[q] with
          | true =>
            have HF : Hid (longL l = 1) := by
              show longL l = 1
              unfold longL
              rw [if_neg HM.out, if_pos (List.any_eq_true.2 ⟨_, List.getElem_mem hlt, hf⟩)]
            generalize l[q] = f at c0 c1 c2 hpl htl hf
            simp only [longF, Bool.or_eq_true, Bool.and_eq_true, Bool.not_eq_true', decide_eq_true_eq, decide_eq_false_iff_not] at hf
            by_cases hp1 : 100 < f.p.length
            · have hp1' : (100 : Int) < (f.p.length : Int) := by omega
              clear hf hp1
              go_wp2
              go_ret
              exact ⟨by rw [HF.out]; rfl, rfl⟩
            · have hp1' : decide ((100 : Int) < (f.p.length : Int)) = false := by simp; omega
              have ht1 : (200 : Int) < (f.t.length : Int) := by omega
              have ht2 : ((f.t.length : Int) != 4000) = true := by simp; omega
              have ht3 : ((f.t.length : Int) != 4001) = true := by simp; omega
              clear hf hp1
              go_wp2
              go_ret
              exact ⟨by rw [HF.out]; rfl, rfl⟩
          | false =>
            have HN : Hid ((l.take (q + 1)).any longF = false) := by
              show List.any _ _ = false
              rw [List.take_succ_eq_append_getElem hlt, List.any_append, HNO.out]
              simp only [List.any_cons, List.any_nil, hf, Bool.or_false]
            generalize l[q] = f at c0 c1 c2 hpl htl hf
            simp only [longF, Bool.or_eq_false_iff, Bool.and_eq_false_iff, Bool.not_eq_false', decide_eq_true_eq, decide_eq_false_iff_not] at hf
            have hp1' : decide ((100 : Int) < (f.p.length : Int)) = false := by simp; omega
            by_cases ht : 200 < f.t.length
            · have ht1 : (200 : Int) < (f.t.length : Int) := by omega
              by_cases h4 : f.t.length = 4000
              · have ht2 : ((f.t.length : Int) != 4000) = false := by simp; omega
                clear hf ht h4
                go_wp2
                go_roundw
                case rel => exact ⟨q + 1, by omega, by go_num, HN.out, trivial⟩
                case measure => simp [intOf]; omega
              · have ht2 : ((f.t.length : Int) != 4000) = true := by simp; omega
                have ht3 : ((f.t.length : Int) != 4001) = false := by simp; omega
                clear hf ht h4
                go_wp2
                go_roundw
                case rel => exact ⟨q + 1, by omega, by go_num, HN.out, trivial⟩
                case measure => simp [intOf]; omega
            · have ht1 : decide ((200 : Int) < (f.t.length : Int)) = false := by simp; omega
              clear hf ht
              go_wp2
              go_roundw
              case rel => exact ⟨q + 1, by omega, by go_num, HN.out, trivial⟩
              case measure => simp [intOf]; omega
        · obtain rfl : q = l.length := by omega
          have HF : Hid (longL l = 0) := by
            show longL l = 0
            have := HNO.out
            rw [List.take_length] at this
            unfold longL
            rw [if_neg HM.out, if_neg (by simp [this])]
          go_wp2
          go_ret
          exact ⟨by rw [HF.out]; rfl, rfl⟩

theorem longFiles_any (l : List F) (a : Option Addr) (ca : Nat) (w : World) (hl : LiesAt w a l) (hm : l.length ≤ maxLen) (hp : ∀ f ∈ l, f.p.length ≤ maxLen ∧ f.t.length ≤ maxLen) :
    Calls Tryz.prog 102 #[.slice a l.length ca] w fun e w' => e = .returned (.int .i64 (longL l)) ∧ Below w.heap.size w w' :=
  (longFiles_same l a ca w hl hm hp).mono fun _ _ ⟨h, h'⟩ => ⟨h, by rw [h']; exact Below.refl _ _⟩

/-- The cells of files that lie from an address on. -/
theorem LiesAt.news {w : World} {ad : Addr} {l : List F} (h : LiesAt w (some ad) l) : ∀ j u, (lcells l)[j]? = some u → w.cell? (ad.add j) = some u := by
  intro j u hj
  have hjl : j < (lcells l).length := (List.getElem?_eq_some_iff.1 hj).1
  rw [lcells_length] at hjl
  have hk : j / 3 < l.length := by omega
  obtain ⟨b, o, e, c0, c1, c2⟩ := h.at hk
  cases e
  have ej : j = j / 3 * 3 + j % 3 := by omega
  have hm : j % 3 < 3 := Nat.mod_lt _ (by decide)
  rw [ej, lcells_at l (j / 3) hk (j % 3) hm] at hj
  have ha : (⟨b, o, none⟩ : Addr).add j = ⟨b, o + j, none⟩ := by
    unfold Addr.add
    by_cases hz : j = 0
    · simp [hz]
    · simp [hz]
  rw [ha]
  have hoj : o + j = o + j / 3 * 3 + j % 3 := by omega
  rw [hoj]
  rcases (show j % 3 = 0 ∨ j % 3 = 1 ∨ j % 3 = 2 by omega) with hr | hr | hr
  · rw [hr] at hj ⊢; exact c0.trans hj
  · rw [hr] at hj ⊢; exact c1.trans hj
  · rw [hr] at hj ⊢; exact c2.trans hj

theorem lcells_one (l : List F) : ∀ u ∈ lcells l, u.oneCell' = true := by
  intro u hu
  simp only [lcells, List.mem_flatMap] at hu
  obtain ⟨f, _, hf⟩ := hu
  simp only [fcells, List.mem_cons, List.not_mem_nil, or_false] at hf
  rcases hf with rfl | rfl | rfl <;> rfl

theorem ownFiles_any (l : List F) (a : Option Addr) (ca : Nat) (w : World) (hl : LiesAt w a l) (hn : a = none → ca = 0 ∧ l = []) (hm : l.length ≤ 100000) :
    Calls Tryz.prog 114 #[.slice a l.length ca] w fun e w' => (∃ v, e = .returned v ∧ w'.ownsRow w.heap.size 103 3 v l.length (lcells l)) ∧ Below w.heap.size w w' := by
  obtain ⟨i0, hi, hz0, hz1, hz2⟩ := info_parts Tryz.infoFile
  cases a with
  | none =>
    obtain ⟨rfl, rfl⟩ := hn rfl
    clear hl hn
    show Calls _ _ #[.slice none 0 0] _ _
    go_enter Tryz.func114, Tryz.ntmps114
    go_wp2
    go_ret
    exact ⟨⟨_, rfl, World.ownsRow_nil _ _ _ _⟩, Below.refl _ _⟩
  | some ad =>
    have HN := hl.news
    clear hl hn
    go_enter Tryz.func114, Tryz.ntmps114
    go_wp2_with (at_builtin; refine wpList_append_own _ rfl _ _ 43 rfl w.heap.size 103 i0 (.agg #[.string ⟨#[]⟩, .bool false, .string ⟨#[]⟩]) 3 40 Tryz.underlying43 hi hz0 hz1 hz2 rfl (by decide) (.slice none 0 0) 0 [] rfl (World.ownsRow_nil _ _ _ _) ad l.length ca (lcells l) rfl (lcells_length l) HN (lcells_one l) (by unfold maxLen; omega) (by omega) (by omega) ?_; intro v' w2 hown' hgrow _)
    go_ret
    exact ⟨⟨_, rfl, by simpa using hown'⟩, (Below.refl _ _).grown hgrow (Nat.le_refl _) (fun k e => by cases e)⟩
end Go.Proofs.YtmcfkoenpikldaaGreatDoor
/-
  Files that came in, as an argument: what a walk asks of them; those that are not too long are few and small: over this seat's translation.
-/
namespace Go.Proofs.YtmcfkoenpikldaaGreatDoor
open Go.RowKit Go.Shelf

theorem longL_or (l : List F) : (longL l : Int) = 0 ∨ (longL l : Int) = 1 := by
  unfold longL
  repeat' split
  all_goals simp

/-- What is asked of files that came in. -/
structure Came (w : World) (a : Option Addr) (ca : Nat) (l : List F) : Prop where
  lies : LiesAt w a l
  cap : l.length ≤ ca
  len : l.length ≤ maxLen
  texts : ∀ f ∈ l, f.p.length ≤ maxLen ∧ f.t.length ≤ maxLen
  nil : a = none → ca = 0 ∧ l = []

theorem Came.below {w w' : World} {a : Option Addr} {ca : Nat} {l : List F} (h : Came w a ca l) (hb : Below w.heap.size w w') : Came w' a ca l := ⟨h.lies.below hb, h.cap, h.len, h.texts, h.nil⟩

theorem long_is {w : World} {a : Option Addr} {ca : Nat} {l : List F} (h : Came w a ca l) (c : Int) (hc : (longL l : Int) = c) :
    Calls Tryz.prog 102 #[.slice a l.length ca] w fun e w' => e = .returned (.int .i64 c) ∧ w' = w := by
  have := longFiles_same l a ca w h.lies h.len h.texts
  rwa [hc] at this

theorem small_of_long {l : List F} (h : (longL l : Int) = 0) : Small l := by
  obtain ⟨h1, h2⟩ := longL_zero (l := l) (by omega)
  exact ⟨by omega, fun f hf => by have := (h2 f hf).1; omega, fun f hf => by have := (h2 f hf).2; omega⟩

theorem tree_small {l : List F} (h : (treeFault l).1 = 0) : Small l := by
  obtain ⟨g, hn, _⟩ := tree_good.1 h
  exact ⟨by omega, fun f hf => by have := path_short (g.right f hf).1; omega, fun f hf => by have := (g.right f hf).2; omega⟩

end Go.Proofs.YtmcfkoenpikldaaGreatDoor
