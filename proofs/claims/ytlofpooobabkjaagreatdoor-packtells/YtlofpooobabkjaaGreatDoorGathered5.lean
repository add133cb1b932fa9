/-
  Own texts of the proof, gathered by program in their build order: LawTree, Came, LawPackTells, Opened, LaidErrs, LaidTexts, LaidPackTells.
-/
import Derived.Test.YtlofpooobabkjaaGreatDoorGathered3
import Derived.Test.YtlofpooobabkjaaGreatDoorGathered2
import Derived.Test.YtlofpooobabkjaaGreatDoorGathered4
import Derived.Deep.Slices
import Derived.OpenShut
import Derived.Carry
import Derived.Test.YtlofpooobabkjaaGreatDoorChecked
import Derived.ProofKit
import Derived.LaidMore
import Derived.LaidLaws
import Derived.LaidSub
import Derived.Stop.Joined
import Derived.LaidHandle
import Derived.Lib.LaidTab
import Derived.Test.YtlofpooobabkjaaGreatDoorRows
import Derived.Test.YtlofpooobabkjaaGreatDoorGathered1
import Derived.Lay
/-
  The law package's LongFiles and OwnFiles: over this seat's translation.
-/
namespace Go.Proofs.YtlofpooobabkjaaGreatDoor
open Go.RowKit Go.Shelf

def longF (f : F) : Bool := decide (100 < f.p.length) || (decide (200 < f.t.length) && !decide (f.t.length = 4000) && !decide (f.t.length = 4001))
def longL (l : List F) : Nat := if 25 < l.length ∧ l.length ≠ 31 then 1 else if l.any longF then 1 else 0

theorem longL_zero {l : List F} (h : longL l = 0) : (l.length ≤ 25 ∨ l.length = 31) ∧ ∀ f ∈ l, f.p.length ≤ 100 ∧ (f.t.length ≤ 200 ∨ f.t.length = 4000 ∨ f.t.length = 4001) := by
  unfold longL at h
  by_cases h1 : 25 < l.length ∧ l.length ≠ 31
  · rw [if_pos h1] at h; cases h
  · rw [if_neg h1] at h
    by_cases h2 : l.any longF = true
    · rw [if_pos h2] at h; cases h
    · refine ⟨by omega, fun f hf => ?_⟩
      have : longF f = false := by
        cases hl : longF f with
        | false => rfl
        | true => exact absurd (List.any_eq_true.2 ⟨f, hf, hl⟩) h2
      simp [longF] at this
      omega

set_option maxRecDepth 100000 in
set_option maxHeartbeats 4000000 in
theorem longFiles_same (l : List F) (a : Option Addr) (ca : Nat) (w : World) (hl : LiesAt w a l) (hm : l.length ≤ maxLen) (hp : ∀ f ∈ l, f.p.length ≤ maxLen ∧ f.t.length ≤ maxLen) :
    Calls Tryz.prog 5 #[.slice a l.length ca] w fun e w' => e = .returned (.int .i64 (longL l)) ∧ w' = w := by
  unfold maxLen at hm hp
  by_cases hmany : 25 < l.length ∧ l.length ≠ 31
  · have HF : Hid (longL l = 1) := by show longL l = 1; simp [longL, hmany]
    have h1 : (25 : Int) < (l.length : Int) := by omega
    have h2 : ((l.length : Int) != 31) = true := by simp; omega
    clear hl hp
    go_enter Tryz.func5, Tryz.ntmps5
    go_wp2
    go_ret
    exact ⟨by rw [HF.out]; rfl, rfl⟩
  · have HL : Hid (LiesAt w a l) := hl
    have HP : Hid (∀ f ∈ l, f.p.length ≤ 9223372036854775807 ∧ f.t.length ≤ 9223372036854775807) := hp
    clear hl hp
    have hsmall : l.length ≤ 31 := by omega
    have HM : Hid (¬ (25 < l.length ∧ l.length ≠ 31)) := hmany
    rcases (show l.length ≤ 25 ∨ l.length = 31 by omega) with hd | hd
    · have hd1 : ¬ (25 : Int) < (l.length : Int) := by omega
      clear hmany
      go_enter Tryz.func5, Tryz.ntmps5
      go_wp2_with fail
      go_loopw [3] (fun i wr => ∃ q : Nat, q ≤ l.length ∧ i = .int .i64 q ∧ (l.take q).any longF = false ∧ wr = w) (fun i _ => l.length - (intOf i).toNat)
      case atStart => exact ⟨0, by omega, rfl, by simp, rfl⟩
      case round =>
        obtain ⟨q, hq, rfl, hno, hb⟩ := hrel
        subst hb
        have HNO : Hid ((l.take q).any longF = false) := hno
        clear hno
        by_cases hlt : q < l.length
        · have hlt' : (q : Int) < (l.length : Int) := by omega
          obtain ⟨b, o, rfl, c0, c1, c2⟩ := HL.out.at hlt
          obtain ⟨hpl, htl⟩ := HP.out _ (List.getElem_mem hlt)
          cases hf : longF l[q] with
          | true =>
            have HF : Hid (longL l = 1) := by
              show longL l = 1
              unfold longL
              rw [if_neg HM.out, if_pos (List.any_eq_true.2 ⟨_, List.getElem_mem hlt, hf⟩)]
            generalize l[q] = f at c0 c1 c2 hpl htl hf
            simp only [longF, Bool.or_eq_true, Bool.and_eq_true, Bool.not_eq_true', decide_eq_true_eq, decide_eq_false_iff_not] at hf
            by_cases hp1 : 100 < f.p.length
            · have hp1' : (100 : Int) < (f.p.length : Int) := by omega
              clear hf hp1
              go_wp2
              go_ret
              exact ⟨by rw [HF.out]; rfl, rfl⟩
            · have hp1' : decide ((100 : Int) < (f.p.length : Int)) = false := by simp; omega
              have ht1 : (200 : Int) < (f.t.length : Int) := by omega
              have ht2 : ((f.t.length : Int) != 4000) = true := by simp; omega
              have ht3 : ((f.t.length : Int) != 4001) = true := by simp; omega
              clear hf hp1
              go_wp2
              go_ret
              exact ⟨by rw [HF.out]; rfl, rfl⟩
          | false =>
            have HN : Hid ((l.take (q + 1)).any longF = false) := by
              show List.any _ _ = false
              rw [List.take_succ_eq_append_getElem hlt, List.any_append, HNO.out]
              simp only [List.any_cons, List.any_nil, hf, Bool.or_false]
            generalize l[q] = f at c0 c1 c2 hpl htl hf
            simp only [longF, Bool.or_eq_false_iff, Bool.and_eq_false_iff, Bool.not_eq_false', decide_eq_true_eq, decide_eq_false_iff_not] at hf
            have hp1' : decide ((100 : Int) < (f.p.length : Int)) = false := by simp; omega
            by_cases ht : 200 < f.t.length
            · have ht1 : (200 : Int) < (f.t.length : Int) := by omega
              by_cases h4 : f.t.length = 4000
              · have ht2 : ((f.t.length : Int) != 4000) = false := by simp; omega
                clear hf ht h4
                go_wp2
                go_roundw
                case rel => exact ⟨q + 1, by omega, by go_num, HN.out, trivial⟩
                case measure => simp [intOf]; omega
              · have ht2 : ((f.t.length : Int) != 4000) = true := by simp; omega
                have ht3 : ((f.t.length : Int) != 4001) = false := by simp; omega
                clear hf ht h4
                go_wp2
                go_roundw
                case rel => exact ⟨q + 1, by omega, by go_num, HN.out, trivial⟩
                case measure => simp [intOf]; omega
            · have ht1 : decide ((200 : Int) < (f.t.length : Int)) = false := by simp; omega
              clear hf ht
              go_wp2
              go_roundw
              case rel => exact ⟨q + 1, by omega, by go_num, HN.out, trivial⟩
              case measure => simp [intOf]; omega
        · obtain rfl : q = l.length := by omega
          have HF : Hid (longL l = 0) := by
            show longL l = 0
            have := HNO.out
            rw [List.take_length] at this
            unfold longL
            rw [if_neg HM.out, if_neg (by simp [this])]
          go_wp2
          go_ret
          exact ⟨by rw [HF.out]; rfl, rfl⟩
    · have hd1 : (25 : Int) < (l.length : Int) := by omega
      have hd2 : ((l.length : Int) != 31) = false := by simp; omega
      clear hmany hd
      go_enter Tryz.func5, Tryz.ntmps5
      go_wp2_with fail
      go_loopw [3] (fun i wr => ∃ q : Nat, q ≤ l.length ∧ i = .int .i64 q ∧ (l.take q).any longF = false ∧ wr = w) (fun i _ => l.length - (intOf i).toNat)
      case atStart => exact ⟨0, by omega, rfl, by simp, rfl⟩
      case round =>
        obtain ⟨q, hq, rfl, hno, hb⟩ := hrel
        subst hb
        have HNO : Hid ((l.take q).any longF = false) := hno
        clear hno
        by_cases hlt : q < l.length
        · have hlt' : (q : Int) < (l.length : Int) := by omega
          obtain ⟨b, o, rfl, c0, c1, c2⟩ := HL.out.at hlt
          obtain ⟨hpl, htl⟩ := HP.out _ (List.getElem_mem hlt)
          cases hf : longF l[q] with
          | true =>
            have HF : Hid (longL l = 1) := by
              show longL l = 1
              unfold longL
              rw [if_neg HM.out, if_pos (List.any_eq_true.2 ⟨_, List.getElem_mem hlt, hf⟩)]
            generalize l[q] = f at c0 c1 c2 hpl htl hf
            simp only [longF, Bool.or_eq_true, Bool.and_eq_true, Bool.not_eq_true', decide_eq_true_eq, decide_eq_false_iff_not] at hf
            by_cases hp1 : 100 < f.p.length
            · have hp1' : (100 : Int) < (f.p.length : Int) := by omega
              clear hf hp1
              go_wp2
              go_ret
              exact ⟨by rw [HF.out]; rfl, rfl⟩
            · have hp1' : decide ((100 : Int) < (f.p.length : Int)) = false := by simp; omega
              have ht1 : (200 : Int) < (f.t.length : Int) := by omega
              have ht2 : ((f.t.length : Int) != 4000) = true := by simp; omega
              have ht3 : ((f.t.length : Int) != 4001) = true := by simp; omega
              clear hf hp1
              go_wp2
              go_ret
              exact ⟨by rw [HF.out]; rfl, rfl⟩
          | false =>
            have HN : Hid ((l.take (q + 1)).any longF = false) := by
              show List.any _ _ = false
              rw [List.take_succ_eq_append_getElem hlt, List.any_append, HNO.out]
              simp only [List.any_cons, List.any_nil, hf, Bool.or_false]
            generalize l[q] = f at c0 c1 c2 hpl htl hf
            simp only [longF, Bool.or_eq_false_iff, Bool.and_eq_false_iff, Bool.not_eq_false', decide_eq_true_eq, decide_eq_false_iff_not] at hf
            have hp1' : decide ((100 : Int) < (f.p.length : Int)) = false := by simp; omega
            by_cases ht : 200 < f.t.length
            · have ht1 : (200 : Int) < (f.t.length : Int) := by omega
              by_cases h4 : f.t.length = 4000
              · have ht2 : ((f.t.length : Int) != 4000) = false := by simp; omega
                clear hf ht h4
                go_wp2
                go_roundw
                case rel => exact ⟨q + 1, by omega, by go_num, HN.out, trivial⟩
                case measure => simp [intOf]; omega
              · have ht2 : ((f.t.length : Int) != 4000) = true := by simp; omega
                have ht3 : ((f.t.length : Int) != 4001) = false := by simp; omega
                clear hf ht h4
                go_wp2
                go_roundw
                case rel => exact ⟨q + 1, by omega, by go_num, HN.out, trivial⟩
                case measure => simp [intOf]; omega
            · have ht1 : decide ((200 : Int) < (f.t.length : Int)) = false := by simp; omega
              clear hf ht
              go_wp2
              go_roundw
              case rel => exact ⟨q + 1, by omega, by go_num, HN.out, trivial⟩
              case measure => simp [intOf]; omega
        · obtain rfl : q = l.length := by omega
          have HF : Hid (longL l = 0) := by
            show longL l = 0
            have := HNO.out
            rw [List.take_length] at this
            unfold longL
            rw [if_neg HM.out, if_neg (by simp [this])]
          go_wp2
          go_ret
          exact ⟨by rw [HF.out]; rfl, rfl⟩

theorem longFiles_any (l : List F) (a : Option Addr) (ca : Nat) (w : World) (hl : LiesAt w a l) (hm : l.length ≤ maxLen) (hp : ∀ f ∈ l, f.p.length ≤ maxLen ∧ f.t.length ≤ maxLen) :
    Calls Tryz.prog 5 #[.slice a l.length ca] w fun e w' => e = .returned (.int .i64 (longL l)) ∧ Below w.heap.size w w' :=
  (longFiles_same l a ca w hl hm hp).mono fun _ _ ⟨h, h'⟩ => ⟨h, by rw [h']; exact Below.refl _ _⟩

/-- The cells of files that lie from an address on. -/
theorem LiesAt.news {w : World} {ad : Addr} {l : List F} (h : LiesAt w (some ad) l) : ∀ j u, (lcells l)[j]? = some u → w.cell? (ad.add j) = some u := by
  intro j u hj
  have hjl : j < (lcells l).length := (List.getElem?_eq_some_iff.1 hj).1
  rw [lcells_length] at hjl
  have hk : j / 3 < l.length := by omega
  obtain ⟨b, o, e, c0, c1, c2⟩ := h.at hk
  cases e
  have ej : j = j / 3 * 3 + j % 3 := by omega
  have hm : j % 3 < 3 := Nat.mod_lt _ (by decide)
  rw [ej, lcells_at l (j / 3) hk (j % 3) hm] at hj
  have ha : (⟨b, o, none⟩ : Addr).add j = ⟨b, o + j, none⟩ := by
    unfold Addr.add
    by_cases hz : j = 0
    · simp [hz]
    · simp [hz]
  rw [ha]
  have hoj : o + j = o + j / 3 * 3 + j % 3 := by omega
  rw [hoj]
  rcases (show j % 3 = 0 ∨ j % 3 = 1 ∨ j % 3 = 2 by omega) with hr | hr | hr
  · rw [hr] at hj ⊢; exact c0.trans hj
  · rw [hr] at hj ⊢; exact c1.trans hj
  · rw [hr] at hj ⊢; exact c2.trans hj

theorem lcells_one (l : List F) : ∀ u ∈ lcells l, u.oneCell' = true := by
  intro u hu
  simp only [lcells, List.mem_flatMap] at hu
  obtain ⟨f, _, hf⟩ := hu
  simp only [fcells, List.mem_cons, List.not_mem_nil, or_false] at hf
  rcases hf with rfl | rfl | rfl <;> rfl

theorem ownFiles_any (l : List F) (a : Option Addr) (ca : Nat) (w : World) (hl : LiesAt w a l) (hn : a = none → ca = 0 ∧ l = []) (hm : l.length ≤ 100000) :
    Calls Tryz.prog 7 #[.slice a l.length ca] w fun e w' => (∃ v, e = .returned v ∧ w'.ownsRow w.heap.size 46 3 v l.length (lcells l)) ∧ Below w.heap.size w w' := by
  obtain ⟨i0, hi, hz0, hz1, hz2⟩ := info_parts Tryz.infoFile
  cases a with
  | none =>
    obtain ⟨rfl, rfl⟩ := hn rfl
    clear hl hn
    show Calls _ _ #[.slice none 0 0] _ _
    go_enter Tryz.func7, Tryz.ntmps7
    go_wp2
    go_ret
    exact ⟨⟨_, rfl, World.ownsRow_nil _ _ _ _⟩, Below.refl _ _⟩
  | some ad =>
    have HN := hl.news
    clear hl hn
    go_enter Tryz.func7, Tryz.ntmps7
    go_wp2_with (at_builtin; refine wpList_append_own _ rfl _ _ 22 rfl w.heap.size 46 i0 (.agg #[.string ⟨#[]⟩, .bool false, .string ⟨#[]⟩]) 3 40 Tryz.underlying22 hi hz0 hz1 hz2 rfl (by decide) (.slice none 0 0) 0 [] rfl (World.ownsRow_nil _ _ _ _) ad l.length ca (lcells l) rfl (lcells_length l) HN (lcells_one l) (by unfold maxLen; omega) (by omega) (by omega) ?_; intro v' w2 hown' hgrow _)
    go_ret
    exact ⟨⟨_, rfl, by simpa using hown'⟩, (Below.refl _ _).grown hgrow (Nat.le_refl _) (fun k e => by cases e)⟩
end Go.Proofs.YtlofpooobabkjaaGreatDoor
/-
  Files that came in, as an argument: what a walk asks of them; those that are not too long are few and small: over this seat's translation.
-/
namespace Go.Proofs.YtlofpooobabkjaaGreatDoor
open Go.RowKit Go.Shelf

theorem longL_or (l : List F) : (longL l : Int) = 0 ∨ (longL l : Int) = 1 := by
  unfold longL
  repeat' split
  all_goals simp

/-- What is asked of files that came in. -/
structure Came (w : World) (a : Option Addr) (ca : Nat) (l : List F) : Prop where
  lies : LiesAt w a l
  cap : l.length ≤ ca
  len : l.length ≤ maxLen
  texts : ∀ f ∈ l, f.p.length ≤ maxLen ∧ f.t.length ≤ maxLen
  nil : a = none → ca = 0 ∧ l = []

theorem Came.below {w w' : World} {a : Option Addr} {ca : Nat} {l : List F} (h : Came w a ca l) (hb : Below w.heap.size w w') : Came w' a ca l := ⟨h.lies.below hb, h.cap, h.len, h.texts, h.nil⟩

theorem long_is {w : World} {a : Option Addr} {ca : Nat} {l : List F} (h : Came w a ca l) (c : Int) (hc : (longL l : Int) = c) :
    Calls Tryz.prog 5 #[.slice a l.length ca] w fun e w' => e = .returned (.int .i64 c) ∧ w' = w := by
  have := longFiles_same l a ca w h.lies h.len h.texts
  rwa [hc] at this

theorem small_of_long {l : List F} (h : (longL l : Int) = 0) : Small l := by
  obtain ⟨h1, h2⟩ := longL_zero (l := l) (by omega)
  exact ⟨by omega, fun f hf => by have := (h2 f hf).1; omega, fun f hf => by have := (h2 f hf).2; omega⟩

theorem tree_small {l : List F} (h : (treeFault l).1 = 0) : Small l := by
  obtain ⟨g, hn, _⟩ := tree_good.1 h
  exact ⟨by omega, fun f hf => by have := path_short (g.right f hf).1; omega, fun f hf => by have := (g.right f hf).2; omega⟩

end Go.Proofs.YtlofpooobabkjaaGreatDoor
/-
  The statement PackTells answers true, whatever comes in: over this seat's translation.
-/
namespace Go.Proofs.YtlofpooobabkjaaGreatDoor
open Go.RowKit Go.Shelf

/-- A fault kept in a block of two numbers. -/
def Kept2 (w : World) (fb : Nat) (c i : Int) : Prop := w.heap[fb]? = some (.cells #[.int .i64 c, .int .i64 i] 31 (0, 0))
theorem Kept2.cells {w : World} {fb : Nat} {c i : Int} (h : Kept2 w fb c i) : w.cell? ⟨fb, 0, none⟩ = some (.int .i64 c) ∧ w.cell? ⟨fb, 1, none⟩ = some (.int .i64 i) ∧ w.frozen? ⟨fb, 0, none⟩ = false ∧ w.frozen? ⟨fb, 1, none⟩ = false := by
  unfold Kept2 at h
  exact ⟨by simp [World.cell?, h], by simp [World.cell?, h], by simp [World.frozen?, h], by simp [World.frozen?, h]⟩
theorem Kept2.only {w : World} {fb : Nat} {c i : Int} (h : Kept2 w fb c i) {o : Nat} {v : Value} (hv : w.cell? ⟨fb, o, none⟩ = some v) : ∃ n, v = .int .i64 n := by
  unfold Kept2 at h
  rcases o with _ | _ | o
  · exact ⟨c, by simpa [World.cell?, h] using hv.symm⟩
  · exact ⟨i, by simpa [World.cell?, h] using hv.symm⟩
  · simp [World.cell?, h] at hv
theorem Kept2.below {w w' : World} {fb : Nat} {c i : Int} (h : Kept2 w fb c i) (hb : Below w.heap.size w w') : Kept2 w' fb c i := (hb.block fb (Array.getElem?_eq_some_iff.1 h).1).trans h
theorem Kept2.store {w : World} {fb : Nat} {c i : Int} (h : Kept2 w fb c i) (x y : Int) : Kept2 ((w.setCell ⟨fb, 0, none⟩ (.int .i64 x)).setCell ⟨fb, 1, none⟩ (.int .i64 y)) fb x y := by
  unfold Kept2 at h ⊢
  simp only [World.setCell, Array.getElem?_modify, if_true, h, Option.map_some]
  rfl
theorem far_store {w : World} {fb b o : Nat} {v u u' : Value} (h : w.cell? ⟨b, o, none⟩ = some v) (hne : b ≠ fb) : ((w.setCell ⟨fb, 0, none⟩ u).setCell ⟨fb, 1, none⟩ u').cell? ⟨b, o, none⟩ = some v := by
  rw [cell_far (a := ⟨fb, 1, none⟩) (b := ⟨b, o, none⟩) hne, cell_far (a := ⟨fb, 0, none⟩) (b := ⟨b, o, none⟩) hne]
  exact h
theorem ErrAt.store {p : Nat → Addr} {w : World} {v : Value} {c : Nat} {i : Int} {fb : Nat} {c0 i0 : Int} (h : ErrAt p w v c i) (hk : Kept2 w fb c0 i0) (x y : Int) : ErrAt p ((w.setCell ⟨fb, 0, none⟩ (.int .i64 x)).setCell ⟨fb, 1, none⟩ (.int .i64 y)) v c i := by
  rcases h with h | h | ⟨j, b, o, h0, h1, h2, h3, h4⟩
  · exact .inl h
  · exact .inr (.inl h)
  · have hne : b ≠ fb := fun e => by
      subst e
      obtain ⟨n, hn⟩ := hk.only h4
      cases hn
    exact .inr (.inr ⟨j, b, o, h0, h1, h2, far_store h3 hne, far_store h4 hne⟩)
theorem LiesAt.store {w : World} {a : Option Addr} {l : List F} {fb : Nat} {c0 i0 : Int} (h : LiesAt w a l) (hk : Kept2 w fb c0 i0) (x y : Int) : LiesAt ((w.setCell ⟨fb, 0, none⟩ (.int .i64 x)).setCell ⟨fb, 1, none⟩ (.int .i64 y)) a l := fun hl => by
  obtain ⟨b, o, e, hc⟩ := h hl
  refine ⟨b, o, e, fun k hlt => ?_⟩
  obtain ⟨h0, h1, h2⟩ := hc k hlt
  have hne : b ≠ fb := fun e => by
    subst e
    obtain ⟨n, hn⟩ := hk.only h0
    cases hn
  exact ⟨far_store h0 hne, far_store h1 hne, far_store h2 hne⟩
theorem below_store {w0 w : World} {fb : Nat} (hb : Below w0.heap.size w0 w) (hf : w0.heap.size ≤ fb) (x y : Value) : Below w0.heap.size w0 ((w.setCell ⟨fb, 0, none⟩ x).setCell ⟨fb, 1, none⟩ y) :=
  (hb.setCell (p := ⟨fb, 0, none⟩) hf _).setCell (p := ⟨fb, 1, none⟩) hf _

theorem readP_few (s : List UInt8) : (readP s).1.length ≤ 100000 := by
  rcases readP_cases s with ⟨r, hr, _, ht⟩ | ⟨c, i, hr, _⟩
  · rw [hr]
    have := (tree_good.1 ht).2.1
    show r.length ≤ 100000
    omega
  · rw [hr]
    simp

set_option maxRecDepth 100000 in
set_option maxHeartbeats 8000000 in
theorem packTells_any (p : Nat → Addr) (l : List F) (a : Option Addr) (ca : Nat) (s : List UInt8) (w : World) (hE : Env p w) (hS : SEnv p w) (hC : Came w a ca l) :
    Calls Tryz.prog 3 #[.slice a l.length ca, .string ⟨s.toArray⟩] w fun e w' => e = .returned (.bool true) ∧ Below w.heap.size w w' := by
  have HE := Lib.hid hE
  have HS := Lib.hid hS
  have HC := Lib.hid hC
  clear hE hS hC
  go_enter Tryz.func3, Tryz.ntmps3
  go_wp2_with fail
  refine (packed_any p _ HE.out HS.out).mono ?_
  rintro e w1 ⟨rfl, hb1⟩
  have HB1 := Lib.hid hb1
  clear hb1
  rcases longL_or l with hlong | hlong
  case inr =>
    go_wp2_with fail
    refine (long_is (HC.out.below HB1.out) 1 hlong).mono ?_
    rintro e w2 ⟨rfl, rfl⟩
    go_wp2
    go_ret
    exact ⟨rfl, HB1.out⟩
  go_wp2_with fail
  refine (long_is (HC.out.below HB1.out) 0 hlong).mono ?_
  rintro e w2 ⟨rfl, rfl⟩
  have HSM := Lib.hid (small_of_long hlong)
  have hln := HSM.out.few
  clear hlong
  by_cases hs : 2000 < s.length ∧ s.length ≠ 20001
  · have hs1 : (2000 : Int) < (s.length : Int) := by omega
    have hs2 : ¬ ((s.length : Int) = 20001) := by omega
    go_wp2
    go_ret
    exact ⟨rfl, HB1.out⟩
  have hsl : s.length ≤ 90000 := by omega
  rcases (show ((s.length : Int) ≤ 2000) ∨ ((2000 : Int) < (s.length : Int) ∧ (s.length : Int) = 20001) by omega) with hs1 | ⟨hs1, hs2⟩
  case' inl => have hs1' : decide ((2000 : Int) < (s.length : Int)) = false := by simp; omega
  all_goals
    clear hs
    go_wp2_with fail
    refine (ownFiles_any l a ca _ (HC.out.lies.below HB1.out) HC.out.nil hln).mono ?_
    rintro e w3 ⟨⟨v, rfl, hown⟩, hb3⟩
    obtain ⟨oa, oc, rfl, hol, hoc⟩ := owns_files hown
    have HB3 := Lib.hid (HB1.out.trans (hb3.mono HB1.out.size))
    have HOL := Lib.hid hol
    clear hown hol hb3
    go_wp2_with fail
    refine (packMake_any p l oa oc _ (HE.out.below HB3.out) (HS.out.below HB3.out) HOL.out hoc HSM.out).mono ?_
    rintro e w4 ⟨⟨v4, rfl, hv4⟩, hb4⟩
    have HB4 := Lib.hid (HB3.out.trans (hb4.mono HB3.out.size))
    have HV4 := Lib.hid hv4
    clear hv4 hb4 HOL hoc
    go_wp2_with fail
    refine (packOf_any l a ca _ (HC.out.lies.below HB4.out) HSM.out).mono ?_
    rintro e w5 ⟨rfl, hb5⟩
    have HB5 := Lib.hid (HB4.out.trans (hb5.mono HB4.out.size))
    have HV5 := Lib.hid (HV4.out.below hb5)
    clear hb5 HV4
    obtain ⟨c, i, hci⟩ := fault_nat l
    rw [hci] at HV5 ⊢
    have HCI := Lib.hid hci
    clear hci
    generalize makeL l = mk
    go_wp2_with fail
    obtain ⟨W, hW⟩ : ∃ W, W = w5.alloc (.cells #[.int .i64 c, .int .i64 i] 31) := ⟨_, rfl⟩
    have hk0 : Kept2 W w5.heap.size c i := by rw [hW]; exact heap_new _ _
    have hbW : Below w5.heap.size w5 W := by rw [hW]; exact (Below.refl _ _).alloc (Nat.le_refl _) _
    have HBW := Lib.hid (HB5.out.trans (hbW.mono HB5.out.size))
    have HVW := Lib.hid (HV5.out.below hbW)
    have hfb : w.heap.size ≤ w5.heap.size := HB5.out.size
    rw [← hW]
    clear hW hbW HV5
    generalize w5.heap.size = fb at hk0 hfb ⊢
    have HK0 := Lib.hid hk0
    clear hk0
    refine (faulted_err HVW.out (HE.out.below HBW.out)).mono ?_
    rintro e w6 ⟨rfl, hb6⟩
    have HB6 := Lib.hid (HBW.out.trans (hb6.mono HBW.out.size))
    have HK6 := Lib.hid (HK0.out.below hb6)
    clear hb6 HVW HK0
    go_wp2_with fail
    refine (ownFiles_any l a ca _ (HC.out.lies.below HB6.out) HC.out.nil hln).mono ?_
    rintro e w7 ⟨⟨v, rfl, hown⟩, hb7⟩
    obtain ⟨oa2, oc2, rfl, hol, hoc⟩ := owns_files hown
    have HB7 := Lib.hid (HB6.out.trans (hb7.mono HB6.out.size))
    have HK7 := Lib.hid (HK6.out.below hb7)
    have HOL := Lib.hid hol
    clear hown hol hb7 HK6
    go_wp2_with fail
    refine (packSum_any p l oa2 oc2 _ (HE.out.below HB7.out) (HS.out.below HB7.out) HOL.out hoc HSM.out).mono ?_
    rintro e w8 ⟨⟨v8, rfl, hv8⟩, hb8⟩
    have HB8 := Lib.hid (HB7.out.trans (hb8.mono HB7.out.size))
    have HK8 := Lib.hid (HK7.out.below hb8)
    have HV8 := Lib.hid hv8
    clear hv8 hb8 HOL hoc HK7
    go_wp2_with fail
    refine (treeSum_any l a ca _ (HC.out.lies.below HB8.out) HSM.out).mono ?_
    rintro e w9 ⟨rfl, hb9⟩
    have HB9 := Lib.hid (HB8.out.trans (hb9.mono HB8.out.size))
    have HK9 := Lib.hid (HK8.out.below hb9)
    have hv9 := HV8.out.below hb9
    rw [HCI.out] at hv9 ⊢
    have HV9 := Lib.hid hv9
    obtain ⟨k0, k1, z0, z1⟩ := HK9.out.cells
    clear hb9 HK8 HV8 hv9
    generalize sumT l = sm
    obtain ⟨q0, q1, _⟩ := slot_set (w := w9) (wr := w9) (b := fb) (.int .i64 c) (.int .i64 i) k0 k1 (Below.refl _ _)
    go_wp2_with fail
    refine (faulted_err (HV9.out.store HK9.out c i) (HE.out.below (below_store HB9.out hfb _ _))).mono ?_
    rintro e w10 ⟨rfl, hb10⟩
    have HBS := below_store HB9.out hfb (.int .i64 c) (.int .i64 i)
    have HB10 := Lib.hid (HBS.trans (hb10.mono HBS.size))
    have HK10 := Lib.hid ((HK9.out.store c i).below hb10)
    clear hb10 HK9 HV9 HBS k0 k1 z0 z1 q0 q1
    obtain ⟨r, rc, ri, hr⟩ : ∃ r rc ri, readP s = (r, rc, ri) := ⟨_, _, _, rfl⟩
    have HR := Lib.hid hr
    have hrl : r.length ≤ 100000 := by
      have := readP_few s
      rw [hr] at this
      exact this
    clear hr
    go_wp2_with fail
    refine (told_open (packRead_any p s _ (HE.out.below HB10.out) (HS.out.below HB10.out) hsl) HR.out).mono ?_
    rintro e w11 ⟨⟨ya, yc, v11, rfl, hyl, hv11⟩, hb11⟩
    have HB11 := Lib.hid (HB10.out.trans (hb11.mono HB10.out.size))
    have HK11 := Lib.hid (HK10.out.below hb11)
    have HV11 := Lib.hid hv11
    have HY11 := Lib.hid hyl
    clear hyl hv11 hb11 HK10
    go_wp2_with fail
    refine (ref_open (refReadPack_any s _ hsl) HR.out).mono ?_
    rintro e w12 ⟨⟨xa, xc, rfl, hxl⟩, hb12⟩
    have HB12 := Lib.hid (HB11.out.trans (hb12.mono HB11.out.size))
    have HK12 := Lib.hid (HK11.out.below hb12)
    have HV12 := Lib.hid (HV11.out.below hb12)
    have HY12 := Lib.hid (HY11.out.below hb12)
    have HX12 := Lib.hid hxl
    obtain ⟨k0, k1, z0, z1⟩ := HK12.out.cells
    clear hxl hb12 HK11 HV11 HY11
    obtain ⟨q0, q1, _⟩ := slot_set (w := w12) (wr := w12) (b := fb) (.int .i64 rc) (.int .i64 ri) k0 k1 (Below.refl _ _)
    go_wp2_with fail
    refine (faulted_err (HV12.out.store HK12.out rc ri) (HE.out.below (below_store HB12.out hfb _ _))).mono ?_
    rintro e w13 ⟨rfl, hb13⟩
    have HBS := below_store HB12.out hfb (.int .i64 rc) (.int .i64 ri)
    have HB13 := Lib.hid (HBS.trans (hb13.mono HBS.size))
    have HY13 := Lib.hid ((HY12.out.store HK12.out rc ri).below hb13)
    have HX13 := Lib.hid ((HX12.out.store HK12.out rc ri).below hb13)
    clear hb13 HBS k0 k1 z0 z1 q0 q1 HK12 HV12
    go_wp2_with fail
    refine (sameTrees_any r r ya xa yc xc _ HY13.out HX13.out hrl hrl).mono ?_
    rintro e w14 ⟨rfl, hb14⟩
    have HB14 := Lib.hid (HB13.out.trans (hb14.mono HB13.out.size))
    rw [decide_eq_true rfl]
    clear hb14
    go_wp2
    go_ret
    exact ⟨rfl, HB14.out⟩
end Go.Proofs.YtlofpooobabkjaaGreatDoor
/-
  Arguments that are files, opened: what a walk wants of them, out of what the rows say: over this seat's translation.
-/
namespace Go.Proofs.YtlofpooobabkjaaGreatDoor
open Go.RowKit Go.Shelf Go.ChangeShapes Go.WideShapes Go.Deep

theorem Tryz.cellsFile : Tryz.prog.cellsOf 46 = 3 := by kernel_rfl
theorem Tryz.cellsStr : Tryz.prog.cellsOf 9 = 1 := by kernel_rfl
theorem Tryz.cellsBool : Tryz.prog.cellsOf 4 = 1 := by kernel_rfl
theorem Tryz.laidOut : laidOutB Tryz.prog = true := by kernel_rfl

set_option maxRecDepth 100000 in
/-- A file's cells, opened. -/
theorem open_file {H : Type} {enc : TypeId × Value → H} {W : World} {base : Nat} {sp : Nat → Bool} {held : Bool} {fuel : Nat} {cs : List Value} {x : DataW H × List MemPlace} (h : DataW.trod enc Tryz.prog W base sp held fuel 46 cs = some x) :
    ∃ f : F, cs = fcells f ∧ f.p.length ≤ maxLen ∧ f.t.length ≤ maxLen := by
  obtain ⟨xs, n, _, _, hlen, hxl, hf⟩ := DataW.trod_struct Tryz.underlying46 h
  rw [Tryz.cellsFile] at hlen
  match cs, hlen with
  | [v0, v1, v2], _ =>
    have l3 : xs.length = 3 := hxl
    match xs, l3 with
    | [y0, y1, y2], _ =>
      have g0 : DataW.trod enc Tryz.prog W base sp held n 9 (([v0, v1, v2].drop 0).take (Tryz.prog.cellsOf 9)) = some y0 := hf 0 _ rfl
      have g1 : DataW.trod enc Tryz.prog W base sp held n 4 (([v0, v1, v2].drop 1).take (Tryz.prog.cellsOf 4)) = some y1 := hf 1 _ rfl
      have g2 : DataW.trod enc Tryz.prog W base sp held n 9 (([v0, v1, v2].drop 2).take (Tryz.prog.cellsOf 9)) = some y2 := hf 2 _ rfl
      rw [Tryz.cellsStr] at g0 g2
      rw [Tryz.cellsBool] at g1
      obtain ⟨s, e0, _, hs⟩ := DataW.trod_string Tryz.underlying9 g0
      obtain ⟨b, e1, _⟩ := DataW.trod_bool Tryz.underlying4 g1
      obtain ⟨t, e2, _, ht⟩ := DataW.trod_string Tryz.underlying9 g2
      refine ⟨⟨s.data.toList, b, t.data.toList⟩, ?_, ?_, ?_⟩
      · have e0' : [v0] = [.string s] := e0
        have e1' : [v1] = [.bool b] := e1
        have e2' : [v2] = [.string t] := e2
        cases e0'
        cases e1'
        cases e2'
        rfl
      · exact hs
      · exact ht

set_option maxRecDepth 100000 in
/-- Files among the arguments, opened. -/
theorem open_files {H : Type} {enc : TypeId × Value → H} {W : World} {base : Nat} {sp : Nat → Bool} {held : Bool} {r : Reach} {b0 : Nat} {v : Value} {d : DataW H} {ps : List MemPlace} (hval : Value.okWide Tryz.prog W r b0 22 v) (hd : DataW.Trod enc Tryz.prog W base sp held 22 v d ps) :
    ∃ l a ca, v = .slice a (List.length l) ca ∧ Came W a ca l := by
  obtain ⟨a0, len0, cap0, rfl⟩ := okWide_slice Tryz.underlying22 hval
  obtain ⟨fuel, hf⟩ := hd
  rcases open_slice Tryz.underlying22 hf with ⟨hc, _⟩ | ⟨a, len, cap, m, n, D, Pl, hc, _, hl, hm, hmm, _, hx⟩
  · have hc' : Value.slice a0 len0 cap0 = .slice none 0 0 := by simpa [Value.cells] using hc
    cases hc'
    exact ⟨[], none, 0, rfl, fun h => absurd rfl h, Nat.le_refl _, Nat.zero_le _, fun f hf => by simp at hf, fun _ => ⟨rfl, rfl⟩⟩
  · have hc' : Value.slice a0 len0 cap0 = .slice (some a) len cap := by simpa [Value.cells] using hc
    cases hc'
    have hlm : len0 ≤ m := by rw [hmm]; split <;> omega
    have each : ∀ i, i < len0 → ∃ f : F, (∀ j u, (fcells f)[j]? = some u → W.cell? ((a.add (i * 3)).add j) = some u) ∧ f.p.length ≤ maxLen ∧ f.t.length ≤ maxLen := fun i hi => by
      obtain ⟨cs', h1, h2⟩ := hx i (by omega)
      rw [Tryz.cellsFile] at h1
      obtain ⟨_, hlen, hcell⟩ := World.cells?_some h1
      obtain ⟨f, rfl, hp, ht⟩ := open_file h2
      refine ⟨f, fun j u hj => ?_, hp, ht⟩
      have hj3 : j < 3 := (List.getElem?_eq_some_iff.1 hj).1
      rw [hcell j hj3]
      exact hj
    obtain ⟨q, hq⟩ := choose_lt each
    refine ⟨(List.range len0).map q, some a, cap0, by simp, ?_, by rw [List.length_map, List.length_range]; exact hl, by rw [List.length_map, List.length_range]; omega, fun f hf => ?_, fun h => by cases h⟩
    · intro hne
      have hpos : 0 < len0 := by
        cases len0 with
        | zero => exact absurd rfl hne
        | succ k => omega
      obtain ⟨b, o, spot⟩ := a
      have hspot : spot = none := by
        have := World.cell?_spot ((hq 0 hpos).1 0 _ rfl)
        simpa [Addr.add] using this
      subst hspot
      refine ⟨b, o, rfl, fun k hk => ?_⟩
      have hk' : k < len0 := by simpa using hk
      have hg : ((List.range len0).map q)[k] = q k := by simp
      rw [hg]
      have hc := (hq k hk').1
      have hadd : ∀ j, ((⟨b, o, none⟩ : Addr).add (k * 3)).add j = ⟨b, o + k * 3 + j, none⟩ := fun j => by rw [Addr.add_lit, Addr.add_lit]
      exact ⟨by simpa [hadd] using hc 0 _ rfl, by simpa [hadd] using hc 1 _ rfl, by simpa [hadd] using hc 2 _ rfl⟩
    · obtain ⟨i, hi, rfl⟩ := List.mem_map.1 hf
      exact (hq i (List.mem_range.1 hi)).2

set_option maxRecDepth 100000 in
/-- A file among the arguments, opened. -/
theorem open_one {H : Type} {enc : TypeId × Value → H} {W : World} {base : Nat} {sp : Nat → Bool} {held : Bool} {r : Reach} {b0 : Nat} {v : Value} {d : DataW H} {ps : List MemPlace} (hval : Value.okWide Tryz.prog W r b0 46 v) (hd : DataW.Trod enc Tryz.prog W base sp held 46 v d ps) :
    ∃ f : F, v = fv f ∧ f.p.length ≤ maxLen ∧ f.t.length ≤ maxLen := by
  obtain ⟨cs, rfl, hcs⟩ := okWide_struct Tryz.underlying46 hval
  obtain ⟨fuel, hf⟩ := hd
  obtain ⟨f, e, hp, ht⟩ := open_file hf
  refine ⟨f, ?_, hp, ht⟩
  have : cs.toList = fcells f := by simpa [Value.cells] using e
  rw [show cs = (fcells f).toArray by rw [← this]]
  rfl
end Go.Proofs.YtlofpooobabkjaaGreatDoor
/-
  Errors of errors.New's make that a row lists among other variables: each holds a pointer of its own, to an unmarked block: over this seat's translation.
-/
namespace Go.Proofs.YtlofpooobabkjaaGreatDoor
open Go.ChangeShapes Go.WideShapes Go.RowKit

theorem Tryz.own : ownKnob Tryz.prog.godebug = none := by kernel_rfl
theorem Tryz.cells58 : Tryz.prog.cellsOf 173 = 1 := by kernel_rfl
theorem Tryz.cells9 : Tryz.prog.cellsOf 9 = 1 := by kernel_rfl

/-- Errors of errors.New's make, listed one behind the other: each variable holds a pointer, no two the same, each to an unmarked block. -/
theorem sentinels_of_laid {P : Program} {nm : String} {W : World} {ti tp te ts : TypeId} {ms : Array (String × TypeId)} {f : Field}
    (hi : P.underlying ti = some (.interface ms)) (hrow : ∀ u, P.typeName? 3 u = some nm → u = tp)
    (hp : P.underlying tp = some (.pointer te)) (he : P.underlying te = some (.struct #[f])) (hft : f.type = ts) (hfo : f.offset = 0) (hs : P.underlying ts = some .string) (hc : P.cellsOf te = 1) (hcs : P.cellsOf ts = 1) :
    ∀ (L : List (String × List UInt8)) (ps : List MemPlace),
    (∀ x ∈ L, ∃ g, P.globalNamed x.1 = some g ∧ (P.globals[g]?).map (·.type) = some ti) →
    DataW.LaidVars P W (L.map fun x => (x.1, .iface nm (.ptr (.agg [.lit (.string x.2)])))) ps → ps.Nodup →
    (∀ b off, MemPlace.cell b off ∈ ps → (∃ c t, W.heap[b]? = some (.cells c t (0, 0))) ∧ ∀ u v, W.cell? ⟨b, off, none⟩ = some (.iface u v) → Value.okWide P W .any 0 u v) →
    ∃ zs : List Addr, zs.length = L.length ∧ zs.Nodup ∧ (∀ a ∈ zs, MemPlace.cell a.block a.off ∈ ps) ∧
      ∀ (i : Nat) (x : String × List UInt8) (a : Addr), L[i]? = some x → zs[i]? = some a → W.var? P x.1 = some #[.iface tp (.pointer (some a))]
  | [], ps, _, _, _, _ => ⟨[], rfl, List.nodup_nil, (fun _ h => by cases h), (fun _ _ _ h => by simp at h)⟩
  | x :: L, ps, hg, hv, hnd, hrows => by
    obtain ⟨g', t', cs, fuel, p, q, hg', ht', hv', hd', hq, rfl⟩ := hv
    obtain ⟨g, hg0, ht0⟩ := hg x List.mem_cons_self
    obtain rfl := Option.some.inj (hg0.symm.trans hg')
    obtain rfl := Option.some.inj (ht0.symm.trans ht')
    obtain ⟨l0⟩ := cs
    have ok0 : ∀ u v, l0 = [.iface u v] → Value.okWide P W .any 0 u v := fun u v e => by
      subst e
      exact (hrows g 0 (by simp [MemPlace.row])).2 u v (by simpa using World.var?_cell hg' hv' 0)
    obtain ⟨a, s, rfl, hca, hsa, hza, rfl⟩ := errorString_of_trod hi hrow hp he hft hfo hs hc hcs hd' ok0
    have hnq : q.Nodup := List.Nodup.sublist (List.sublist_append_right _ _) hnd
    obtain ⟨zs, hl, hn, hm, hr⟩ := sentinels_of_laid hi hrow hp he hft hfo hs hc hcs L q (fun y hy => hg y (List.mem_cons_of_mem _ hy)) hq hnq (fun b off hb => hrows b off (List.mem_append_right _ hb))
    refine ⟨a :: zs, by simp [hl], ?_, ?_, ?_⟩
    · refine List.nodup_cons.2 ⟨fun ha => ?_, hn⟩
      have h1 : MemPlace.cell a.block a.off ∈ q := hm a ha
      have h2 := (List.nodup_append.1 hnd).2.2 (MemPlace.cell a.block a.off) (by simp [MemPlace.row]) _ h1
      exact h2 rfl
    · intro b hb
      rcases List.mem_cons.1 hb with rfl | hb
      · simp [MemPlace.row]
      · exact List.mem_append_right _ (hm b hb)
    · intro i y b hy hb
      cases i with
      | zero =>
        simp only [List.getElem?_cons_zero, Option.some.injEq] at hy hb
        subst hy hb
        exact hv'
      | succ i =>
        simp only [List.getElem?_cons_succ] at hy hb
        exact hr i y b hy hb

theorem Tryz.star : "*" ++ "errors.errorString" = "*errors.errorString" := by decide +kernel
theorem Tryz.row56 (u : TypeId) (h : Tryz.prog.typeName? 3 u = some "*errors.errorString") : u = 171 :=
  typeName_ptr_named (nm := "errors.errorString") (by rw [Tryz.star]; kernel_rfl) (by kernel_rfl) (by decide) u (by rw [Tryz.star]; exact h)

/-- The datum of an error as a row lists it. -/
def errData (x : String × List UInt8) : String × DataW Unit := (x.1, .iface "*errors.errorString" (.ptr (.agg [.lit (.string x.2)])))

/-- Out of a row's whole list: its errors, by their names' numbers. -/
theorem errs_of_laid {W : World} (L : List (String × DataW Unit)) (texts : List (String × List UInt8)) (nums : List Nat) (keep : String × DataW Unit → Bool)
    (hf : L.filter keep = texts.map errData)
    (hg : ((List.range texts.length).all fun i => match texts[i]? with | some x => Tryz.prog.globalNamed x.1 == some (nums.getD i 0) && (Tryz.prog.globals[nums.getD i 0]?).map (·.type) == some 26 | none => false) = true)
    (h : laidMet Tryz.prog L W) :
    ∃ z : Nat → Addr, (∀ k, k < texts.length → W.cell? ⟨nums.getD k 0, 0, none⟩ = some (.iface 171 (.pointer (some (z k))))) ∧ (∀ k, k < texts.length → ∃ c t, W.heap[(z k).block]? = some (.cells c t (0, 0))) ∧ ∀ k l, k < texts.length → l < texts.length → z k = z l → k = l := by
  have h' := h.filter keep
  rw [hf] at h'
  obtain ⟨ps, hv, hnd, hrows⟩ := h'
  have hglob : ∀ (i : Nat) (x : String × List UInt8), texts[i]? = some x → Tryz.prog.globalNamed x.1 = some (nums.getD i 0) ∧ (Tryz.prog.globals[nums.getD i 0]?).map (·.type) = some 26 := fun i x hx => by
    have hl := (List.getElem?_eq_some_iff.1 hx).1
    have := List.all_eq_true.1 hg i (List.mem_range.2 hl)
    rw [hx] at this
    simpa using this
  obtain ⟨zs, hl, hn, hm, hr⟩ := sentinels_of_laid Tryz.underlying26 Tryz.row56 Tryz.underlying171 Tryz.underlying173 rfl rfl Tryz.underlying9 Tryz.cells58 Tryz.cells9 texts ps
    (fun x hx => by
      obtain ⟨i, hi, e⟩ := List.getElem_of_mem hx
      exact ⟨nums.getD i 0, hglob i x (by rw [List.getElem?_eq_getElem hi, e])⟩) hv hnd hrows
  have hzs : ∀ k, k < texts.length → ∃ x, texts[k]? = some x ∧ zs[k]? = some (zs.getD k ⟨0, 0, none⟩) := fun k hk => by
    have h2 : k < zs.length := by omega
    exact ⟨texts[k], List.getElem?_eq_getElem hk, by rw [List.getD_eq_getElem?_getD, List.getElem?_eq_getElem h2]; rfl⟩
  refine ⟨fun k => zs.getD k ⟨0, 0, none⟩, fun k hk => ?_, fun k hk => ?_, fun k l hk hl' e => ?_⟩
  · obtain ⟨x, hx, ha⟩ := hzs k hk
    have := hr k x _ hx ha
    simpa using World.var?_cell (hglob k x hx).1 this 0
  · obtain ⟨x, hx, ha⟩ := hzs k hk
    exact (hrows _ _ (hm _ (List.mem_of_getElem? ha))).1
  · obtain ⟨x, hx, ha⟩ := hzs k hk
    obtain ⟨y, hy, hb⟩ := hzs l hl'
    have e' : zs.getD k ⟨0, 0, none⟩ = zs.getD l ⟨0, 0, none⟩ := e
    rw [← e'] at hb
    exact (List.getElem?_inj (by omega) hn).1 (ha.trans hb.symm)
end Go.Proofs.YtlofpooobabkjaaGreatDoor
/-
  The listed errors by their texts, and the table of powers of ten out of a row's list: for whatever row of this seat's translation.
-/
namespace Go.Proofs.YtlofpooobabkjaaGreatDoor
open Go.ChangeShapes Go.WideShapes Go.RowKit

def apiTexts : List (String × List UInt8) := [
  ("chandlery/api.ErrText", [99, 104, 97, 110, 100, 108, 101, 114, 121, 58, 32, 116, 101, 120, 116]),
  ("chandlery/api.ErrBound", [99, 104, 97, 110, 100, 108, 101, 114, 121, 58, 32, 98, 111, 117, 110, 100]),
  ("chandlery/api.ErrShape", [99, 104, 97, 110, 100, 108, 101, 114, 121, 58, 32, 115, 104, 97, 112, 101]),
  ("chandlery/api.ErrKind", [99, 104, 97, 110, 100, 108, 101, 114, 121, 58, 32, 107, 105, 110, 100]),
  ("chandlery/api.ErrName", [99, 104, 97, 110, 100, 108, 101, 114, 121, 58, 32, 110, 97, 109, 101]),
  ("chandlery/api.ErrNone", [99, 104, 97, 110, 100, 108, 101, 114, 121, 58, 32, 110, 111, 110, 101]),
  ("chandlery/api.ErrExist", [99, 104, 97, 110, 100, 108, 101, 114, 121, 58, 32, 101, 120, 105, 115, 116]),
  ("chandlery/api.ErrFull", [99, 104, 97, 110, 100, 108, 101, 114, 121, 58, 32, 102, 117, 108, 108]),
  ("chandlery/api.ErrOrder", [99, 104, 97, 110, 100, 108, 101, 114, 121, 58, 32, 111, 114, 100, 101, 114]),
  ("chandlery/api.ErrOut", [99, 104, 97, 110, 100, 108, 101, 114, 121, 58, 32, 111, 117, 116]),
  ("chandlery/api.ErrClash", [99, 104, 97, 110, 100, 108, 101, 114, 121, 58, 32, 99, 108, 97, 115, 104]),
  ("chandlery/api.ErrSum", [99, 104, 97, 110, 100, 108, 101, 114, 121, 58, 32, 115, 117, 109]),
  ("chandlery/api.ErrOff", [99, 104, 97, 110, 100, 108, 101, 114, 121, 58, 32, 111, 102, 102])]
def convTexts : List (String × List UInt8) := [
  ("strconv.ErrRange", [118, 97, 108, 117, 101, 32, 111, 117, 116, 32, 111, 102, 32, 114, 97, 110, 103, 101]),
  ("strconv.ErrSyntax", [105, 110, 118, 97, 108, 105, 100, 32, 115, 121, 110, 116, 97, 120])]
def convNums : List Nat := [17, 16]
def isApi (x : String × DataW Unit) : Bool := apiTexts.any (·.1 == x.1)
def isConv (x : String × DataW Unit) : Bool := convTexts.any (·.1 == x.1)
def isPow (x : String × DataW Unit) : Bool := x.1 == "internal/strconv.uint64pow10"
theorem tab_of_laid {W : World} {L : List (String × DataW Unit)} (hf : L.filter isPow = [("internal/strconv.uint64pow10", Lib.tabData .u64 Lib.pow10Tab)]) (h : laidMet Tryz.prog L W) : Lib.TabIs Tryz.prog W "internal/strconv.uint64pow10" .u64 Lib.pow10Tab := by
  have h' := h.filter isPow
  rw [hf] at h'
  exact Lib.tabIs_of_head (g := 15) (t := 143) (e := 132) (n := 20) Tryz.gPow10 (by kernel_rfl) Tryz.underlying143 Tryz.underlying132 (by kernel_rfl) (by kernel_rfl) h'
end Go.Proofs.YtlofpooobabkjaaGreatDoor
/-
  What the row of PackTells lists of the package-level variables gives the walk; and a world that meets the list: the one that the program's own initialisers leave, with the pinned table laid.
-/
namespace Go.Proofs.YtlofpooobabkjaaGreatDoor
open Go.ChangeShapes Go.WideShapes Go.RowKit

theorem Tryz.rt : (Tryz.prog.cutTypes.find? (·.1 == "internal/reflectlite.rtype")).map (·.2) = some 114 := by kernel_rfl
theorem Tryz.size : Tryz.prog.types.size = 201 := by kernel_rfl
theorem Tryz.oneRow : ((List.range 201).filter fun t => Tryz.prog.rowNamed t [101, 114, 114, 111, 114]) = [26] := by kernel_rfl
theorem Tryz.gErrType : Tryz.prog.globalNamed "errors.errorType" = some 13 := by kernel_rfl
def apiNums : List Nat := [1, 0, 3, 4, 5, 6, 7, 2, 8, 9, 10, 11, 12]
def handlePack : List (String × DataW Unit) := [("errors.errorType", Rows.laid_errors_errorType)]
def plainPack : List (String × DataW Unit) := Rows.packTellsRow.laid.filter fun x => x.2.handleName?.isNone

theorem tells_handles : (Rows.packTellsRow.laid.filter fun x => x.2.handleName?.isSome) = handlePack := by kernel_rfl
theorem tells_api : (plainPack.filter isApi) = apiTexts.map errData := by kernel_rfl
theorem tells_conv : (plainPack.filter isConv) = convTexts.map errData := by kernel_rfl
theorem tells_pow : (plainPack.filter isPow) = [("internal/strconv.uint64pow10", Lib.tabData .u64 Lib.pow10Tab)] := by kernel_rfl

theorem tells_envs {W : World} (h : laidMetH Tryz.prog Rows.packTellsRow.laid W) : ∃ p, Env p W ∧ SEnv p W := by
  obtain ⟨hl0, hh⟩ := laidMetH_iff.1 h
  have hl : laidMet Tryz.prog plainPack W := hl0
  rw [tells_handles] at hh
  obtain ⟨p, h1, h2, h3⟩ := errs_of_laid _ apiTexts apiNums isApi tells_api (by kernel_rfl) hl
  obtain ⟨q, k1, _, _⟩ := errs_of_laid _ convTexts convNums isConv tells_conv (by kernel_rfl) hl
  refine ⟨p, ⟨h1 0 (by decide), h1 1 (by decide), h1 2 (by decide), h1 3 (by decide), h1 4 (by decide), h1 5 (by decide), h1 6 (by decide), h1 7 (by decide), h1 8 (by decide), h1 9 (by decide), h1 10 (by decide), h1 11 (by decide), h1 12 (by decide), ?_, h2, h3⟩, ⟨h1 0 (by decide), h1 1 (by decide), ⟨_, k1 1 (by decide)⟩, ⟨_, k1 0 (by decide)⟩, tab_of_laid tells_pow hl⟩⟩
  obtain ⟨name, u, ty, e1, e2, e3, e4, e5⟩ := hh _ (List.mem_singleton.2 rfl)
  have en : name = [101, 114, 114, 111, 114] := (Option.some.inj e1).symm
  subst en
  obtain rfl := Option.some.inj (Tryz.rt.symm.trans e2)
  have hm : ty ∈ (List.range 201).filter fun t => Tryz.prog.rowNamed t [101, 114, 114, 111, 114] := List.mem_filter.2 ⟨List.mem_range.2 (by rw [← Tryz.size]; exact e3), e4⟩
  rw [Tryz.oneRow] at hm
  obtain rfl := List.mem_singleton.1 hm
  have hh : typeHandle Tryz.prog 26 = .pointer (some ⟨22, 26, none⟩) := by kernel_rfl
  rw [hh] at e5
  simpa using World.var?_cell Tryz.gErrType e5 0

def greatPack : List String := ["unicode/utf8.first"]
/-- The world that the program's own initialisers leave, with the pinned table laid. -/
noncomputable def tellsWorld (os : Os) : World := (World.doorLaid Tryz.prog 326 os).layVars Tryz.prog (plainPack.filter fun x => greatPack.contains x.1)
theorem tellsWorld_os (os : Os) : (tellsWorld os).os = os := (World.layVars_os _ _ _).trans rfl
def otherBlocks (n : Nat) : List Nat := (List.range n).filter (· != 20)

set_option maxRecDepth 100000 in
theorem tells_met (os : Os) (args : Array Value) : laidMetH Tryz.prog Rows.packTellsRow.laid ((tellsWorld os).forCall (fun _ _ => 0) ⟨#[], args, []⟩).memory := by
  have hp : laidMet Tryz.prog plainPack (tellsWorld os) :=
    laidMet_layVars (w0 := World.doorLaid Tryz.prog 326 os) greatPack (otherBlocks (World.doorLaid Tryz.prog 326 os).heap.size) rfl (by kernel_rfl) (by kernel_rfl)
      (LaidIn.of_run _ 8 (by kernel_rfl) (by kernel_rfl) (by kernel_rfl) (by kernel_rfl))
  refine laidMetH_of_parts3 (fuel := 8) ?_ (by kernel_rfl) (by kernel_rfl)
  exact hp.of_heap (by simp [World.memory, World.forCall, Input.heap])
end Go.Proofs.YtlofpooobabkjaaGreatDoor
