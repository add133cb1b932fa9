/-
  The law package's LongRules and OwnRules: over this seat's translation.
-/
import Derived.Test.YtmpfjambenkeeaaDoorPkWays
import Derived.Test.YtmpfjambenkeeaaDoorRefRules
import Derived.OwnWalk
namespace Go.Proofs.YtmpfjambenkeeaaDoor
open Go.RowKit Go.Shelf

def longT (t : List UInt8) : Bool := decide (120 < t.length)
def longRu (r : Ru) : Bool := decide (120 < r.f.length) || decide (10 < r.t.length) || r.t.any longT
def longR (l : List Ru) : Nat := if 12 < l.length then 1 else if l.any longRu then 1 else 0
theorem longR_or (l : List Ru) : (longR l : Int) = 0 ∨ (longR l : Int) = 1 := by
  unfold longR
  repeat' split
  all_goals simp
theorem longR_small {l : List Ru} (h : (longR l : Int) = 0) : RuSmall l ∧ l.length ≤ 12 ∧ ∀ r ∈ l, r.t.length ≤ 10 ∧ ∀ t ∈ r.t, t.length ≤ 120 := by
  unfold longR at h
  split at h
  · simp at h
  · split at h
    · simp at h
    · rename_i h1 h2
      have h3 : ∀ r ∈ l, r.f.length ≤ 120 ∧ r.t.length ≤ 10 ∧ ∀ t ∈ r.t, t.length ≤ 120 := by
        intro r hr
        have : longRu r = false := by
          cases hc : longRu r with
          | false => rfl
          | true => exact absurd (List.any_eq_true.2 ⟨r, hr, hc⟩) h2
        simp only [longRu, Bool.or_eq_false_iff, decide_eq_false_iff_not, List.any_eq_false, longT, decide_eq_true_eq] at this
        exact ⟨by omega, by omega, fun t ht => by have := this.2 t ht; omega⟩
      exact ⟨⟨by omega, fun r hr => by have := (h3 r hr).1; omega, fun r hr => by have := (h3 r hr).2.1; omega, fun r hr t ht => by have := (h3 r hr).2.2 t ht; omega⟩, by omega, fun r hr => (h3 r hr).2⟩

set_option maxRecDepth 100000 in
set_option maxHeartbeats 4000000 in
theorem longRules_any (l : List Ru) (a : Option Addr) (ca : Nat) (w : World) (hl : RulesAt w a l) (hm : l.length ≤ maxLen) (hf : ∀ r ∈ l, r.f.length ≤ maxLen ∧ r.t.length ≤ maxLen ∧ ∀ t ∈ r.t, t.length ≤ maxLen) :
    Calls Tryd.prog 21 #[.slice a l.length ca] w fun e w' => e = .returned (.int .i64 (longR l)) ∧ w' = w := by
  unfold maxLen at hm hf
  by_cases hlong : 12 < l.length
  · have HT : Hid (longR l = 1) := by show longR l = 1; unfold longR; rw [if_pos hlong]
    have h12 : (12 : Int) < (l.length : Int) := by omega
    clear hl hf
    go_enter Tryd.func21, Tryd.ntmps21
    go_wp2
    go_ret
    exact ⟨by rw [HT.out]; rfl, rfl⟩
  · have h12 : ¬ (12 : Int) < (l.length : Int) := by omega
    have HM := Lib.hid hlong
    have HL := Lib.hid hl
    have HF := Lib.hid hf
    clear hl hf hlong
    go_enter Tryd.func21, Tryd.ntmps21
    go_wp2_with fail
    go_loopw [3] (fun i wr => ∃ q : Nat, q ≤ l.length ∧ i = .int .i64 q ∧ (l.take q).any longRu = false ∧ wr = w) (fun i _ => l.length - (intOf i).toNat)
    case atStart => exact ⟨0, by omega, rfl, by simp, rfl⟩
    case round =>
      obtain ⟨q, hq, rfl, hn, rfl⟩ := hrel
      have HN := Lib.hid hn
      clear hn
      by_cases hlt : q < l.length
      · have hlt' : (q : Int) < (l.length : Int) := by omega
        have HRL := Lib.hid (HL.out.each _ (List.getElem_mem hlt)).texts
        obtain ⟨b, o, rfl, c0, c1⟩ := HL.out.at hlt
        have hbound := HF.out _ (List.getElem_mem hlt)
        have HYES : Hid (longRu l[q] = true → longR l = 1) := by
          intro h
          unfold longR
          rw [if_neg HM.out, if_pos (List.any_eq_true.2 ⟨_, List.getElem_mem hlt, h⟩)]
        have HNO : Hid (longRu l[q] = false → (l.take (q + 1)).any longRu = false) := by
          intro h
          rw [List.take_succ_eq_append_getElem hlt, List.any_append, HN.out]
          simp only [List.any_cons, List.any_nil, h, Bool.or_false]
        generalize l[q] = r at c0 c1 hbound HRL HYES HNO
        obtain ⟨f, t, ta, tc⟩ := r
        simp only at c0 c1 hbound HRL
        obtain ⟨hfl, htl, htt⟩ := hbound
        have HTT := Lib.hid htt
        clear htt
        by_cases h1 : 120 < f.length
        · have HY := Lib.hid (HYES.out (by simp [longRu, h1]))
          have h1' : (120 : Int) < (f.length : Int) := by omega
          clear h1
          go_wp2
          go_ret
          exact ⟨by rw [HY.out]; rfl, rfl⟩
        · have h1' : decide ((120 : Int) < (f.length : Int)) = false := by simp; omega
          by_cases h2 : 10 < t.length
          · have HY := Lib.hid (HYES.out (by simp [longRu, h2]))
            have h2' : (10 : Int) < (t.length : Int) := by omega
            clear h1 h2
            go_wp2
            go_ret
            exact ⟨by rw [HY.out]; rfl, rfl⟩
          · have h2' : decide ((10 : Int) < (t.length : Int)) = false := by simp; omega
            have HT1 : Hid (t.any longT = true → longR l = 1) := fun h => HYES.out (by simp [longRu, h])
            have HT0 : Hid (t.any longT = false → (l.take (q + 1)).any longRu = false) := fun h => HNO.out (by simp [longRu, h]; omega)
            clear h1 h2
            go_wp2_with fail
            go_loopw [4] (fun i wq => ∃ k : Nat, k ≤ t.length ∧ i = .int .i64 k ∧ (t.take k).any longT = false ∧ wq = wr) (fun i _ => t.length - (intOf i).toNat)
            case atStart => exact ⟨0, by omega, rfl, by simp, rfl⟩
            case round =>
              obtain ⟨k, hk, rfl, hn2, rfl⟩ := hrel
              have HN2 := Lib.hid hn2
              clear hn2
              by_cases hkl : k < t.length
              · have hkl' : (k : Int) < (t.length : Int) := by omega
                obtain ⟨b2, o2, rfl, x0⟩ := HRL.out.at hkl
                have hxl := HTT.out _ (List.getElem_mem hkl)
                by_cases h3 : 120 < t[k].length
                · have HY := Lib.hid (HT1.out (List.any_eq_true.2 ⟨_, List.getElem_mem hkl, by simp [longT, h3]⟩))
                  have h3' : (120 : Int) < (t[k].length : Int) := by omega
                  clear h3
                  generalize t[k] = x at x0 hxl h3'
                  go_wp2
                  go_ret
                  exact ⟨by rw [HY.out]; rfl, rfl⟩
                · have HN3 : Hid ((t.take (k + 1)).any longT = false) := by
                    show List.any _ _ = false
                    rw [List.take_succ_eq_append_getElem hkl, List.any_append, HN2.out]
                    simp only [List.any_cons, List.any_nil, Bool.or_false, longT, Bool.false_or, decide_eq_false_iff_not]
                    exact h3
                  have h3' : ¬ (120 : Int) < (t[k].length : Int) := by omega
                  clear h3
                  generalize t[k] = x at x0 hxl h3'
                  go_wp2
                  go_roundw
                  case rel => exact ⟨k + 1, by omega, by go_num, HN3.out, trivial⟩
                  case measure => simp [intOf]; omega
              · obtain rfl : k = t.length := by omega
                have HNN := Lib.hid (HT0.out (by have := HN2.out; rwa [List.take_length] at this))
                go_wp2
                go_roundw
                case rel => exact ⟨q + 1, by omega, by go_num, HNN.out, trivial⟩
                case measure => simp [intOf]; omega
      · obtain rfl : q = l.length := by omega
        have HT : Hid (longR l = 0) := by
          have := HN.out
          rw [List.take_length] at this
          show longR l = 0
          unfold longR
          rw [if_neg HM.out, if_neg (by rw [this]; decide)]
        go_wp2
        go_ret
        exact ⟨by rw [HT.out]; rfl, rfl⟩
theorem longRules_is (l : List Ru) (a : Option Addr) (ca : Nat) (c : Int) (w : World) (hl : RulesAt w a l) (hm : l.length ≤ maxLen) (hf : ∀ r ∈ l, r.f.length ≤ maxLen ∧ r.t.length ≤ maxLen ∧ ∀ t ∈ r.t, t.length ≤ maxLen) (h : (longR l : Int) = c) :
    Calls Tryd.prog 21 #[.slice a l.length ca] w fun e w' => e = .returned (.int .i64 c) ∧ w' = w := by
  have := longRules_any l a ca w hl hm hf
  rwa [h] at this
end Go.Proofs.YtmpfjambenkeeaaDoor
