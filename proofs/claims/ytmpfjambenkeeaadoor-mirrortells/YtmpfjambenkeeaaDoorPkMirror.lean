/-
  Package mirror: addOnce, checkRule, Check, and slices.Contains of texts: contracts, over this seat's translation.
-/
import Derived.Test.YtmpfjambenkeeaaDoorRuMem
import Derived.Test.YtmpfjambenkeeaaDoorPkLinks
import Derived.Test.YtmpfjambenkeeaaDoorRefLink
import Derived.Test.YtmpfjambenkeeaaDoorErrAt
namespace Go.Proofs.YtmpfjambenkeeaaDoor
open Go.RowKit Go.Shelf

set_option maxHeartbeats 1000000 in
theorem sliceIndex_any (s : List UInt8) (a : Option Addr) (cap : Nat) (k : List (List UInt8)) (w : World) (hk : k.length ≤ 100000) (h : TextsAt w a k) :
    Calls Tryd.prog 69 #[.slice a k.length cap, .string ⟨s.toArray⟩] w fun e w' => (∃ z : Int, e = .returned (.int .i64 z) ∧ (0 ≤ z ↔ s ∈ k)) ∧ w' = w := by
  have H := Lib.hid h
  clear h
  go_enter Tryd.func69, Tryd.ntmps69
  go_wp2_with fail
  go_loop [8] (fun i => ∃ q : Nat, q ≤ k.length ∧ i = .int .i64 q ∧ (k.take q).contains s = false) (fun i => k.length - (intOf i).toNat)
  case atStart => exact ⟨0, by omega, rfl, by simp⟩
  case round =>
    obtain ⟨q, hq, rfl, hn⟩ := hrel
    have HN := Lib.hid hn
    clear hn
    by_cases hlt : q < k.length
    · obtain ⟨b, o, rfl, hc⟩ := H.out.at hlt
      have hlt' : (q : Int) < (k.length : Int) := by omega
      by_cases hx : k[q] = s
      · have HF : Hid (decide (s ∈ k) = true) := by
          show decide (s ∈ k) = true
          rw [decide_eq_true_eq, ← hx]
          exact List.getElem_mem hlt
        rw [hx] at hc
        clear hx
        go_wp2
        go_ret
        exact ⟨⟨_, rfl, ⟨fun _ => of_decide_eq_true HF.out, fun _ => by omega⟩⟩, rfl⟩
      · have HF := Lib.hid (contains_take hlt HN.out hx)
        have hx' : (s == k[q]) = false := by simpa using fun e => hx e.symm
        clear hx
        generalize k[q] = x at hc hx'
        go_wp2
        go_round
        case rel => exact ⟨q + 1, by omega, by go_num, HF.out⟩
        case measure => simp [intOf]; omega
    · have hql : q = k.length := by omega
      have HF : Hid (decide (s ∈ k) = false) := by
        have := HN.out
        rw [hql, List.take_length, List.contains_eq_mem] at this
        exact this
      clear hql
      go_wp2
      go_ret
      exact ⟨⟨_, rfl, ⟨fun h => absurd h (by decide), fun h => absurd h (of_decide_eq_false HF.out)⟩⟩, rfl⟩

theorem sliceContains_any (s : List UInt8) (a : Option Addr) (cap : Nat) (k : List (List UInt8)) (w : World) (hk : k.length ≤ 100000) (h : TextsAt w a k) :
    Calls Tryd.prog 56 #[.slice a k.length cap, .string ⟨s.toArray⟩] w fun e w' => e = .returned (.bool (decide (s ∈ k))) ∧ w' = w := by
  have H := Lib.hid h
  clear h
  go_enter Tryd.func56, Tryd.ntmps56
  go_wp2_with fail
  refine (sliceIndex_any s a cap k _ hk H.out).mono ?_
  rintro e w' ⟨⟨z, rfl, hz⟩, rfl⟩
  have HZ := Lib.hid hz
  clear hz
  go_wp2
  go_ret
  exact ⟨ret_bool (by rw [decide_eq_decide]; exact HZ.out), rfl⟩
theorem sliceContains_is (s : List UInt8) (a : Option Addr) (cap : Nat) (k : List (List UInt8)) (r : Bool) (w : World) (hk : k.length ≤ 100000) (h : TextsAt w a k) (hr : decide (s ∈ k) = r) :
    Calls Tryd.prog 56 #[.slice a k.length cap, .string ⟨s.toArray⟩] w fun e w' => e = .returned (.bool r) ∧ w' = w := by
  have := sliceContains_any s a cap k w hk h
  rwa [hr] at this

theorem text_new (w : World) (s : List UInt8) (T : TypeId) : ∀ j u, [sv s][j]? = some u → (w.alloc (.cells #[sv s] T)).cell? ((⟨w.heap.size, 0, none⟩ : Addr).add j) = some u := by
  intro j u h
  have hn := heap_new w (.cells #[sv s] T)
  rcases j with _ | j
  · rw [Addr.add_lit]
    simp only [World.cell?, hn]
    exact h
  · simp at h

set_option maxRecDepth 100000 in
theorem addOnce_any (base : Nat) (s : List UInt8) (l : List (List UInt8)) (v : Value) (w : World) (hl : l.length ≤ 90000) (hrow : w.ownsRow base 9 1 v l.length (l.map sv)) (hbase : base ≤ w.heap.size) :
    Calls Tryd.prog 40 #[v, .string ⟨s.toArray⟩] w fun e w' => (∃ v', e = .returned v' ∧ w'.ownsRow base 9 1 v' (addL l s).length ((addL l s).map sv)) ∧ Below base w w' := by
  obtain ⟨i0, hi, hz0, hz1, hz2⟩ := info_parts Tryd.info9
  have HR := Lib.hid hrow
  obtain ⟨a, cap, rfl, ht, hcap, hnil⟩ := texts_of_owns hrow
  have HT := Lib.hid ht
  clear ht hnil
  by_cases hm : s ∈ l
  · have HA := Lib.hid (addL_in hm)
    have HM : Hid (decide (s ∈ l) = true) := by show decide (s ∈ l) = true; simpa using hm
    clear hm hrow
    go_enter Tryd.func40, Tryd.ntmps40
    go_wp2_with fail
    refine (sliceContains_is s a cap l true _ (by omega) HT.out HM.out).mono ?_
    rintro e w' ⟨rfl, rfl⟩
    go_wp2
    go_ret
    exact ⟨⟨_, rfl, by rw [HA.out]; exact HR.out⟩, Below.refl _ _⟩
  · have HA := Lib.hid (addL_out hm)
    have HM : Hid (decide (s ∈ l) = false) := by show decide (s ∈ l) = false; simpa using hm
    clear hm
    have hlt := hrow.lt
    go_enter Tryd.func40, Tryd.ntmps40
    go_wp2_with fail
    refine (sliceContains_is s a cap l false _ (by omega) HT.out HM.out).mono ?_
    rintro e w' ⟨rfl, rfl⟩
    go_wp2_with (at_builtin; refine wpList_append_own _ rfl _ _ 34 rfl base 9 i0 (.string ⟨#[]⟩) 1 16 Tryd.underlying34 hi hz0 hz1 hz2 rfl (by decide) _ _ _ rfl (hrow.alloc _) ⟨w'.heap.size, 0, none⟩ 1 1 [sv s] rfl rfl (text_new _ _ _) (by simp [Value.oneCell']) (by unfold maxLen; omega) (by omega) (by simp; omega) ?_; intro v' w1 hown' hgrow _)
    go_ret
    refine ⟨⟨_, rfl, by rw [HA.out, List.length_append, List.map_append]; exact hown'⟩, ?_⟩
    exact ((Below.refl _ _).alloc hbase _).grown hgrow (by simp; omega) (fun k e => (hlt k e).1)
end Go.Proofs.YtmpfjambenkeeaaDoor
