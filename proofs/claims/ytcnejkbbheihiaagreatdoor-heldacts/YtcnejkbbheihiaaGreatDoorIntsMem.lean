/-
  Numbers in memory, a cell each; two such rows compared, a number among them: over this seat's translation.
-/
import Derived.Test.YtcnejkbbheihiaaGreatDoorKept
import Derived.Deep.QuietTactic
import Derived.BigQuiet
import Derived.Lib.Hide
namespace Go.Proofs.YtcnejkbbheihiaaGreatDoor
open Go.RowKit

theorem Tryz.infoInt : (Tryz.prog.info? 3).map (fun i => (i.zero, i.size, i.bytes)) = some (some (.int .i64 0), 1, 8) := by kernel_rfl
abbrev iv (n : Int) : Value := .int .i64 n
def IntsAt (w : World) (a : Option Addr) (l : List Int) : Prop := l ≠ [] → ∃ b o, a = some ⟨b, o, none⟩ ∧ ∀ k (h : k < l.length), w.cell? ⟨b, o + k, none⟩ = some (iv l[k])
theorem IntsAt.at {w : World} {a : Option Addr} {l : List Int} (h : IntsAt w a l) {k : Nat} (hk : k < l.length) : ∃ b o, a = some ⟨b, o, none⟩ ∧ w.cell? ⟨b, o + k, none⟩ = some (iv l[k]) := by
  obtain ⟨b, o, e, hc⟩ := h (fun e => by simp [e] at hk)
  exact ⟨b, o, e, hc k hk⟩
theorem IntsAt.below {w w' : World} {a : Option Addr} {l : List Int} (h : IntsAt w a l) (hb : Below w.heap.size w w') : IntsAt w' a l := fun hl => by
  obtain ⟨b, o, e, hc⟩ := h hl
  refine ⟨b, o, e, fun k hk => ?_⟩
  have h0 := hc k hk
  exact (hb.cell (p := ⟨b, o + k, none⟩) (by have := block_lt_of_cell h0; simpa using this)).trans h0
theorem IntsAt.take {w : World} {a : Option Addr} {l : List Int} (h : IntsAt w a l) (k : Nat) : IntsAt w a (l.take k) := fun hl => by
  obtain ⟨b, o, e, hc⟩ := h (fun e => by simp [e] at hl)
  refine ⟨b, o, e, fun j hj => ?_⟩
  rw [List.getElem_take]
  exact hc j (by simp at hj; omega)
theorem IntsAt.drop {w : World} {b o : Nat} {l : List Int} (h : IntsAt w (some ⟨b, o, none⟩) l) (k : Nat) : IntsAt w (some ⟨b, o + k, none⟩) (l.drop k) := fun hl => by
  obtain ⟨b', o', e, hc⟩ := h (fun e => by simp [e] at hl)
  cases e
  refine ⟨b, o + k, rfl, fun j hj => ?_⟩
  rw [List.getElem_drop, Nat.add_assoc]
  exact hc (k + j) (by simp at hj; omega)
/-- A row of one's own, as numbers. -/
theorem ints_of_row {w : World} {base : Nat} {v : Value} {l : List Int} (h : w.ownsRow base 3 1 v l.length (l.map iv)) : ∃ a c, v = .slice a l.length c ∧ IntsAt w a l ∧ l.length ≤ c ∧ (a = none → c = 0 ∧ l = []) ∧ (∀ b o, a = some ⟨b, o, none⟩ → o = 0 ∧ base ≤ b ∧ b < w.heap.size) := by
  rcases h.2 with ⟨rfl, hn⟩ | ⟨g, cap, cur, rfl, hb, hg, hcap, _⟩
  · have e : l = [] := List.length_eq_zero_iff.1 hn
    subst e
    exact ⟨none, 0, rfl, fun h => absurd rfl h, Nat.le_refl _, fun _ => ⟨rfl, rfl⟩, fun _ _ e => (by cases e)⟩
  · refine ⟨some ⟨g, 0, none⟩, cap, rfl, fun _ => ⟨g, 0, rfl, fun k hk => ?_⟩, hcap, fun e => (by cases e), fun b o e => ?_⟩
    · rw [Nat.zero_add, h.cellAt k (by omega), List.getElem?_map, List.getElem?_eq_getElem hk]
      rfl
    · cases e
      exact ⟨rfl, h.lt g rfl⟩

set_option maxRecDepth 100000 in
set_option maxHeartbeats 1000000 in
theorem sameInts_any (l m : List Int) (a b : Option Addr) (ca cb : Nat) (w : World) (hl : IntsAt w a l) (hm : IntsAt w b m) (hll : l.length ≤ 100000) (hml : m.length ≤ 100000) :
    Calls Tryz.prog 16 #[.slice a l.length ca, .slice b m.length cb] w fun e w' => e = .returned (.bool (decide (l = m))) ∧ Below w.heap.size w w' := by
  by_cases hlen : l.length = m.length
  · have HL := Lib.hid hl
    have HM := Lib.hid hm
    have hlen' : ((l.length : Int) == (m.length : Int)) = true := by simp; omega
    have HLEN := Lib.hid hlen
    clear hl hm hlen
    go_enter Tryz.func16, Tryz.ntmps16
    go_wp2_with fail
    go_loopw [5] (fun i wr => ∃ q : Nat, q ≤ l.length ∧ i = .int .i64 q ∧ l.take q = m.take q ∧ Below w.heap.size w wr) (fun i _ => l.length - (intOf i).toNat)
    case atStart => exact ⟨0, by omega, rfl, by simp, Below.refl _ _⟩
    case round =>
      obtain ⟨q, hq, rfl, htk, hb⟩ := hrel
      have HT := Lib.hid htk
      have HB := Lib.hid hb
      clear htk hb
      by_cases hlt : q < l.length
      · have hlt' : (q : Int) < (l.length : Int) := by omega
        have hltm : (q : Int) < (m.length : Int) := by have := HLEN.out; omega
        have hqm : q < m.length := by have := HLEN.out; omega
        obtain ⟨ba, oa, ea, k0⟩ := (HL.out.below HB.out).at hlt
        obtain ⟨bm, om, em, k1⟩ := (HM.out.below HB.out).at hqm
        subst ea em
        by_cases hx : l[q] = m[q]
        · have HT2 : Hid (l.take (q + 1) = m.take (q + 1)) := by
            show l.take (q + 1) = m.take (q + 1)
            rw [List.take_succ_eq_append_getElem hlt, List.take_succ_eq_append_getElem hqm, HT.out, hx]
          have hx' : (l[q] == m[q]) = true := by simpa using hx
          clear hx
          generalize l[q] = x at k0 hx'
          generalize m[q] = y at k1 hx'
          go_wp2_with fail
          go_quiet (fail)
          go_wp2
          go_roundw
          case rel => exact ⟨q + 1, by omega, by go_num, HT2.out, below_drewN HB.out _⟩
          case measure => simp [intOf]; omega
        · have HF : Hid (decide (l = m) = false) := decide_eq_false fun e => hx (by subst e; rfl)
          have hx' : (l[q] == m[q]) = false := by simpa using hx
          clear hx
          generalize l[q] = x at k0 hx'
          generalize m[q] = y at k1 hx'
          go_wp2_with fail
          go_quiet (fail)
          go_wp2
          go_ret
          exact ⟨by rw [HF.out]; rfl, below_drewN HB.out _⟩
      · have hql : q = l.length := by omega
        have HF : Hid (decide (l = m) = true) := decide_eq_true (by
          have := HT.out
          rwa [hql, List.take_length, HLEN.out, List.take_length] at this)
        clear hql
        go_wp2
        go_ret
        exact ⟨by rw [HF.out]; rfl, HB.out⟩
  · have hlen' : ((l.length : Int) == (m.length : Int)) = false := by simp; omega
    have HF : Hid (decide (l = m) = false) := decide_eq_false fun e => hlen (by rw [e])
    clear hl hm hlen
    go_enter Tryz.func16, Tryz.ntmps16
    go_wp2
    go_ret
    exact ⟨by rw [HF.out]; rfl, Below.refl _ _⟩

theorem sameInts_len (l m : List Int) (a b : Option Addr) (na nb ca cb : Nat) (w : World) (ha : l.length = na) (hb : m.length = nb) (hl : IntsAt w a l) (hm : IntsAt w b m) (hll : na ≤ 100000) (hml : nb ≤ 100000) :
    Calls Tryz.prog 16 #[.slice a na ca, .slice b nb cb] w fun e w' => e = .returned (.bool (decide (l = m))) ∧ Below w.heap.size w w' := by
  subst ha hb
  exact sameInts_any l m a b ca cb w hl hm hll hml

end Go.Proofs.YtcnejkbbheihiaaGreatDoor
