/-
  plain.Code tells each error of package api by its number, with the place of a *api.Fault that bears it; nil is 0 and any other error of errors.New's make is -1: contracts of that call, over this seat's translation.
  Conditions: the variables hold what the rows list (Env).
-/
import Derived.Test.YtaegcoidpjcbaaaGreatDoorAs
namespace Go.Proofs.YtaegcoidpjcbaaaGreatDoor
open Go.RowKit Go.Extern.Stop Go.Stop Go.Extern

/-- What a walk wants of the listed variables: the thirteen errors at thirteen addresses, unmarked, and the handle of type error. -/
structure Env (p : Nat → Addr) (w : World) : Prop where
  s0 : w.cell? ⟨6, 0, none⟩ = some (.iface 311 (.pointer (some (p 0))))
  s1 : w.cell? ⟨1, 0, none⟩ = some (.iface 311 (.pointer (some (p 1))))
  s2 : w.cell? ⟨0, 0, none⟩ = some (.iface 311 (.pointer (some (p 2))))
  s3 : w.cell? ⟨7, 0, none⟩ = some (.iface 311 (.pointer (some (p 3))))
  s4 : w.cell? ⟨3, 0, none⟩ = some (.iface 311 (.pointer (some (p 4))))
  s5 : w.cell? ⟨4, 0, none⟩ = some (.iface 311 (.pointer (some (p 5))))
  s6 : w.cell? ⟨8, 0, none⟩ = some (.iface 311 (.pointer (some (p 6))))
  s7 : w.cell? ⟨2, 0, none⟩ = some (.iface 311 (.pointer (some (p 7))))
  s8 : w.cell? ⟨9, 0, none⟩ = some (.iface 311 (.pointer (some (p 8))))
  s9 : w.cell? ⟨10, 0, none⟩ = some (.iface 311 (.pointer (some (p 9))))
  s10 : w.cell? ⟨11, 0, none⟩ = some (.iface 311 (.pointer (some (p 10))))
  s11 : w.cell? ⟨12, 0, none⟩ = some (.iface 311 (.pointer (some (p 11))))
  s12 : w.cell? ⟨5, 0, none⟩ = some (.iface 311 (.pointer (some (p 12))))
  handle : w.cell? ⟨13, 0, none⟩ = some (.iface 205 (.agg #[.pointer (some ⟨27, 43, none⟩)]))
  rows : ∀ k, k < 13 → ∃ c t, w.heap[(p k).block]? = some (.cells c t (0, 0))
  inj : ∀ k l, k < 13 → l < 13 → p k = p l → k = l

theorem block_lt_of_cell {w : World} {a : Addr} {v : Value} (h : w.cell? a = some v) : a.block < w.heap.size := by
  rcases Nat.lt_or_ge a.block w.heap.size with h' | h'
  · exact h'
  · simp [World.cell?, Array.getElem?_eq_none h'] at h

theorem Env.below {p : Nat → Addr} {w w' : World} (E : Env p w) (hb : Below w.heap.size w w') : Env p w' where
  s0 := (hb.cell (p := ⟨6, 0, none⟩) (block_lt_of_cell E.s0)).trans E.s0
  s1 := (hb.cell (p := ⟨1, 0, none⟩) (block_lt_of_cell E.s1)).trans E.s1
  s2 := (hb.cell (p := ⟨0, 0, none⟩) (block_lt_of_cell E.s2)).trans E.s2
  s3 := (hb.cell (p := ⟨7, 0, none⟩) (block_lt_of_cell E.s3)).trans E.s3
  s4 := (hb.cell (p := ⟨3, 0, none⟩) (block_lt_of_cell E.s4)).trans E.s4
  s5 := (hb.cell (p := ⟨4, 0, none⟩) (block_lt_of_cell E.s5)).trans E.s5
  s6 := (hb.cell (p := ⟨8, 0, none⟩) (block_lt_of_cell E.s6)).trans E.s6
  s7 := (hb.cell (p := ⟨2, 0, none⟩) (block_lt_of_cell E.s7)).trans E.s7
  s8 := (hb.cell (p := ⟨9, 0, none⟩) (block_lt_of_cell E.s8)).trans E.s8
  s9 := (hb.cell (p := ⟨10, 0, none⟩) (block_lt_of_cell E.s9)).trans E.s9
  s10 := (hb.cell (p := ⟨11, 0, none⟩) (block_lt_of_cell E.s10)).trans E.s10
  s11 := (hb.cell (p := ⟨12, 0, none⟩) (block_lt_of_cell E.s11)).trans E.s11
  s12 := (hb.cell (p := ⟨5, 0, none⟩) (block_lt_of_cell E.s12)).trans E.s12
  handle := (hb.cell (p := ⟨13, 0, none⟩) (block_lt_of_cell E.handle)).trans E.handle
  rows k hk := by
    obtain ⟨c, t, h⟩ := E.rows k hk
    exact ⟨c, t, (hb.block _ (Array.getElem?_eq_some_iff.1 h).1).trans h⟩
  inj := E.inj

/-- The number of the error at place j (13: none of them). -/
def codeOf (j : Nat) : Int := if j < 13 then (j : Int) + 1 else -1

theorem codeOf_lt {j : Nat} (h : j < 13) : (j : Int) + 1 = codeOf j := by simp [codeOf, h]

theorem code_nil (w : World) : Calls Tryz.prog 51 #[.nilIface] w fun e w' => e = .returned (.tuple #[.int .i64 0, .int .i64 (-1)]) ∧ w' = w := by
  go_enter Tryz.func51, Tryz.ntmps51
  go_wp2
  go_ret2
  exact ⟨rfl, rfl⟩

theorem sent_cells (p : Nat → Addr) (w : World) (k : Nat) (h : k < 13) : (w.alloc (.cells #[.iface 311 (.pointer (some (p 0))), .iface 311 (.pointer (some (p 1))), .iface 311 (.pointer (some (p 2))), .iface 311 (.pointer (some (p 3))), .iface 311 (.pointer (some (p 4))), .iface 311 (.pointer (some (p 5))), .iface 311 (.pointer (some (p 6))), .iface 311 (.pointer (some (p 7))), .iface 311 (.pointer (some (p 8))), .iface 311 (.pointer (some (p 9))), .iface 311 (.pointer (some (p 10))), .iface 311 (.pointer (some (p 11))), .iface 311 (.pointer (some (p 12)))] 43)).cell? ⟨w.heap.size, k, none⟩ = some (.iface 311 (.pointer (some (p k)))) := by
  rw [World.cell?_alloc_at _ _ _ _ rfl]
  have h' : k = 0 ∨ k = 1 ∨ k = 2 ∨ k = 3 ∨ k = 4 ∨ k = 5 ∨ k = 6 ∨ k = 7 ∨ k = 8 ∨ k = 9 ∨ k = 10 ∨ k = 11 ∨ k = 12 := by omega
  rcases h' with rfl | rfl | rfl | rfl | rfl | rfl | rfl | rfl | rfl | rfl | rfl | rfl | rfl <;> rfl

set_option maxHeartbeats 1000000 in
/-- Code of an error of errors.New's make. -/
theorem code_str (p : Nat → Addr) (j : Nat) (a : Addr) (ca : Array Value) (ta : TypeId) (w : World) (E : Env p w) (ha : w.heap[a.block]? = some (.cells ca ta (0, 0))) (hj : j ≤ 13) (hp : ∀ k, k < 13 → (a = p k ↔ k = j)) :
    Calls Tryz.prog 51 #[.iface 311 (.pointer (some a))] w fun e w' => e = .returned (.tuple #[.int .i64 (codeOf j), .int .i64 (-1)]) ∧ Below w.heap.size w w' := by
  have hal : a.block < w.heap.size := (Array.getElem?_eq_some_iff.1 ha).1
  have E0 : Env p (w.alloc (.cells #[.pointer none] 146)) := E.below ((Below.refl _ _).alloc (Nat.le_refl _) _)
  have HE : Hid (Env p w) := E
  have HE0 : Hid (Env p (w.alloc (.cells #[.pointer none] 146))) := E0
  have HP : Hid (∀ k, k < 13 → (a = p k ↔ k = j)) := hp
  have HA : Hid (w.heap[a.block]? = some (.cells ca ta (0, 0))) := ha
  clear E E0 hp ha
  go_enter Tryz.func51, Tryz.ntmps51
  go_wp2_with fail
  refine (as_miss _ _ _ HE0.out.handle).mono ?_
  rintro e w1 ⟨rfl, hb1⟩
  have E1 := HE0.out.below hb1
  have g0 := E1.s0
  have g1 := E1.s1
  have g2 := E1.s2
  have g3 := E1.s3
  have g4 := E1.s4
  have g5 := E1.s5
  have g6 := E1.s6
  have g7 := E1.s7
  have g8 := E1.s8
  have g9 := E1.s9
  have g10 := E1.s10
  have g11 := E1.s11
  have g12 := E1.s12
  have HE1 : Hid (Env p w1) := E1
  have HB1 : Hid (Below (w.alloc (.cells #[.pointer none] 146)).heap.size (w.alloc (.cells #[.pointer none] 146)) w1) := hb1
  clear E1 hb1
  go_wp2_with fail
  clear g0 g1 g2 g3 g4 g5 g6 g7 g8 g9 g10 g11 g12
  have hc := sent_cells p w1
  have hB2 : Below w1.heap.size w1 (w1.alloc (.cells #[.iface 311 (.pointer (some (p 0))), .iface 311 (.pointer (some (p 1))), .iface 311 (.pointer (some (p 2))), .iface 311 (.pointer (some (p 3))), .iface 311 (.pointer (some (p 4))), .iface 311 (.pointer (some (p 5))), .iface 311 (.pointer (some (p 6))), .iface 311 (.pointer (some (p 7))), .iface 311 (.pointer (some (p 8))), .iface 311 (.pointer (some (p 9))), .iface 311 (.pointer (some (p 10))), .iface 311 (.pointer (some (p 11))), .iface 311 (.pointer (some (p 12)))] 43)) := (Below.refl _ _).alloc (Nat.le_refl _) _
  generalize w1.alloc (.cells #[.iface 311 (.pointer (some (p 0))), .iface 311 (.pointer (some (p 1))), .iface 311 (.pointer (some (p 2))), .iface 311 (.pointer (some (p 3))), .iface 311 (.pointer (some (p 4))), .iface 311 (.pointer (some (p 5))), .iface 311 (.pointer (some (p 6))), .iface 311 (.pointer (some (p 7))), .iface 311 (.pointer (some (p 8))), .iface 311 (.pointer (some (p 9))), .iface 311 (.pointer (some (p 10))), .iface 311 (.pointer (some (p 11))), .iface 311 (.pointer (some (p 12)))] 43) = W2 at hc hB2 ⊢
  have hsz : w.heap.size + 1 ≤ w1.heap.size := by have := HB1.out.size; simpa using this
  have hBw : Below w.heap.size w W2 := (((Below.refl _ w).alloc (Nat.le_refl _) (.cells #[.pointer none] 146)).trans (HB1.out.mono (by simp))).trans (hB2.mono (by omega))
  have HBW : Hid (Below w.heap.size w W2) := hBw
  have HC : Hid (∀ k, k < 13 → W2.cell? ⟨w1.heap.size, k, none⟩ = some (.iface 311 (.pointer (some (p k))))) := hc
  have HE2 : Hid (Env p W2) := HE.out.below hBw
  have HA2 : Hid (W2.heap[a.block]? = some (.cells ca ta (0, 0))) := (hBw.block _ hal).trans HA.out
  clear hc hB2 hBw HB1 HE1 HE0 HE HA
  go_loop [3, 31] (fun t i => ∃ k : Nat, k ≤ 13 ∧ k ≤ j ∧ t = .int .i64 (-1) ∧ i = .int .i64 k) (fun _ i => 13 - (intOf i).toNat)
  case atStart => exact ⟨0, by omega, by omega, rfl, rfl⟩
  case round =>
    obtain ⟨k, hk, hkj, rfl, rfl⟩ := hrel
    by_cases hlt : k < 13
    · have hck := HC.out k hlt
      obtain ⟨cb, tb, hrow⟩ := HE2.out.rows k hlt
      have HR : Hid (W2.heap[(p k).block]? = some (.cells cb tb (0, 0))) := hrow
      clear hrow
      by_cases hkj2 : k = j
      · subst hkj2
        have hpa : a = p k := (HP.out k hlt).2 rfl
        subst hpa
        go_wp2_with fail
        refine (is_same _ _).mono ?_
        rintro e w' ⟨rfl, rfl⟩
        go_wp2
        go_ret2
        exact ⟨by rw [codeOf_lt hlt]; rfl, HBW.out⟩
      · have hpa : a ≠ p k := fun h => hkj2 ((HP.out k hlt).1 h)
        have HN : Hid (a ≠ p k) := hpa
        clear hpa
        go_wp2_with fail
        refine (is_other _ _ _ _ _ _ _ HN.out HA2.out HR.out).mono ?_
        rintro e w' ⟨rfl, rfl⟩
        go_wp2
        go_round
        case rel => exact ⟨k + 1, by omega, by omega, rfl, by go_num⟩
        case measure => simp [intOf]; omega
    · go_wp2
      go_ret2
      have hj13 : ¬ j < 13 := by omega
      exact ⟨by simp [codeOf, hj13], HBW.out⟩

set_option maxHeartbeats 1000000 in
/-- Code of a *api.Fault that bears one of the thirteen. -/
theorem code_fault (p : Nat → Addr) (j : Nat) (pb po : Nat) (n : Int) (w : World) (E : Env p w) (hj : j < 13) (h0 : w.cell? ⟨pb, po, none⟩ = some (.int .i64 n)) (h1 : w.cell? ⟨pb, po + 1, none⟩ = some (.iface 311 (.pointer (some (p j))))) :
    Calls Tryz.prog 51 #[.iface 146 (.pointer (some ⟨pb, po, none⟩))] w fun e w' => e = .returned (.tuple #[.int .i64 (codeOf j), .int .i64 n]) ∧ Below w.heap.size w w' := by
  have hpb : pb < w.heap.size := block_lt_of_cell h0
  have E0 : Env p (w.alloc (.cells #[.pointer none] 146)) := E.below ((Below.refl _ _).alloc (Nat.le_refl _) _)
  have HE : Hid (Env p w) := E
  have HE0 : Hid (Env p (w.alloc (.cells #[.pointer none] 146))) := E0
  have HX0 : Hid (w.cell? ⟨pb, po, none⟩ = some (.int .i64 n)) := h0
  have HX1 : Hid (w.cell? ⟨pb, po + 1, none⟩ = some (.iface 311 (.pointer (some (p j))))) := h1
  clear E E0 h0 h1
  go_enter Tryz.func51, Tryz.ntmps51
  go_wp2_with fail
  refine (as_hit ⟨pb, po, none⟩ ⟨w.heap.size, 0, none⟩ (.pointer none) (w.alloc (.cells #[.pointer none] 146)) HE0.out.handle (by simp) (by simp)).mono ?_
  rintro e w1 ⟨rfl, hw1⟩
  have hcf : w1.cell? ⟨w.heap.size, 0, none⟩ = some (.pointer (some ⟨pb, po, none⟩)) := by
    rw [hw1, World.cell?_setCell_same']
    rw [World.cell?_alloc_lt _ _ _ (by simp; omega), World.cell?_alloc_lt _ _ _ (by simp; omega), World.cell?_alloc_lt _ _ _ (by simp; omega), World.cell?_alloc_lt _ _ _ (by simp)]
    simp
  have hb1 : Below w.heap.size w w1 := by
    rw [hw1]
    exact ((((((Below.refl _ _).alloc (Nat.le_refl _) _).alloc (by simp) _).alloc (by simp; omega) _).alloc (by simp; omega) _).alloc (by simp; omega) _).setCell (Nat.le_refl _) _
  clear hw1
  have E1 := HE.out.below hb1
  have g0 := E1.s0
  have g1 := E1.s1
  have g2 := E1.s2
  have g3 := E1.s3
  have g4 := E1.s4
  have g5 := E1.s5
  have g6 := E1.s6
  have g7 := E1.s7
  have g8 := E1.s8
  have g9 := E1.s9
  have g10 := E1.s10
  have g11 := E1.s11
  have g12 := E1.s12
  have hx0 : w1.cell? ⟨pb, po, none⟩ = some (.int .i64 n) := (hb1.cell (p := ⟨pb, po, none⟩) hpb).trans HX0.out
  have HE1 : Hid (Env p w1) := E1
  have HB1 : Hid (Below w.heap.size w w1) := hb1
  clear E1 hb1
  go_wp2_with fail
  clear g0 g1 g2 g3 g4 g5 g6 g7 g8 g9 g10 g11 g12
  have hc := sent_cells p w1
  have hB2 : Below w1.heap.size w1 (w1.alloc (.cells #[.iface 311 (.pointer (some (p 0))), .iface 311 (.pointer (some (p 1))), .iface 311 (.pointer (some (p 2))), .iface 311 (.pointer (some (p 3))), .iface 311 (.pointer (some (p 4))), .iface 311 (.pointer (some (p 5))), .iface 311 (.pointer (some (p 6))), .iface 311 (.pointer (some (p 7))), .iface 311 (.pointer (some (p 8))), .iface 311 (.pointer (some (p 9))), .iface 311 (.pointer (some (p 10))), .iface 311 (.pointer (some (p 11))), .iface 311 (.pointer (some (p 12)))] 43)) := (Below.refl _ _).alloc (Nat.le_refl _) _
  generalize w1.alloc (.cells #[.iface 311 (.pointer (some (p 0))), .iface 311 (.pointer (some (p 1))), .iface 311 (.pointer (some (p 2))), .iface 311 (.pointer (some (p 3))), .iface 311 (.pointer (some (p 4))), .iface 311 (.pointer (some (p 5))), .iface 311 (.pointer (some (p 6))), .iface 311 (.pointer (some (p 7))), .iface 311 (.pointer (some (p 8))), .iface 311 (.pointer (some (p 9))), .iface 311 (.pointer (some (p 10))), .iface 311 (.pointer (some (p 11))), .iface 311 (.pointer (some (p 12)))] 43) = W2 at hc hB2 ⊢
  have hsz : w.heap.size ≤ w1.heap.size := HB1.out.size
  have hBw : Below w.heap.size w W2 := HB1.out.trans (hB2.mono hsz)
  have HBW : Hid (Below w.heap.size w W2) := hBw
  have HC : Hid (∀ k, k < 13 → W2.cell? ⟨w1.heap.size, k, none⟩ = some (.iface 311 (.pointer (some (p k))))) := hc
  have HE2 : Hid (Env p W2) := HE.out.below hBw
  have HX2 : Hid (W2.cell? ⟨pb, po + 1, none⟩ = some (.iface 311 (.pointer (some (p j))))) := (hBw.cell (p := ⟨pb, po + 1, none⟩) hpb).trans HX1.out
  clear hc hB2 hBw HB1 HE1 HE0 HE HX0 HX1 hx0 hcf
  go_loop [3, 31] (fun t i => ∃ k : Nat, k ≤ j ∧ t = .int .i64 n ∧ i = .int .i64 k) (fun _ i => 13 - (intOf i).toNat)
  case atStart => exact ⟨0, by omega, rfl, rfl⟩
  case round =>
    obtain ⟨k, hkj, rfl, rfl⟩ := hrel
    have hlt : k < 13 := by omega
    have hck := HC.out k hlt
    obtain ⟨cb, tb, hrow⟩ := HE2.out.rows k hlt
    have HR : Hid (W2.heap[(p k).block]? = some (.cells cb tb (0, 0))) := hrow
    obtain ⟨ca, ta, hrowj⟩ := HE2.out.rows j hj
    have HJ : Hid (W2.heap[(p j).block]? = some (.cells ca ta (0, 0))) := hrowj
    clear hrow hrowj
    by_cases hkj2 : k = j
    · subst hkj2
      go_wp2_with fail
      refine (is_fault_same _ _ _ _ HX2.out).mono ?_
      rintro e w' ⟨rfl, rfl⟩
      go_wp2
      go_ret2
      exact ⟨by rw [codeOf_lt hlt]; rfl, HBW.out⟩
    · have HN : Hid (p j ≠ p k) := fun h => hkj2 (HE2.out.inj j k hj hlt h).symm
      have hlj : k < j := by omega
      clear hkj2
      go_wp2_with fail
      refine (is_fault_other _ _ _ _ _ _ _ _ _ HX2.out HN.out HJ.out HR.out).mono ?_
      rintro e w' ⟨rfl, rfl⟩
      go_wp2
      go_round
      case rel => exact ⟨k + 1, by omega, rfl, by go_num⟩
      case measure => simp [intOf]; omega
end Go.Proofs.YtaegcoidpjcbaaaGreatDoor
