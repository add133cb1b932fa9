/-
  The law Names returns true, whatever memory it is called in, if the listed variables hold what the row lists: the walk of the law, over this seat's translation.
-/
import Derived.Test.YtolilfddhbaeaaaDoorCode
import Derived.Deep.QuietTactic
import Derived.BigQuiet
import Derived.WalkSmall
namespace Go.Proofs.YtolilfddhbaeaaaDoor
open Go.RowKit Go.Extern.Stop Go.Stop Go.Extern

theorem code_sent (p : Nat → Addr) (j : Nat) (w : World) (E : Env p w) (hj : j < 13) :
    Calls Tryd.prog 8 #[.iface 56 (.pointer (some (p j)))] w fun e w' => e = .returned (.tuple #[.int .i64 ((j : Int) + 1), .int .i64 (-1)]) ∧ Below w.heap.size w w' := by
  obtain ⟨c, t, h⟩ := E.rows j hj
  have := code_str p j (p j) c t w E h (Nat.le_of_lt hj) (fun k hk => ⟨fun e => (E.inj j k hj hk e).symm, fun e => by rw [e]⟩)
  rwa [← codeOf_lt hj] at this

theorem code_flaw (p : Nat → Addr) (j : Nat) (pb po : Nat) (n : Int) (w : World) (E : Env p w) (hj : j < 13) (h0 : w.cell? ⟨pb, po, none⟩ = some (.int .i64 n)) (h1 : w.cell? ⟨pb, po + 1, none⟩ = some (.iface 56 (.pointer (some (p j))))) :
    Calls Tryd.prog 8 #[.iface 29 (.pointer (some ⟨pb, po, none⟩))] w fun e w' => e = .returned (.tuple #[.int .i64 ((j : Int) + 1), .int .i64 n]) ∧ Below w.heap.size w w' := by
  have := code_fault p j pb po n w E hj h0 h1
  rwa [← codeOf_lt hj] at this

theorem code_another (p : Nat → Addr) (a : Addr) (ca : Array Value) (ta : TypeId) (w : World) (E : Env p w) (ha : w.heap[a.block]? = some (.cells ca ta (0, 0))) (hp : ∀ k, k < 13 → a ≠ p k) :
    Calls Tryd.prog 8 #[.iface 56 (.pointer (some a))] w fun e w' => e = .returned (.tuple #[.int .i64 (-1), .int .i64 (-1)]) ∧ Below w.heap.size w w' :=
  code_str p 13 a ca ta w E ha (Nat.le_refl _) (fun k hk => ⟨fun e => absurd e (hp k hk), fun e => by omega⟩)

/-- coded(err, code), where Code tells this number and no place. -/
theorem coded_yes (e : Value) (c : Int) (w : World) (h : Calls Tryd.prog 8 #[e] w fun e w' => e = .returned (.tuple #[.int .i64 c, .int .i64 (-1)]) ∧ Below w.heap.size w w') :
    Calls Tryd.prog 9 #[e, .int .i64 c] w fun e w' => e = .returned (.bool true) ∧ Below w.heap.size w w' := by
  have H : Hid (Calls Tryd.prog 8 #[e] w fun e w' => e = .returned (.tuple #[.int .i64 c, .int .i64 (-1)]) ∧ Below w.heap.size w w') := h
  clear h
  go_enter Tryd.func9, Tryd.ntmps9
  go_wp2_with fail
  refine H.out.mono ?_
  rintro e w1 ⟨rfl, hb⟩
  have HB : Hid (Below w.heap.size w w1) := hb
  clear hb
  go_wp2
  go_ret
  exact ⟨rfl, HB.out⟩

/-- coded(err, code), where Code tells another number. -/
theorem coded_no (e : Value) (c d : Int) (n : Int) (w : World) (hne : c ≠ d) (h : Calls Tryd.prog 8 #[e] w fun e w' => e = .returned (.tuple #[.int .i64 c, .int .i64 n]) ∧ Below w.heap.size w w') :
    Calls Tryd.prog 9 #[e, .int .i64 d] w fun e w' => e = .returned (.bool false) ∧ Below w.heap.size w w' := by
  have H : Hid (Calls Tryd.prog 8 #[e] w fun e w' => e = .returned (.tuple #[.int .i64 c, .int .i64 n]) ∧ Below w.heap.size w w') := h
  have hcd : (c == d) = false := by simpa using hne
  clear h hne
  go_enter Tryd.func9, Tryd.ntmps9
  go_wp2_with fail
  refine H.out.mono ?_
  rintro e w1 ⟨rfl, hb⟩
  have HB : Hid (Below w.heap.size w w1) := hb
  clear hb
  go_wp2
  go_ret
  exact ⟨rfl, HB.out⟩

theorem coded_nil (w : World) : Calls Tryd.prog 9 #[.nilIface, .int .i64 0] w fun e w' => e = .returned (.bool true) ∧ Below w.heap.size w w' :=
  coded_yes .nilIface 0 w ((code_nil w).mono fun _ _ ⟨h, h'⟩ => ⟨h, by rw [h']; exact Below.refl _ _⟩)

/-- errors.New. -/
theorem new_any (s : ByteArray) (w : World) : Calls Tryd.prog 10 #[.string s] w fun e w' => e = .returned (.iface 56 (.pointer (some ⟨w.heap.size, 0, none⟩))) ∧ w' = w.alloc (.cells #[.string s] 58) := by
  go_enter Tryd.func10, Tryd.ntmps10
  go_wp2
  go_ret
  exact ⟨rfl, rfl⟩

/-- SameInts of two slices that hold the same numbers. -/
theorem sameInts_yes (b1 b2 n c1 c2 : Nat) (f : Nat → Int) (w : World) (hn : n ≤ 1000) (h1 : ∀ k, k < n → w.cell? ⟨b1, k, none⟩ = some (.int .i64 (f k))) (h2 : ∀ k, k < n → w.cell? ⟨b2, k, none⟩ = some (.int .i64 (f k))) :
    Calls Tryd.prog 7 #[.slice (some ⟨b1, 0, none⟩) n c1, .slice (some ⟨b2, 0, none⟩) n c2] w fun e w' => e = .returned (.bool true) ∧ Below w.heap.size w w' := by
  have H1 : Hid (∀ k, k < n → w.cell? ⟨b1, k, none⟩ = some (.int .i64 (f k))) := h1
  have H2 : Hid (∀ k, k < n → w.cell? ⟨b2, k, none⟩ = some (.int .i64 (f k))) := h2
  clear h1 h2
  go_enter Tryd.func7, Tryd.ntmps7
  go_wp2_with fail
  go_loopw [5] (fun i wr => ∃ k : Nat, k ≤ n ∧ i = .int .i64 k ∧ Below w.heap.size w wr) (fun i _ => n - (intOf i).toNat)
  case atStart => exact ⟨0, by omega, rfl, Below.refl _ _⟩
  case round =>
    obtain ⟨k, hk, rfl, hb⟩ := hrel
    have HB : Hid (Below w.heap.size w wr) := hb
    clear hb
    by_cases hlt : k < n
    · have hc1 : wr.cell? ⟨b1, k, none⟩ = some (.int .i64 (f k)) := (HB.out.cell (p := ⟨b1, k, none⟩) (block_lt_of_cell (H1.out k hlt))).trans (H1.out k hlt)
      have hc2 : wr.cell? ⟨b2, k, none⟩ = some (.int .i64 (f k)) := (HB.out.cell (p := ⟨b2, k, none⟩) (block_lt_of_cell (H2.out k hlt))).trans (H2.out k hlt)
      have hlt' : (k : Int) < (n : Int) := by omega
      go_wp2_with fail
      go_quiet (fail)
      go_wp2
      go_roundw
      case rel => exact ⟨k + 1, by omega, by go_num, below_drewN HB.out _⟩
      case measure => simp [intOf]; omega
    · go_wp2
      go_ret
      exact ⟨rfl, HB.out⟩

theorem heap_alloc_new (w : World) (o : Obj) : (w.alloc o).heap[w.heap.size]? = some o := by
  show (w.heap.push o)[w.heap.size]? = _
  simp

def bounds (k : Nat) : Int := [6, 12, 30, 4000, 12000, 20000, 1048576, 10, 8, 20, 40, 80, 16].getD k 0

theorem num_cells (w : World) (k : Nat) (h : k < 13) : (w.alloc (.cells #[.int .i64 6, .int .i64 12, .int .i64 30, .int .i64 4000, .int .i64 12000, .int .i64 20000, .int .i64 1048576, .int .i64 10, .int .i64 8, .int .i64 20, .int .i64 40, .int .i64 80, .int .i64 16] 3)).cell? ⟨w.heap.size, k, none⟩ = some (.int .i64 (bounds k)) := by
  rw [World.cell?_alloc_at _ _ _ _ rfl]
  have h' : k = 0 ∨ k = 1 ∨ k = 2 ∨ k = 3 ∨ k = 4 ∨ k = 5 ∨ k = 6 ∨ k = 7 ∨ k = 8 ∨ k = 9 ∨ k = 10 ∨ k = 11 ∨ k = 12 := by omega
  rcases h' with rfl | rfl | rfl | rfl | rfl | rfl | rfl | rfl | rfl | rfl | rfl | rfl | rfl <;> rfl

set_option maxHeartbeats 2000000 in
theorem names_any (p : Nat → Addr) (w : World) (E : Env p w) :
    Calls Tryd.prog 3 #[] w fun e w' => e = .returned (.bool true) ∧ Below w.heap.size w w' := by
  have HE : Hid (Env p w) := E
  clear E
  go_enter Tryd.func3, Tryd.ntmps3
  go_wp2_with fail
  have hn1 : ∀ k, k < 13 → ((w.alloc (.cells #[.int .i64 6, .int .i64 12, .int .i64 30, .int .i64 4000, .int .i64 12000, .int .i64 20000, .int .i64 1048576, .int .i64 10, .int .i64 8, .int .i64 20, .int .i64 40, .int .i64 80, .int .i64 16] 3)).alloc (.cells #[.int .i64 6, .int .i64 12, .int .i64 30, .int .i64 4000, .int .i64 12000, .int .i64 20000, .int .i64 1048576, .int .i64 10, .int .i64 8, .int .i64 20, .int .i64 40, .int .i64 80, .int .i64 16] 3)).cell? ⟨w.heap.size, k, none⟩ = some (.int .i64 (bounds k)) := fun k hk => by
    rw [World.cell?_alloc_lt _ _ _ (by simp)]; exact num_cells w k hk
  have hn2 : ∀ k, k < 13 → ((w.alloc (.cells #[.int .i64 6, .int .i64 12, .int .i64 30, .int .i64 4000, .int .i64 12000, .int .i64 20000, .int .i64 1048576, .int .i64 10, .int .i64 8, .int .i64 20, .int .i64 40, .int .i64 80, .int .i64 16] 3)).alloc (.cells #[.int .i64 6, .int .i64 12, .int .i64 30, .int .i64 4000, .int .i64 12000, .int .i64 20000, .int .i64 1048576, .int .i64 10, .int .i64 8, .int .i64 20, .int .i64 40, .int .i64 80, .int .i64 16] 3)).cell? ⟨w.heap.size + 1, k, none⟩ = some (.int .i64 (bounds k)) := fun k hk => by
    have := num_cells (w.alloc (.cells #[.int .i64 6, .int .i64 12, .int .i64 30, .int .i64 4000, .int .i64 12000, .int .i64 20000, .int .i64 1048576, .int .i64 10, .int .i64 8, .int .i64 20, .int .i64 40, .int .i64 80, .int .i64 16] 3)) k hk
    rwa [World.size_alloc] at this
  refine (sameInts_yes _ _ 13 13 13 bounds _ (by decide) hn1 hn2).mono ?_
  rintro e w1 ⟨rfl, hb1⟩
  have hb : Below w.heap.size w w1 := (((Below.refl _ w).alloc (Nat.le_refl _) _).alloc (by simp) _).trans (hb1.mono (by simp; omega))
  clear hb1 hn1 hn2
  have E1 := HE.out.below hb
  have g0 := E1.sent 0 (by decide)
  have g1 := E1.sent 1 (by decide)
  have g2 := E1.sent 2 (by decide)
  have g3 := E1.sent 3 (by decide)
  have g4 := E1.sent 4 (by decide)
  have g5 := E1.sent 5 (by decide)
  have g6 := E1.sent 6 (by decide)
  have g7 := E1.sent 7 (by decide)
  have g8 := E1.sent 8 (by decide)
  have g9 := E1.sent 9 (by decide)
  have g10 := E1.sent 10 (by decide)
  have g11 := E1.sent 11 (by decide)
  have g12 := E1.sent 12 (by decide)
  have HE1 : Hid (Env p w1) := E1
  have HB1 : Hid (Below w.heap.size w w1) := hb
  clear E1 hb HE
  go_wp2_with fail
  clear g0 g1 g2 g3 g4 g5 g6 g7 g8 g9 g10 g11 g12
  have hc := sent_cells p w1
  have hB2 : Below w1.heap.size w1 (w1.alloc (.cells #[.iface 56 (.pointer (some (p 0))), .iface 56 (.pointer (some (p 1))), .iface 56 (.pointer (some (p 2))), .iface 56 (.pointer (some (p 3))), .iface 56 (.pointer (some (p 4))), .iface 56 (.pointer (some (p 5))), .iface 56 (.pointer (some (p 6))), .iface 56 (.pointer (some (p 7))), .iface 56 (.pointer (some (p 8))), .iface 56 (.pointer (some (p 9))), .iface 56 (.pointer (some (p 10))), .iface 56 (.pointer (some (p 11))), .iface 56 (.pointer (some (p 12)))] 25)) := (Below.refl _ _).alloc (Nat.le_refl _) _
  have hz2 : w1.heap.size < (w1.alloc (.cells #[.iface 56 (.pointer (some (p 0))), .iface 56 (.pointer (some (p 1))), .iface 56 (.pointer (some (p 2))), .iface 56 (.pointer (some (p 3))), .iface 56 (.pointer (some (p 4))), .iface 56 (.pointer (some (p 5))), .iface 56 (.pointer (some (p 6))), .iface 56 (.pointer (some (p 7))), .iface 56 (.pointer (some (p 8))), .iface 56 (.pointer (some (p 9))), .iface 56 (.pointer (some (p 10))), .iface 56 (.pointer (some (p 11))), .iface 56 (.pointer (some (p 12)))] 25)).heap.size := by simp
  generalize w1.alloc (.cells #[.iface 56 (.pointer (some (p 0))), .iface 56 (.pointer (some (p 1))), .iface 56 (.pointer (some (p 2))), .iface 56 (.pointer (some (p 3))), .iface 56 (.pointer (some (p 4))), .iface 56 (.pointer (some (p 5))), .iface 56 (.pointer (some (p 6))), .iface 56 (.pointer (some (p 7))), .iface 56 (.pointer (some (p 8))), .iface 56 (.pointer (some (p 9))), .iface 56 (.pointer (some (p 10))), .iface 56 (.pointer (some (p 11))), .iface 56 (.pointer (some (p 12)))] 25) = W2 at hc hB2 hz2 ⊢
  have HC : Hid (∀ k, k < 13 → W2.cell? ⟨w1.heap.size, k, none⟩ = some (.iface 56 (.pointer (some (p k))))) := hc
  have HE2 : Hid (Env p W2) := HE1.out.below hB2
  have HB2 : Hid (Below w.heap.size w W2) := HB1.out.trans (hB2.mono HB1.out.size)
  have HZ2 : Hid (w1.heap.size < W2.heap.size) := hz2
  clear hc hB2 HB1 HE1 hz2
  go_loopw [4] (fun i wr => ∃ k : Nat, k ≤ 13 ∧ i = .int .i64 k ∧ Below W2.heap.size W2 wr) (fun i _ => 13 - (intOf i).toNat)
  case atStart => exact ⟨0, by omega, rfl, Below.refl _ _⟩
  case round =>
    obtain ⟨k, hk, rfl, hb⟩ := hrel
    have HB : Hid (Below W2.heap.size W2 wr) := hb
    clear hb
    by_cases hlt : k < 13
    · have hck : wr.cell? ⟨w1.heap.size, k, none⟩ = some (.iface 56 (.pointer (some (p k)))) := (HB.out.cell (p := ⟨w1.heap.size, k, none⟩) HZ2.out).trans (HC.out k hlt)
      have Er : Env p wr := HE2.out.below HB.out
      have hba : Below wr.heap.size wr (wr.alloc (.cells #[.int .i64 7, .iface 56 (.pointer (some (p k)))] 31)) := (Below.refl _ _).alloc (Nat.le_refl _) _
      have HEa : Hid (Env p (wr.alloc (.cells #[.int .i64 7, .iface 56 (.pointer (some (p k)))] 31))) := Er.below hba
      have HBA : Hid (Below wr.heap.size wr (wr.alloc (.cells #[.int .i64 7, .iface 56 (.pointer (some (p k)))] 31))) := hba
      clear Er hba
      go_wp2_with fail
      refine (code_flaw p k wr.heap.size 0 7 _ HEa.out hlt (by simp) (by simp)).mono ?_
      rintro e w2 ⟨rfl, hb2⟩
      have HB2' : Hid (Below wr.heap.size wr w2) := HBA.out.trans (hb2.mono (by simp))
      have HEb : Hid (Env p w2) := HEa.out.below hb2
      have hzr : w1.heap.size < wr.heap.size := Nat.lt_of_lt_of_le HZ2.out HB.out.size
      have hck2 : w2.cell? ⟨w1.heap.size, k, none⟩ = some (.iface 56 (.pointer (some (p k)))) := (HB2'.out.cell (p := ⟨w1.heap.size, k, none⟩) hzr).trans hck
      clear hb2 hck HEa HBA
      go_wp2_with fail
      refine (coded_yes _ _ _ (code_sent p k _ HEb.out hlt)).mono ?_
      rintro e w3 ⟨rfl, hb3⟩
      have HB3 : Hid (Below W2.heap.size W2 w3) := HB.out.trans ((HB2'.out.trans (hb3.mono HB2'.out.size)).mono HB.out.size)
      clear hb3 hck2
      go_wp2
      go_roundw
      case rel => exact ⟨k + 1, by omega, by go_num, HB3.out⟩
      case measure => simp [intOf]; omega
    · have Er : Env p wr := HE2.out.below HB.out
      have hba : Below wr.heap.size wr (wr.alloc (.cells #[.string ⟨#[97, 110, 111, 116, 104, 101, 114, 32, 111, 110, 101]⟩] 58)) := (Below.refl _ _).alloc (Nat.le_refl _) _
      have HEr : Hid (Env p wr) := Er
      have HEa : Hid (Env p (wr.alloc (.cells #[.string ⟨#[97, 110, 111, 116, 104, 101, 114, 32, 111, 110, 101]⟩] 58))) := Er.below hba
      have HBA : Hid (Below wr.heap.size wr (wr.alloc (.cells #[.string ⟨#[97, 110, 111, 116, 104, 101, 114, 32, 111, 110, 101]⟩] 58))) := hba
      clear Er hba
      go_wp2_with fail
      refine (new_any _ _).mono ?_
      rintro e w2 ⟨rfl, rfl⟩
      go_wp2_with fail
      refine (code_another p _ #[.string ⟨#[97, 110, 111, 116, 104, 101, 114, 32, 111, 110, 101]⟩] 58 _ HEa.out (heap_alloc_new _ _) (fun k hk h => ?_)).mono ?_
      · obtain ⟨c, t, hr⟩ := HEr.out.rows k hk
        have hl := (Array.getElem?_eq_some_iff.1 hr).1
        rw [← h] at hl
        simp at hl
      rintro e w3 ⟨rfl, hb3⟩
      have HB3 : Hid (Below w.heap.size w w3) := HB2.out.trans ((HB.out.trans ((HBA.out.trans (hb3.mono (by simp))).mono HB.out.size)).mono HB2.out.size)
      clear hb3
      go_wp2_with fail
      refine (coded_nil _).mono ?_
      rintro e w4 ⟨rfl, hb4⟩
      have HB4 : Hid (Below w.heap.size w w4) := HB3.out.trans (hb4.mono HB3.out.size)
      clear hb4
      go_wp2
      go_ret
      exact ⟨rfl, HB4.out⟩
end Go.Proofs.YtolilfddhbaeaaaDoor
