/-
  path.Clean tells of every text that is not too long what the plain function tells: a contract, over this seat's translation.
-/
import Derived.Test.YtaegcoidpjcbaaaGreatDoorCheck
import Derived.RegionIn
import Derived.Deep.Onto
namespace Go.Proofs.YtaegcoidpjcbaaaGreatDoor
open Go.RowKit Go.Shelf

theorem hasPrefix_slash (l : List UInt8) : Lib.hasPrefix l [47] = (l.head? == some 47) := by
  cases l with
  | nil => rfl
  | cons c r =>
    have : ((47 : UInt8) == c) = (c == 47) := by rw [Bool.eq_iff_iff]; simp; exact eq_comm
    simp [Lib.hasPrefix, List.isPrefixOf, this]

theorem hasPrefix_is (l q : List UInt8) (r : Bool) (w : World) (h : Lib.hasPrefix l q = r) : Calls Tryz.prog 117 #[.string ⟨l.toArray⟩, .string ⟨q.toArray⟩] w fun e w' => e = .returned (.bool r) ∧ w' = w := by
  have := Tryz.strings_HasPrefix ⟨l.toArray⟩ ⟨q.toArray⟩ w
  simp only at this
  rwa [h] at this

theorem isPart_is (l : List UInt8) (r : Bool) (w : World) (hl : l.length ≤ 100000) (h : isPart l = r) : Calls Tryz.prog 57 #[.string ⟨l.toArray⟩] w fun e w' => e = .returned (.bool r) ∧ w = w' := by
  have := isPart_any l w hl
  rw [h] at this
  exact this.mono fun _ _ ⟨a, b⟩ => ⟨a, b.symm⟩

theorem Tryz.info9 : (Tryz.prog.info? 9).map (fun i => (i.zero, i.size, i.bytes)) = some (some (.string ⟨#[]⟩), 1, 16) := by kernel_rfl

attribute [local go_sem] Oper.semAt_some

abbrev sv (l : List UInt8) : Value := .string ⟨l.toArray⟩

/-- The pieces kept and the error's number behind some pieces. -/
def keptOf (pre : List Pc) : List (List UInt8) := (cleanF (pre.map (·.1))).1
def codeAt (pre : List Pc) : Nat := (cleanF (pre.map (·.1))).2

theorem keptOf_snoc (pre : List Pc) (x : Pc) : (keptOf (pre ++ [x]), codeAt (pre ++ [x])) = cleanStep (keptOf pre, codeAt pre) x.1 := by
  simp [keptOf, codeAt, cleanF_snoc]
theorem snoc_of {pre : List Pc} {x : Pc} {k : List (List UInt8)} {c : Nat} (h : cleanStep (keptOf pre, codeAt pre) x.1 = (k, c)) : keptOf (pre ++ [x]) = k ∧ codeAt (pre ++ [x]) = c := by
  have := (keptOf_snoc pre x).trans h
  simpa using this

theorem stored_both {W w : World} {b : Nat} {x y u0 u1 : Value} (hc0 : W.cell? ⟨b, 0, none⟩ = some u0) (hc1 : W.cell? ⟨b + 1, 0, none⟩ = some u1) (hB : Below b w W) :
    (((W.setCell ⟨b, 0, none⟩ x).setCell ⟨b + 1, 0, none⟩ y).cell? ⟨b, 0, none⟩ = some x) ∧ (((W.setCell ⟨b, 0, none⟩ x).setCell ⟨b + 1, 0, none⟩ y).cell? ⟨b + 1, 0, none⟩ = some y) ∧
      Below b w ((W.setCell ⟨b, 0, none⟩ x).setCell ⟨b + 1, 0, none⟩ y) ∧ KeepsOthers W ((W.setCell ⟨b, 0, none⟩ x).setCell ⟨b + 1, 0, none⟩ y) := by
  refine ⟨?_, ?_, (hB.setCell (p := ⟨b, 0, none⟩) (Nat.le_refl _) _).setCell (p := ⟨b + 1, 0, none⟩) (by simp) _, (KeepsOthers.setCell _ _ _).trans (KeepsOthers.setCell _ _ _)⟩
  · rw [cell_far (by simp), cell_set hc0]
  · exact cell_set (u := u1) (by rw [cell_far (by simp)]; exact hc1)

theorem stored_two {W w : World} {b : Nat} {x y u0 u1 : Value} (hc0 : W.cell? ⟨b, 0, none⟩ = some u0) (hc1 : W.cell? ⟨b + 1, 0, none⟩ = some u1) (hB : Below b w W) :
    (((W.setCell ⟨b, 0, none⟩ x).setCell ⟨b + 1, 0, none⟩ y).drew.cell? ⟨b, 0, none⟩ = some x) ∧ (((W.setCell ⟨b, 0, none⟩ x).setCell ⟨b + 1, 0, none⟩ y).drew.cell? ⟨b + 1, 0, none⟩ = some y) ∧
      Below b w ((W.setCell ⟨b, 0, none⟩ x).setCell ⟨b + 1, 0, none⟩ y).drew ∧ KeepsOthers W ((W.setCell ⟨b, 0, none⟩ x).setCell ⟨b + 1, 0, none⟩ y).drew := by
  obtain ⟨q0, q1, q2, q3⟩ := stored_both (x := x) (y := y) hc0 hc1 hB
  exact ⟨q0, q1, q2.drew, q3.trans (KeepsOthers.drew _)⟩

theorem append_keeps {W w1 : World} {n₁ B j k : Nat} {e : TypeId} {size : Nat} {v : Value} {xs : List Value} {tmp : Obj} (hrow : W.ownsRow n₁ e size v k xs) (hgrow : (W.alloc tmp).grownBy w1 v.ownBlock)
    (hj : j < n₁) (hjW : j < W.heap.size) (hne : j ≠ B) (u : Value) : (w1.setCell ⟨B, 0, none⟩ u).heap[j]? = W.heap[j]? := by
  rw [Below.heap_setCell _ _ _ _ (by simpa using hne), hgrow.block j (by simp; omega) (fun h => by have := hrow.lt j h.symm; omega)]
  exact Below.heap_alloc _ _ _ hjW

/-- strings.Join of a slice that owns some pieces. -/
theorem join_any (base g cap : Nat) (k : List (List UInt8)) (w : World) (hrow : w.ownsRow base 9 1 (.slice (some ⟨g, 0, none⟩) k.length cap) k.length (k.map sv)) (hk : k.length ≤ 100000) (hM : ∀ x ∈ k, x.length ≤ 100000) :
    Calls Tryz.prog 183 #[.slice (some ⟨g, 0, none⟩) k.length cap, .string ⟨#[47]⟩] w fun e w' => e = .returned (.string ⟨(Lib.join k [47]).toArray⟩) ∧ Below w.heap.size w w' := by
  have hl := join_length hM
  have hmap : (k.map fun l => (⟨l.toArray⟩ : ByteArray)).map (·.data.toList) = k := by
    rw [List.map_map]
    have : ((fun x : ByteArray => x.data.toList) ∘ fun l : List UInt8 => (⟨l.toArray⟩ : ByteArray)) = id := by funext l; simp
    rw [this, List.map_id]
  have hcap : k.length ≤ cap := by
    rcases hrow.2 with ⟨h, _⟩ | ⟨g', cap', cur, hv', _, _, h1, _, _⟩
    · cases h
    · cases hv'; exact h1
  have hb : g < w.heap.size := (hrow.lt g rfl).2
  have := Tryz.strings_Join g 0 cap (k.map fun l => ⟨l.toArray⟩) ⟨#[47]⟩ w (fun j x hx => by
      have hj : j < k.length := by
        have := (List.getElem?_eq_some_iff.1 hx).1
        simpa using this
      rw [Nat.zero_add, hrow.cellAt j (by omega)]
      rw [List.getElem?_map] at hx ⊢
      rw [List.getElem?_eq_getElem hj] at hx ⊢
      simp at hx ⊢
      exact hx) hb (by simp; omega) (by simpa using hcap) (by
      rw [hmap]
      have e : (⟨#[47]⟩ : ByteArray).data.toList = [47] := rfl
      rw [e]
      omega)
  rw [hmap, List.length_map] at this
  exact this

theorem ownsRow_slice {W : World} {base : Nat} {e : TypeId} {size : Nat} {v : Value} {n : Nat} {xs : List Value} (h : W.ownsRow base e size v n xs) : ∃ a cap, v = .slice a n cap := by
  rcases h.2 with ⟨rfl, rfl⟩ | ⟨g, cap, cur, rfl, _⟩
  · exact ⟨_, _, rfl⟩
  · exact ⟨_, _, rfl⟩

theorem join_all (base cap : Nat) (a : Option Addr) (k : List (List UInt8)) (w : World) (hrow : w.ownsRow base 9 1 (.slice a k.length cap) k.length (k.map sv)) (hk : k.length ≤ 100000) (hM : ∀ x ∈ k, x.length ≤ 100000) :
    Calls Tryz.prog 183 #[.slice a k.length cap, .string ⟨#[47]⟩] w fun e w' => e = .returned (.string ⟨(Lib.join k [47]).toArray⟩) ∧ Below w.heap.size w w' := by
  cases k with
  | nil => exact (Tryz.strings_Join_none a cap ⟨#[47]⟩ w).mono fun _ _ ⟨h, h'⟩ => ⟨h, by rw [h']; exact Below.refl _ _⟩
  | cons x k =>
    obtain ⟨g, cap', hv⟩ := ownsRow_succ (k := k.length) hrow
    simp only [Value.slice.injEq] at hv
    obtain ⟨rfl, _, rfl⟩ := hv
    exact join_any base g cap (x :: k) w hrow hk hM

end Go.Proofs.YtaegcoidpjcbaaaGreatDoor
