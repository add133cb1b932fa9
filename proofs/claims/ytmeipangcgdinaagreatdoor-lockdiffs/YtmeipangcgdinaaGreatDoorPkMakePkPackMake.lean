/-
  Own texts of the proof, joined by program: PkMake, PkPackMake.
-/
import Derived.Test.YtmeipangcgdinaaGreatDoorToldPkPackRead
import Derived.Test.YtmeipangcgdinaaGreatDoorWritten
import Derived.Deep.RegionHeld3
/-
  Package pack: head: a contract, over this seat's translation.
-/
namespace Go.Proofs.YtmeipangcgdinaaGreatDoor
open Go.RowKit Go.Shelf

theorem line_of (f : F) : lineL f = f.p ++ [32] ++ (if f.r = true then [120] else [102]) ++ [32] ++ digitsL f.t.length := by
  unfold lineL
  cases f.r <;> simp

/-- Four texts behind a first one, one after another. -/
theorem adds (a m d : List UInt8) (ha : a.length ≤ 100000) (hm : m.length ≤ 1) (hd : d.length ≤ 6) : ∃ x1 x2 x3 x4 : List UInt8,
    (∀ W, (Op.stringOp .add ⟨a.toArray⟩ ⟨#[32]⟩).run Tryz.prog W = .ok (.string ⟨x1.toArray⟩) W) ∧ (∀ W, (Op.stringOp .add ⟨x1.toArray⟩ ⟨m.toArray⟩).run Tryz.prog W = .ok (.string ⟨x2.toArray⟩) W) ∧
    (∀ W, (Op.stringOp .add ⟨x2.toArray⟩ ⟨#[32]⟩).run Tryz.prog W = .ok (.string ⟨x3.toArray⟩) W) ∧ (∀ W, (Op.stringOp .add ⟨x3.toArray⟩ ⟨d.toArray⟩).run Tryz.prog W = .ok (.string ⟨x4.toArray⟩) W) ∧ x4 = a ++ [32] ++ m ++ [32] ++ d :=
  ⟨a ++ [32], a ++ [32] ++ m, a ++ [32] ++ m ++ [32], a ++ [32] ++ m ++ [32] ++ d, fun W => run_string_add_lists (P := Tryz.prog) W a [32] (by omega) (by simp), fun W => run_string_add_lists (P := Tryz.prog) W _ m (by simp; omega) (by omega),
    fun W => run_string_add_lists (P := Tryz.prog) W _ [32] (by simp; omega) (by simp), fun W => run_string_add_lists (P := Tryz.prog) W _ d (by simp; omega) (by omega), rfl⟩

end Go.Proofs.YtmeipangcgdinaaGreatDoor
/-
  Package pack: Make: a contract, over this seat's translation.
-/
namespace Go.Proofs.YtmeipangcgdinaaGreatDoor
open Go.RowKit Go.Shelf

theorem pack_bound {l : List F} (h1 : ∀ f ∈ l, f.p.length ≤ 40000) (h2 : ∀ f ∈ l, f.t.length ≤ 500000) : (packL l).length ≤ 540020 * l.length := by
  induction l with
  | nil => simp [packL]
  | cons f l ih =>
    have i := ih (fun g hg => h1 g (by simp [hg])) (fun g hg => h2 g (by simp [hg]))
    have a := h1 f (by simp)
    have b := h2 f (by simp)
    have c := digits_length 5 f.t.length (by omega)
    have d := fileL_length f
    rw [packL_cons, List.length_append, List.length_cons]
    omega
theorem pack_take {l : List F} {q : Nat} (h : q < l.length) : packL (l.take (q + 1)) = packL (l.take q) ++ fileL l[q] := by
  rw [List.take_succ_eq_append_getElem h, packL_snoc]

/-- What Make answers. -/
def makeL (l : List F) : List UInt8 := if (treeFault l).1 = 0 then packL l else []
theorem make_yes {l : List F} (h : (treeFault l).1 = 0) : makeL l = packL l := by unfold makeL; rw [if_pos h]
theorem make_no {l : List F} (h : (treeFault l).1 ≠ 0) : makeL l = [] := by unfold makeL; rw [if_neg h]

theorem box_cell {w : World} {k : Nat} {x y z : Value} {T : TypeId} {fz : Nat × Nat} (h : w.heap[k]? = some (.cells #[x, y, z] T fz)) : w.cell? ⟨k, 0, none⟩ = some x ∧ w.cell? ⟨k, 1, none⟩ = some y ∧ w.cell? ⟨k, 2, none⟩ = some z := by
  refine ⟨?_, ?_, ?_⟩ <;> simp [World.cell?, h]

end Go.Proofs.YtmeipangcgdinaaGreatDoor
