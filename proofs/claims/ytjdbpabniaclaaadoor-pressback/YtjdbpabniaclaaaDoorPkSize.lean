/-
  Package press: Size: a contract, over this seat's translation.
-/
import Derived.Test.YtjdbpabniaclaaaDoorPkEach
import Derived.OneCell
namespace Go.Proofs.YtjdbpabniaclaaaDoor
open Go.RowKit Go.Shelf

theorem pressAdd_any (n k : Nat) (w : World) (hn : n ≤ 1000000000000000000) (hk : k ≤ 999999999) : Calls Tryd.prog 23 #[.int .i64 n, .int .i64 k] w fun e w' => e = .returned (.int .i64 ((n + k : Nat) : Int)) ∧ w' = w := by
  have hmin : min (n : Int) (9223372036854775807 - (k : Int)) = (n : Int) := by omega
  go_enter Tryd.func23, Tryd.ntmps23
  go_wp2
  go_ret
  exact ⟨by rw [Int.natCast_add]; rfl, rfl⟩

theorem sizeHand_any (x n : Nat) (b : Int) (a : Addr) (w : World) (hx : x ≤ 1000000000000000000) (hn : n ≤ 999999999) (hc : w.cell? a = some (.int .i64 x)) (hz : w.frozen? a = false) :
    Calls Tryd.prog 22 #[.int .i64 n, .int .u8 b, .pointer (some a)] w fun e w' => e = .returned (.tuple #[]) ∧ w' = w.setCell a (.int .i64 ((x + n : Nat) : Int)) := by
  go_enter Tryd.func22, Tryd.ntmps22
  go_wp2_with fail
  refine (pressAdd_any x n _ hx hn).mono ?_
  rintro e w' ⟨rfl, rfl⟩
  go_wp2
  go_end0
  exact ⟨rfl, rfl⟩

theorem read_prefix {s : List UInt8} {d tl : List (Nat × UInt8)} {n : Nat} {b : UInt8} (h : (readL s).1 = d ++ (n, b) :: tl) (hs : s.length ≤ 1000000000) : sizeL d ≤ 1000000000000000000 ∧ n ≤ 999999999 ∧ sizeL d + n ≤ sizeL (readL s).1 := by
  have h1 := read_bound s
  have h2 := (read_few s.length s (Nat.le_refl _)).2 (n, b) (by rw [h]; simp)
  have h3 : sizeL (readL s).1 = sizeL d + (n + sizeL tl) := by rw [h, sizeL_app]; rfl
  simp only at h2
  omega

set_option maxRecDepth 100000 in
theorem size_any (p : Nat → Addr) (s : List UInt8) (w : World) (hs : s.length ≤ 1000000000) (hE : Env p w) :
    Calls Tryd.prog 7 #[.string ⟨s.toArray⟩] w fun e w' => ∃ v, e = .returned (.tuple #[.int .i64 (sizeL (runsS s)), v]) ∧ ErrAt p w' v (placeE (readL s).2).1 (placeE (readL s).2).2 ∧ Below w.heap.size w w' := by
  have eg : ∀ args w, (callFunc 22 args).run Tryd.prog w = .ok (.enter 22 args) w := enters_of Tryd.func22 (by kernel_rfl) rfl
  have hmf : ∀ (fn : Fn) (first cap : Array Value) (w : World), (Instr.makeFunc fn first cap).run Tryd.prog w = .ok (.func fn first cap) w := fun _ _ _ _ => rfl
  have HE := Lib.hid hE
  clear hE
  go_enter Tryd.func7, Tryd.ntmps7
  go_wp2_with fail
  refine (eachPressed_any p s 22 #[.pointer (some ⟨w.heap.size, 0, none⟩)] eg (fun d w' => w'.heap[w.heap.size]? = some (.cells #[.int .i64 (sizeL d : Int)] 3 (0, 0)) ∧ Below w.heap.size w w') _ hs ⟨heap_new w _, (Below.refl _ _).alloc (Nat.le_refl _) _⟩ (fun d w' h => HE.out.below h.2) ?_).mono ?_
  · rintro d n b tl W hp ⟨hk, hb⟩
    obtain ⟨h1, h2, h3⟩ := read_prefix hp hs
    refine (sizeHand_any (sizeL d) n b.toNat ⟨w.heap.size, 0, none⟩ W h1 h2 (cell_of_one hk) (free_of_one hk)).mono ?_
    rintro e W' ⟨rfl, rfl⟩
    refine ⟨rfl, ?_, hb.setCell (Nat.le_refl _) _⟩
    rw [sizeL_snoc]
    exact one_setCell hk
  rintro e w1 ⟨v, w0, rfl, ⟨hk, hb0⟩, hb1, hv⟩
  have hk1 := (hb1.block w.heap.size (Array.getElem?_eq_some_iff.1 hk).1).trans hk
  have HB := Lib.hid (hb0.trans (hb1.mono hb0.size))
  clear hb0 hb1 hk
  cases hr : (readL s).2 with
  | none =>
    have HR := Lib.hid (runsS_none hr)
    have HX := Lib.hid hr
    rw [hr] at hv
    obtain rfl := hv.isNil
    have hc := cell_of_one hk1
    clear hr hk1 hv
    go_wp2
    go_ret2
    exact ⟨_, by rw [HR.out]; rfl, by rw [HX.out]; exact ErrAt.fine p _, HB.out⟩
  | some k =>
    have HR := Lib.hid (runsS_some hr)
    have HX := Lib.hid hr
    rw [hr] at hv
    obtain ⟨T, u, rfl⟩ := hv.some (by simp [placeE])
    have HV := Lib.hid hv
    clear hr hk1 hv
    go_wp2
    go_ret2
    exact ⟨_, by rw [HR.out]; rfl, by rw [HX.out]; exact HV.out, HB.out⟩
end Go.Proofs.YtjdbpabniaclaaaDoor
