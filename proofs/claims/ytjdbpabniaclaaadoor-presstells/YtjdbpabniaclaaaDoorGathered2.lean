/-
  Own texts of the proof, gathered by program in their build order: PkSize, Written, WrittenByte, ReadPure, PkPress, PkOpen, LawPressBack, RefPress, RefRuns, RefOpen, LawPressTells, LaidErrs, LaidPress.
-/
import Derived.Test.YtjdbpabniaclaaaDoorGathered1
import Derived.OneCell
import Derived.Shelf.Strings.BuilderK
import Derived.Shelf.Strings.BuilderF
import Derived.Test.YtjdbpabniaclaaaDoorProg
import Derived.Shelf.Strings.Builder2
import Derived.Lib.AtoiAllCases
import Derived.Lib.ItoaMem
import Derived.Deep.LoopGhost
import Derived.Defers
import Derived.Recover
import Derived.Deep.RegionHeld3
import Derived.Deep.RegionWith
import Derived.Deep.CutBlock
import Derived.Deep.Onto
import Derived.Laws.BytesArg
import Derived.Lib.Builder
import Derived.Test.YtjdbpabniaclaaaDoorChecked
import Derived.ProofKit
import Derived.LaidMore
import Derived.LaidLaws
import Derived.LaidSub
import Derived.Stop.Joined
import Derived.Test.YtjdbpabniaclaaaDoorRows
import Derived.LaidHandle
import Derived.Lib.LaidTab
/-
  Package press: Size: a contract, over this seat's translation.
-/
namespace Go.Proofs.YtjdbpabniaclaaaDoor
open Go.RowKit Go.Shelf

theorem sizeHand_any (x n : Nat) (b : Int) (a : Addr) (w : World) (hx : x ≤ 1000000000000000000) (hn : n ≤ 999999999) (hc : w.cell? a = some (.int .i64 x)) (hz : w.frozen? a = false) :
    Calls Tryd.prog 22 #[.int .i64 n, .int .u8 b, .pointer (some a)] w fun e w' => e = .returned (.tuple #[]) ∧ w' = w.setCell a (.int .i64 ((x + n : Nat) : Int)) := by
  go_enter Tryd.func22, Tryd.ntmps22
  go_wp2_with fail
  refine (pressAdd_any x n _ hx hn).mono ?_
  rintro e w' ⟨rfl, rfl⟩
  go_wp2
  go_end0
  exact ⟨rfl, rfl⟩

theorem read_prefix {s : List UInt8} {d tl : List (Nat × UInt8)} {n : Nat} {b : UInt8} (h : (readL s).1 = d ++ (n, b) :: tl) (hs : s.length ≤ 1000000000) : sizeL d ≤ 1000000000000000000 ∧ n ≤ 999999999 ∧ sizeL d + n ≤ sizeL (readL s).1 := by
  have h1 := read_bound s
  have h2 := (read_few s.length s (Nat.le_refl _)).2 (n, b) (by rw [h]; simp)
  have h3 : sizeL (readL s).1 = sizeL d + (n + sizeL tl) := by rw [h, sizeL_app]; rfl
  simp only at h2
  omega

set_option maxRecDepth 100000 in
theorem size_any (p : Nat → Addr) (s : List UInt8) (w : World) (hs : s.length ≤ 1000000000) (hE : Env p w) :
    Calls Tryd.prog 7 #[.string ⟨s.toArray⟩] w fun e w' => ∃ v, e = .returned (.tuple #[.int .i64 (sizeL (runsS s)), v]) ∧ ErrAt p w' v (placeE (readL s).2).1 (placeE (readL s).2).2 ∧ Below w.heap.size w w' := by
  have eg : ∀ args w, (callFunc 22 args).run Tryd.prog w = .ok (.enter 22 args) w := enters_of Tryd.func22 (by kernel_rfl) rfl
  have hmf : ∀ (fn : Fn) (first cap : Array Value) (w : World), (Instr.makeFunc fn first cap).run Tryd.prog w = .ok (.func fn first cap) w := fun _ _ _ _ => rfl
  have HE := Lib.hid hE
  clear hE
  go_enter Tryd.func7, Tryd.ntmps7
  go_wp2_with fail
  refine (eachPressed_any p s 22 #[.pointer (some ⟨w.heap.size, 0, none⟩)] eg (fun d w' => w'.heap[w.heap.size]? = some (.cells #[.int .i64 (sizeL d : Int)] 3 (0, 0)) ∧ Below w.heap.size w w') _ hs ⟨heap_new w _, (Below.refl _ _).alloc (Nat.le_refl _) _⟩ (fun d w' h => HE.out.below h.2) ?_).mono ?_
  · rintro d n b tl W hp ⟨hk, hb⟩
    obtain ⟨h1, h2, h3⟩ := read_prefix hp hs
    refine (sizeHand_any (sizeL d) n b.toNat ⟨w.heap.size, 0, none⟩ W h1 h2 (cell_of_one hk) (free_of_one hk)).mono ?_
    rintro e W' ⟨rfl, rfl⟩
    refine ⟨rfl, ?_, hb.setCell (Nat.le_refl _) _⟩
    rw [sizeL_snoc]
    exact one_setCell hk
  rintro e w1 ⟨v, w0, rfl, ⟨hk, hb0⟩, hb1, hv⟩
  have hk1 := (hb1.block w.heap.size (Array.getElem?_eq_some_iff.1 hk).1).trans hk
  have HB := Lib.hid (hb0.trans (hb1.mono hb0.size))
  clear hb0 hb1 hk
  cases hr : (readL s).2 with
  | none =>
    have HR := Lib.hid (runsS_none hr)
    have HX := Lib.hid hr
    rw [hr] at hv
    obtain rfl := hv.isNil
    have hc := cell_of_one hk1
    clear hr hk1 hv
    go_wp2
    go_ret2
    exact ⟨_, by rw [HR.out]; rfl, by rw [HX.out]; exact ErrAt.fine p _, HB.out⟩
  | some k =>
    have HR := Lib.hid (runsS_some hr)
    have HX := Lib.hid hr
    rw [hr] at hv
    obtain ⟨T, u, rfl⟩ := hv.some (by simp [placeE])
    have HV := Lib.hid hv
    clear hr hk1 hv
    go_wp2
    go_ret2
    exact ⟨_, by rw [HR.out]; rfl, by rw [HX.out]; exact HV.out, HB.out⟩
end Go.Proofs.YtjdbpabniaclaaaDoor
/-
  (*strings.Builder).WriteString and String: the library's contracts, laid at this seat's translation by hand (the program that lays them finds no number for the empty interface).
-/
namespace Go.Proofs.YtjdbpabniaclaaaDoor
open Go.Shelf Go.RowKit

def wrRen : Go.Shelf.Ren := ⟨fun | 166 => 17 | 240 => 30 | 276 => 40 | n => n, fun | 0 => 0 | 3 => 3 | 4 => 4 | 5 => 5 | 9 => 9 | 20 => 20 | 37 => 42 | 70 => 41 | 72 => 44 | 75 => 25 | 80 => 49 | 164 => 72 | n => n, fun | n => n⟩
theorem wrLays : Go.Proofs.Lays.n166 Tryd.prog wrRen := {
  mixed := by kernel_rfl
  f166 := Tryd.func17.trans (congrArg some (by kernel_rfl))
  f240 := Tryd.func30.trans (congrArg some (by kernel_rfl))
  f276 := Tryd.func40.trans (congrArg some (by kernel_rfl))
  t0 := Tryd.underlying0
  a0 := Tryd.isAgg0
  z0 := Tryd.sizeOf0
  v0 := Tryd.zeroValue0
  t3 := Tryd.underlying3
  a3 := Tryd.isAgg3
  z3 := Tryd.sizeOf3
  v3 := Tryd.zeroValue3
  t4 := Tryd.underlying4
  a4 := Tryd.isAgg4
  z4 := Tryd.sizeOf4
  v4 := Tryd.zeroValue4
  t9 := Tryd.underlying9
  a9 := Tryd.isAgg9
  z9 := Tryd.sizeOf9
  v9 := Tryd.zeroValue9
  t20 := Tryd.underlying20
  a20 := Tryd.isAgg20
  z20 := Tryd.sizeOf20
  v20 := Tryd.zeroValue20
  t37 := Tryd.underlying42
  a37 := Tryd.isAgg42
  z37 := Tryd.sizeOf42
  v37 := Tryd.zeroValue42
  t70 := Tryd.underlying41
  a70 := Tryd.isAgg41
  z70 := Tryd.sizeOf41
  v70 := Tryd.zeroValue41
  t72 := Tryd.underlying44
  a72 := Tryd.isAgg44
  z72 := Tryd.sizeOf44
  v72 := Tryd.zeroValue44
  t75 := Tryd.underlying25
  a75 := Tryd.isAgg25
  z75 := Tryd.sizeOf25
  v75 := Tryd.zeroValue25
  t164 := Tryd.underlying72
  a164 := Tryd.isAgg72
  z164 := Tryd.sizeOf72
  v164 := Tryd.zeroValue72 }
theorem wrExtra : Builder.Extra Tryd.prog wrRen := {
  sizeBuilder := by kernel_rfl
  liesBuilder := by kernel_rfl
  t5 := Tryd.underlying5
  a5 := Tryd.isAgg5
  z5 := Tryd.sizeOf5
  v5 := Tryd.zeroValue5
  infoByte := by kernel_rfl
  cellsByte := by kernel_rfl
  sizeByte := by kernel_rfl
  neB5 := by decide }

/-- The builder at b, of memory from B on, holds these bytes. -/
def Built (B b : Nat) (l : List UInt8) (w : World) : Prop := Lib.IsBuilderF 44 5 B b (Lib.byteCells l) w

theorem built_fresh (w : World) : Built w.heap.size w.heap.size [] (w.alloc (.cells #[.pointer none, .slice none 0 0] 44)) :=
  Lib.IsBuilderF.of (Lib.fresh_isBuilder _ _ w)

theorem Built.below {B b : Nat} {l : List UInt8} {w w' : World} (h : Built B b l w) (hb : Below w.heap.size w w') : Built B b l w' := by
  have go : ∀ q, Lib.BuilderAtF 44 5 B b q (Lib.byteCells l) w → Lib.BuilderAtF 44 5 B b q (Lib.byteCells l) w' := by
    rintro q ⟨h1, v, h2, h3, h4⟩
    refine ⟨h1, v, (hb.block b (Array.getElem?_eq_some_iff.1 h2).1).trans h2, ⟨h3.1, ?_⟩, h4⟩
    rcases h3.2 with h0 | ⟨g, cap, cur, fz, hv, hg, hh, r⟩
    · exact .inl h0
    · exact .inr ⟨g, cap, cur, fz, hv, hg, (hb.block g (Array.getElem?_eq_some_iff.1 hh).1).trans hh, r⟩
  exact h.imp (go _) (go _)

theorem Built.lt {B b : Nat} {l : List UInt8} {w : World} (h : Built B b l w) : b < w.heap.size := h.elim (·.lt) (·.lt)

theorem built_write (B b : Nat) (l s : List UInt8) (w : World) (h : Built B b l w) (hlen : l.length + s.length ≤ 140737488355328) (hBw : B ≤ w.heap.size) :
    Calls Tryd.prog 17 #[.pointer (some ⟨b, 0, none⟩), .string ⟨s.toArray⟩] w fun e w' => e = .returned (.tuple #[.int .i64 s.length, .nilIface]) ∧ Built B b (l ++ s) w' ∧ Below B w w' ∧ Lib.OthersKept 5 (some b) w w' := by
  have hs : (⟨s.toArray⟩ : ByteArray).size = s.length := by simp [ByteArray.size]
  have hl : (Lib.byteCells l).length = l.length := by simp [Lib.byteCells]
  refine (Any.Builder_WriteString_k wrLays wrExtra B b (Lib.byteCells l) ⟨s.toArray⟩ w h (by omega) hBw).mono ?_
  rintro e w' ⟨h1, h2, h3, h4⟩
  refine ⟨by rw [h1, hs], ?_, h3, h4⟩
  have : Lib.byteCells l ++ Lib.strCells ⟨s.toArray⟩ = Lib.byteCells (l ++ s) := by simp [Lib.byteCells, Lib.strCells]
  rw [this] at h2
  exact Or.inr h2

theorem built_string (B b : Nat) (l : List UInt8) (w : World) (h : Built B b l w) (hBw : B ≤ w.heap.size) :
    Calls Tryd.prog 20 #[.pointer (some ⟨b, 0, none⟩)] w fun e w' => e = .returned (.string ⟨l.toArray⟩) ∧ Below B w w' :=
  (Any.Builder_String_any_f Tryd.lays169 Tryd.Builder_Extra_169 B b l w h hBw).mono fun _ _ h => ⟨h.1, h.2.2⟩
end Go.Proofs.YtjdbpabniaclaaaDoor
/-
  (*strings.Builder).WriteByte and Grow: the library's contracts, WriteByte's laid at this seat's translation by hand.
-/
namespace Go.Proofs.YtjdbpabniaclaaaDoor
open Go.Shelf Go.RowKit

def wbRen : Go.Shelf.Ren := ⟨fun | 167 => 19 | 240 => 30 | 276 => 40 | n => n, fun | 0 => 0 | 4 => 4 | 5 => 5 | 9 => 9 | 20 => 20 | 37 => 42 | 70 => 41 | 72 => 44 | 75 => 25 | 164 => 72 | 80 => 49 | n => n, fun | n => n⟩
theorem wbLays : Go.Proofs.Lays.n167 Tryd.prog wbRen := {
  mixed := by kernel_rfl
  f167 := Tryd.func19.trans (congrArg some (by kernel_rfl))
  f240 := Tryd.func30.trans (congrArg some (by kernel_rfl))
  f276 := Tryd.func40.trans (congrArg some (by kernel_rfl))
  t0 := Tryd.underlying0
  a0 := Tryd.isAgg0
  z0 := Tryd.sizeOf0
  v0 := Tryd.zeroValue0
  t4 := Tryd.underlying4
  a4 := Tryd.isAgg4
  z4 := Tryd.sizeOf4
  v4 := Tryd.zeroValue4
  t5 := Tryd.underlying5
  a5 := Tryd.isAgg5
  z5 := Tryd.sizeOf5
  v5 := Tryd.zeroValue5
  t9 := Tryd.underlying9
  a9 := Tryd.isAgg9
  z9 := Tryd.sizeOf9
  v9 := Tryd.zeroValue9
  t20 := Tryd.underlying20
  a20 := Tryd.isAgg20
  z20 := Tryd.sizeOf20
  v20 := Tryd.zeroValue20
  t37 := Tryd.underlying42
  a37 := Tryd.isAgg42
  z37 := Tryd.sizeOf42
  v37 := Tryd.zeroValue42
  t70 := Tryd.underlying41
  a70 := Tryd.isAgg41
  z70 := Tryd.sizeOf41
  v70 := Tryd.zeroValue41
  t72 := Tryd.underlying44
  a72 := Tryd.isAgg44
  z72 := Tryd.sizeOf44
  v72 := Tryd.zeroValue44
  t75 := Tryd.underlying25
  a75 := Tryd.isAgg25
  z75 := Tryd.sizeOf25
  v75 := Tryd.zeroValue25
  t164 := Tryd.underlying72
  a164 := Tryd.isAgg72
  z164 := Tryd.sizeOf72
  v164 := Tryd.zeroValue72 }
theorem wbExtra : Builder.Extra Tryd.prog wbRen := {
  sizeBuilder := by kernel_rfl
  liesBuilder := by kernel_rfl
  t5 := Tryd.underlying5
  a5 := Tryd.isAgg5
  z5 := Tryd.sizeOf5
  v5 := Tryd.zeroValue5
  infoByte := by kernel_rfl
  cellsByte := by kernel_rfl
  sizeByte := by kernel_rfl
  neB5 := by decide }

theorem built_byte (B b : Nat) (l : List UInt8) (c : UInt8) (w : World) (h : Built B b l w) (hlen : l.length + 1 ≤ 140737488355328) (hBw : B ≤ w.heap.size) :
    Calls Tryd.prog 19 #[.pointer (some ⟨b, 0, none⟩), .int .u8 c.toNat] w fun e w' => e = .returned .nilIface ∧ Built B b (l ++ [c]) w' ∧ Below B w w' ∧ Lib.OthersKept 5 (some b) w w' := by
  have hl : (Lib.byteCells l).length = l.length := by simp [Lib.byteCells]
  refine (Any.Builder_WriteByte_k wbLays wbExtra B b (Lib.byteCells l) c.toNat w h (by omega) hBw).mono ?_
  rintro e w' ⟨h1, h2, h3, h4⟩
  refine ⟨h1, ?_, h3, h4⟩
  have : Lib.byteCells l ++ [.int .u8 c.toNat] = Lib.byteCells (l ++ [c]) := by simp [Lib.byteCells]
  rw [this] at h2
  exact Or.inr h2

theorem built_grow (b n : Nat) (w : World) (hbk : w.heap[b]? = some (.cells #[.pointer none, .slice none 0 0] 44 (0, 0))) (hn : n ≤ 281474976710656) :
    Calls Tryd.prog 36 #[.pointer (some ⟨b, 0, none⟩), .int .i64 n] w fun e w' => e = .returned (.tuple #[]) ∧ Built b b [] w' ∧ Below b w w' :=
  (Tryd.Builder_Grow_fresh b b n w (Nat.le_refl _) hbk (Nat.le_of_lt (Array.getElem?_eq_some_iff.1 hbk).1) hn).mono fun _ _ h => ⟨h.1, Or.inr (Lib.BuilderAtF.of h.2.1), h.2.2⟩
end Go.Proofs.YtjdbpabniaclaaaDoor
/-
  How a sum is read: plain functions over lists of bytes, and that reading is the other way round of writing: no machine.
-/
namespace Go.Proofs.YtjdbpabniaclaaaDoor

/-- Is a number a sum? -/
def isS (n : Int) : Bool := decide (0 ≤ n ∧ n < 1000000007)
/-- The text of a sum (no sum: empty). -/
def textS (n : Int) : List UInt8 := if isS n = true then 115 :: digitsL n.toNat else []
/-- A sum out of its text, and an error's number. -/
def readS (s : List UInt8) : Int × Nat := if s.head? = some 115 ∧ isS (numberL s.tail 10) = true then (numberL s.tail 10, 0) else (0, 1)

theorem value_ge : ∀ (s : List UInt8) (h : Nat), h ≤ valueFrom h s
  | [], h => Nat.le_refl _
  | b :: s, h => by
    have := value_ge s (10 * h + (b.toNat - 48))
    show h ≤ valueFrom (10 * h + (b.toNat - 48)) s
    omega
theorem digit_byte {b : UInt8} (h : isDigit b = true) : UInt8.ofNat (48 + (b.toNat - 48)) = b := by
  simp [isDigit] at h
  apply UInt8.toNat_inj.1
  rw [UInt8.toNat_ofNat']
  have := b.toNat_lt
  omega
theorem digits_from : ∀ (s : List UInt8) (h : Nat), 1 ≤ h → s.all isDigit = true → digitsL (valueFrom h s) = digitsL h ++ s
  | [], h, _, _ => by simp [valueFrom]
  | b :: s, h, h1, hd => by
    rw [List.all_cons, Bool.and_eq_true] at hd
    have hb := hd.1
    simp [isDigit] at hb
    have e := digits_from s (10 * h + (b.toNat - 48)) (by omega) hd.2
    show digitsL (valueFrom (10 * h + (b.toNat - 48)) s) = _
    rw [e, digits_great (n := 10 * h + (b.toNat - 48)) (by omega)]
    have e1 : (10 * h + (b.toNat - 48)) / 10 = h := by omega
    have e2 : (10 * h + (b.toNat - 48)) % 10 = b.toNat - 48 := by omega
    rw [e1, e2, digit_byte hd.1]
    simp
/-- What is read as a number is its digits. -/
theorem digits_of_value {s : List UInt8} (h0 : s ≠ []) (hd : s.all isDigit = true) (hz : 1 < s.length → s.head? ≠ some 48) : digitsL (valueFrom 0 s) = s := by
  cases s with
  | nil => exact absurd rfl h0
  | cons b r =>
    rw [List.all_cons, Bool.and_eq_true] at hd
    have hb := hd.1
    simp [isDigit] at hb
    have e0 : valueFrom 0 (b :: r) = valueFrom (b.toNat - 48) r := by
      show valueFrom (10 * 0 + (b.toNat - 48)) r = _
      congr 1
      omega
    have es : digitsL (b.toNat - 48) = [b] := by rw [digits_small (by omega), digit_byte hd.1]
    rw [e0]
    cases r with
    | nil => exact es
    | cons c r =>
      have hne : b ≠ 48 := fun e => hz (by simp) (by simp [e])
      have : b.toNat ≠ 48 := fun e => hne (UInt8.toNat_inj.1 e)
      rw [digits_from (c :: r) (b.toNat - 48) (by omega) hd.2, es]
      rfl
theorem number_inv {s : List UInt8} {k : Nat} (h : 0 ≤ numberL s k) : s = digitsL (numberL s k).toNat := by
  unfold numberL at h ⊢
  split at h
  · omega
  · rename_i h1
    rw [if_neg h1]
    split at h
    · rename_i h2
      rw [if_pos h2, Int.toNat_natCast, digits_of_value (fun e => h1 (Or.inl (by simp [e]))) h2 (fun hl e => h1 (Or.inr (Or.inr ⟨hl, e⟩)))]
    · omega

theorem text_is {n : Int} (h : isS n = true) : textS n = 115 :: digitsL n.toNat := by unfold textS; rw [if_pos h]
theorem isS_bounds {n : Int} (h : isS n = true) : 0 ≤ n ∧ n < 1000000007 := of_decide_eq_true h
/-- It is read as it was written. -/
theorem read_text {n : Int} (h : isS n = true) : readS (textS n) = (n, 0) := by
  have hb := isS_bounds h
  have e : numberL (digitsL n.toNat) 10 = n := by
    have := number_digits (k := 9) (n := n.toNat) (by omega)
    rw [this]
    omega
  rw [text_is h]
  unfold readS
  rw [List.tail_cons, e, if_pos ⟨rfl, h⟩]
/-- What is read was written. -/
theorem text_read {s : List UInt8} (h : s.head? = some 115 ∧ isS (numberL s.tail 10) = true) : textS (numberL s.tail 10) = s := by
  have hb := isS_bounds h.2
  rw [text_is h.2, ← number_inv hb.1]
  cases s with
  | nil => cases h.1
  | cons b r =>
    have := h.1
    simp at this
    rw [this]
    rfl
theorem read_le (s : List UInt8) : (readS s).2 ≤ 1 := by unfold readS; split <;> simp

theorem parse_digits : ∀ (s : List UInt8) (acc : Nat), s.all isDigit = true → valueFrom acc s < 18446744073709551616 → Lib.parseUint10 acc s = .ok (valueFrom acc s)
  | [], acc, _, _ => rfl
  | b :: s, acc, hd, hv => by
    rw [List.all_cons, Bool.and_eq_true] at hd
    have hb := hd.1
    simp [isDigit] at hb
    have hv' : valueFrom (10 * acc + (b.toNat - 48)) s < 18446744073709551616 := hv
    have hg := value_ge s (10 * acc + (b.toNat - 48))
    have ec : acc * 10 + (b.toNat - 48) = 10 * acc + (b.toNat - 48) := by omega
    show Lib.parseUint10 acc (b :: s) = .ok (valueFrom (10 * acc + (b.toNat - 48)) s)
    unfold Lib.parseUint10
    rw [if_pos hb, if_neg (by omega), if_neg (by omega), ec]
    exact parse_digits s _ hd.2 hv'
/-- The library reads the digits of a number. -/
theorem atoi_digits {n : Nat} (h : n < 9223372036854775808) : Lib.atoiAll (digitsL n) = .ok (n : Int) := by
  have hp := digits_pos n
  have hd := digits_digit n
  have hv := digits_value n
  have hm : Lib.parseMag (digitsL n) = .ok n := by
    unfold Lib.parseMag
    rw [if_neg (fun e => by rw [e] at hp; simp at hp), parse_digits _ _ hd (by omega), hv]
  cases hs : digitsL n with
  | nil => rw [hs] at hp; simp at hp
  | cons c r =>
    rw [hs, List.all_cons, Bool.and_eq_true] at hd
    have hc := hd.1
    simp [isDigit] at hc
    rw [Lib.atoiAll_plain c r (by omega) (by omega), ← hs, hm]
    simp only [Lib.signless]
    rw [if_neg (by omega)]
theorem itoa_digits (n : Nat) : Lib.decDigits n = digitsL n := by
  induction n using Nat.strongRecOn with
  | ind n ih =>
    by_cases h : n < 10
    · rw [Lib.decDigits, dif_pos h, digits_small h]
    · rw [Lib.decDigits, dif_neg h, digits_great (by omega), ih (n / 10) (by omega)]
end Go.Proofs.YtjdbpabniaclaaaDoor
/-
  Package press: eachRun, with the function that Press hands it, and Press: contracts, over this seat's translation.
-/
namespace Go.Proofs.YtjdbpabniaclaaaDoor
open Go.RowKit Go.Shelf

theorem grown_below (w : World) (k : Nat) (os : Array Obj) : Below w.heap.size w (Go.Sort.grow (w.drewN k) os) :=
  ⟨rfl, rfl, rfl, by simp [Go.Sort.grow, World.drewN], fun k hk => by simp [Go.Sort.grow, World.drewN, Array.getElem?_append_left hk]⟩
theorem itoaT_any (n : Nat) (w : World) (hn : n < 9223372036854775808) (htab : Lib.TabIs Tryd.prog w "internal/strconv.uint64pow10" .u64 Lib.pow10Tab) :
    Calls Tryd.prog 18 #[.int .i64 n] w fun e w' => e = .returned (.string ⟨(digitsL n).toArray⟩) ∧ Below w.heap.size w w' :=
  (Tryd.strconv_Itoa n (by omega) (by omega) w htab).mono fun e w' ⟨h1, k, os, h2⟩ => ⟨by rw [h1, Lib.itoa_nonneg, itoa_digits], by rw [h2]; exact grown_below w k os⟩

/-- The table of powers of ten. -/
def Tab (w : World) : Prop := Lib.TabIs Tryd.prog w "internal/strconv.uint64pow10" .u64 Lib.pow10Tab
theorem Tryd.gPowT : Tryd.prog.globalNamed "internal/strconv.uint64pow10" = some 14 := by kernel_rfl
theorem Tab.lt {w : World} (h : Tab w) : 14 < w.heap.size := by
  unfold Tab Lib.TabIs World.var? at h
  rw [Tryd.gPowT] at h
  simp only [Option.bind_some] at h
  rcases Nat.lt_or_ge 14 w.heap.size with h' | h'
  · exact h'
  · rw [Array.getElem?_eq_none h'] at h; cases h
theorem Tab.to {n : Nat} {w w' : World} (h : Tab w) (hb : Below n w w') (hn : 14 < n) : Tab w' := by
  unfold Tab Lib.TabIs World.var? at h ⊢
  rw [Tryd.gPowT] at h ⊢
  simp only [Option.bind_some] at h ⊢
  rw [hb.block _ hn]
  exact h
theorem Tab.below {w w' : World} (h : Tab w) (hb : Below w.heap.size w w') : Tab w' := h.to hb h.lt

theorem pressHand_any (B bb n : Nat) (b : UInt8) (l : List UInt8) (w : World) (hB : B ≤ bb) (h : Built B bb l w) (hl : l.length ≤ 100000000000) (hn : n ≤ 999999999) (ht : Tab w) :
    Calls Tryd.prog 16 #[.int .i64 n, .int .u8 b.toNat, .pointer (some ⟨bb, 0, none⟩)] w fun e w' => e = .returned (.tuple #[]) ∧ Built B bb (l ++ runL (n, b)) w' ∧ Below B w w' := by
  have HB := Lib.hid h
  have HT := Lib.hid ht
  have hBw : B ≤ w.heap.size := Nat.le_trans hB (Nat.le_of_lt h.lt)
  have hdl : (digitsL n).length ≤ 9 := digits_length 8 n (by omega)
  clear h ht
  go_enter Tryd.func16, Tryd.ntmps16
  go_wp2_with fail
  refine (itoaT_any n _ (by omega) HT.out).mono ?_
  rintro e w1 ⟨rfl, hb1⟩
  have HB1 := Lib.hid (HB.out.below hb1)
  have HW1 := Lib.hid (hb1.mono hBw)
  have hBw1 : B ≤ w1.heap.size := Nat.le_trans hBw hb1.size
  clear hb1 HB HT
  go_wp2_with fail
  refine (built_write B bb l (digitsL n) _ HB1.out (by omega) hBw1).mono ?_
  rintro e w2 ⟨rfl, hq2, hb2, _⟩
  have HB2 := Lib.hid hq2
  have HW2 := Lib.hid (HW1.out.trans hb2)
  have hBw2 : B ≤ w2.heap.size := Nat.le_trans hBw1 hb2.size
  clear hb2 hq2 HB1 HW1
  go_wp2_with fail
  refine (built_write B bb (l ++ digitsL n) [58] _ HB2.out (by simp; omega) hBw2).mono ?_
  rintro e w3 ⟨rfl, hq3, hb3, _⟩
  have HB3 := Lib.hid hq3
  have HW3 := Lib.hid (HW2.out.trans hb3)
  have hBw3 : B ≤ w3.heap.size := Nat.le_trans hBw2 hb3.size
  clear hb3 hq3 HB2 HW2
  go_wp2_with fail
  refine (built_byte B bb (l ++ digitsL n ++ [58]) b _ HB3.out (by simp; omega) hBw3).mono ?_
  rintro e w4 ⟨rfl, hq4, hb4, _⟩
  have HB4 := Lib.hid hq4
  have HW4 := Lib.hid (HW3.out.trans hb4)
  clear hb4 hq4 HB3 HW3
  go_wp2
  go_end0
  refine ⟨rfl, ?_, HW4.out⟩
  have e : l ++ runL (n, b) = l ++ digitsL n ++ [58] ++ [b] := by simp [runL]
  rw [e]
  exact HB4.out

theorem run_off {r : List UInt8} {b : UInt8} {t : Nat} (h1 : 1 ≤ t) (htk : r.take t = List.replicate t b) (hn : r[t]? ≠ some b) : runs r = (t, b) :: runs (r.drop t) := by
  obtain ⟨k, rfl⟩ : ∃ k, t = k + 1 := ⟨t - 1, by omega⟩
  conv => lhs; rw [← List.take_append_drop (k + 1) r, htk]
  exact runs_rep k b _ (by rw [List.head?_drop]; exact hn)

theorem take_one {r : List UInt8} {b : UInt8} (h : r[0]? = some b) : r.take 1 = List.replicate 1 b := by
  cases r with
  | nil => cases h
  | cons x y => simp at h; simp [h]
theorem rep_more {r : List UInt8} {b : UInt8} {t : Nat} (h : t < r.length) (hc : r[t] = b) (ht : r.take t = List.replicate t b) : r.take (t + 1) = List.replicate (t + 1) b := by
  rw [List.take_add_one, List.getElem?_eq_getElem h, ht, hc, List.replicate_succ']
  rfl

set_option maxRecDepth 100000 in
set_option maxHeartbeats 4000000 in
theorem eachRun_any (s : List UInt8) (g : Nat) (lb : Array Value) (eg : ∀ args w, (callFunc g args).run Tryd.prog w = .ok (.enter g args) w) (I : List (Nat × UInt8) → World → Prop) (w : World) (hs : s.length ≤ 999999999)
    (hI : I [] w) (hbel : ∀ d w w', I d w → Below w.heap.size w w' → I d w')
    (hh : ∀ d n b tl w, runs s = d ++ (n, b) :: tl → I d w → Calls Tryd.prog g (#[.int .i64 (n : Nat), .int .u8 (b : UInt8).toNat] ++ lb) w fun e w' => e = .returned (.tuple #[]) ∧ I (d ++ [(n, b)]) w') :
    Calls Tryd.prog 15 #[.string ⟨s.toArray⟩, .int .i64 999999999, .func (.func g) #[] lb] w fun e w' => e = .returned (.tuple #[]) ∧ I (runs s) w' := by
  have HI := Lib.hid hI
  have HE := Lib.hid hbel
  have HH := Lib.hid hh
  clear hI hbel hh
  go_enter Tryd.func15, Tryd.ntmps15
  go_wp2_with fail
  go_loopg [6] (s.length) (fun gf rv wr => ∃ (r : List UInt8) (d : List (Nat × UInt8)), r.length ≤ gf ∧ r.length ≤ s.length ∧ rv = .string ⟨r.toArray⟩ ∧ I d wr ∧ runs s = d ++ runs r)
  case atStart => exact ⟨s, [], Nat.le_refl _, Nat.le_refl _, rfl, HI.out, rfl⟩
  case round =>
    obtain ⟨r, d, hgf, hrs, rfl, hid, hr⟩ := hrel
    have HD := Lib.hid hid
    have HR := Lib.hid hr
    clear hid hr HI
    cases r with
    | nil =>
      have HN : Hid (runs s = d) := by
        show runs s = d
        rw [HR.out]
        simp [runs]
      clear HR
      go_wp2
      go_end0
      exact ⟨rfl, by rw [HN.out]; exact HD.out⟩
    | cons b r' =>
      have hl1 : 1 ≤ (b :: r').length := by simp
      have hb0 : (b :: r')[0]? = some b := rfl
      generalize hrr : b :: r' = r at hgf hrs HR hl1 hb0 ⊢
      clear hrr r'
      have hne : (r.isEmpty) = false := by cases r with | nil => simp at hl1 | cons x y => rfl
      go_wp2_with fail
      obtain ⟨wo, rfl⟩ : ∃ wo, wo = wr := ⟨_, rfl⟩
      go_loopw [7] (fun tv wq => ∃ t : Nat, 1 ≤ t ∧ t ≤ r.length ∧ r.take t = List.replicate t b ∧ tv = .int .i64 (t : Int) ∧ I d wq) (fun tv _ => r.length - (intOf tv).toNat)
      case atStart => exact ⟨1, Nat.le_refl _, hl1, take_one hb0, rfl, HD.out⟩
      case round =>
        obtain ⟨t, ht1, htl, htk, rfl, hid⟩ := hrel
        have HI := Lib.hid hid
        have HT := Lib.hid htk
        clear hid htk HD
        have hz : 0 < ({ data := r.toArray } : ByteArray).size := by simp [ByteArray.size]; omega
        have hb0' : ({ data := r.toArray } : ByteArray)[0]'hz = b := by
          have : r[0]'(by omega) = b := by rw [List.getElem?_eq_getElem (by omega)] at hb0; exact Option.some.inj hb0
          exact this
        have htm : (t : Int) < 999999999 ∨ ¬ t < r.length := by omega
        by_cases hlt : t < r.length
        · have htm' : (t : Int) < 999999999 := by omega
          have hlt' : (t : Int) < (r.length : Int) := by omega
          have htz : t < ({ data := r.toArray } : ByteArray).size := by simp [ByteArray.size]; omega
          obtain ⟨c, hc⟩ : ∃ c, r[t] = c := ⟨_, rfl⟩
          have hct : ({ data := r.toArray } : ByteArray)[t]'htz = c := hc
          by_cases hcb : c = b
          · subst hcb
            have HM := Lib.hid (rep_more hlt hc HT.out)
            clear hc htm HT HH HR
            go_wp2_with fail
            go_quiet (fail)
            go_wp2
            go_roundw
            case rel => exact ⟨t + 1, by omega, by omega, HM.out, by go_num, HE.out _ _ _ HI.out (below_drewN (Below.refl _ _) _)⟩
            case measure => simp [intOf]; omega
          · have HRR : Hid (runs s = d ++ (t, b) :: runs (r.drop t)) := by
              show runs s = _
              rw [HR.out, run_off ht1 HT.out (by rw [List.getElem?_eq_getElem hlt, hc]; exact fun e => hcb (Option.some.inj e))]
            have cS := fun W (h : I d W) => HH.out d t b _ W HRR.out h
            have hcb' : ((c.toNat : Int) == (b.toNat : Int)) = false := by
              simp
              exact fun e => hcb (UInt8.toNat_inj.1 (by omega))
            clear hc htm HT HH HR hcb
            go_wp2_with fail
            go_quiet (fail)
            go_wp2_with (go_at_fn g; refine (cS _ (HE.out _ _ _ HI.out (below_drewN (Below.refl _ _) _))).mono ?_; rintro e w2 ⟨rfl, hI2⟩)
            obtain ⟨g', rfl⟩ : ∃ g', gk = g' + 1 := ⟨gk - 1, by omega⟩
            go_roundg g'
            case measure => omega
            case rel => exact ⟨r.drop t, d ++ [(t, b)], by rw [List.length_drop]; omega, by rw [List.length_drop]; omega, by rw [extract_to], hI2, by rw [List.append_assoc]; exact HRR.out⟩
        · have HRR : Hid (runs s = d ++ (t, b) :: runs (r.drop t)) := by
            show runs s = _
            rw [HR.out, run_off ht1 HT.out (by rw [List.getElem?_eq_none (by omega)]; simp)]
          have cS := fun W (h : I d W) => HH.out d t b _ W HRR.out h
          have hlt' : decide ((t : Int) < (r.length : Int)) = false := by simp; omega
          clear htm HT HH HR
          go_wp2_with fail
          go_quiet (fail)
          go_wp2_with (go_at_fn g; refine (cS _ (HE.out _ _ _ HI.out (below_drewN (Below.refl _ _) _))).mono ?_; rintro e w2 ⟨rfl, hI2⟩)
          obtain ⟨g', rfl⟩ : ∃ g', gk = g' + 1 := ⟨gk - 1, by omega⟩
          go_roundg g'
          case measure => omega
          case rel => exact ⟨r.drop t, d ++ [(t, b)], by rw [List.length_drop]; omega, by rw [List.length_drop]; omega, by rw [extract_to], hI2, by rw [List.append_assoc]; exact HRR.out⟩

theorem runs_few (s : List UInt8) : (runs s).length ≤ s.length := by
  induction s with
  | nil => simp [runs]
  | cons b r ih =>
    show (putRun b (runs r)).length ≤ _
    cases h : runs r with
    | nil => simp [putRun]
    | cons x l =>
      obtain ⟨n, c⟩ := x
      rw [h] at ih
      unfold putRun
      simp only
      split <;> simp_all <;> omega
theorem write_bound {l : List (Nat × UInt8)} (h : ∀ r ∈ l, r.1 ≤ 999999999) : (writeL l).length ≤ 11 * l.length := by
  induction l with
  | nil => simp [writeL]
  | cons r l ih =>
    have i := ih fun x hx => h x (by simp [hx])
    have hd := digits_length 8 r.1 (by have := h r (by simp); omega)
    rw [writeL_cons, List.length_append, List.length_cons]
    have : (runL r).length = (digitsL r.1).length + 2 := by simp [runL]
    omega
theorem runs_part {s : List UInt8} {d tl : List (Nat × UInt8)} {n : Nat} {b : UInt8} (h : runs s = d ++ (n, b) :: tl) (hs : s.length ≤ 999999999) : (writeL d).length ≤ 11 * s.length ∧ n ≤ 999999999 := by
  have h1 := runs_few s
  have h2 : d.length ≤ s.length := by rw [h, List.length_append] at h1; omega
  have h3 := write_bound (l := d) fun r hr => by have := runs_mem (s := s) (r := r) (by rw [h]; simp [hr]); omega
  have h4 := runs_mem (s := s) (r := (n, b)) (by rw [h]; simp)
  simp only at h4
  omega

set_option maxRecDepth 100000 in
theorem press_any (s : List UInt8) (w : World) (hs : s.length ≤ 999999999) (ht : Tab w) :
    Calls Tryd.prog 6 #[.string ⟨s.toArray⟩] w fun e w' => e = .returned (.string ⟨(pressL s).toArray⟩) ∧ Below w.heap.size w w' := by
  have eg : ∀ args w, (callFunc 16 args).run Tryd.prog w = .ok (.enter 16 args) w := enters_of Tryd.func16 (by kernel_rfl) rfl
  have hmf : ∀ (fn : Fn) (first cap : Array Value) (w : World), (Instr.makeFunc fn first cap).run Tryd.prog w = .ok (.func fn first cap) w := fun _ _ _ _ => rfl
  have HT := Lib.hid ht
  clear ht
  go_enter Tryd.func6, Tryd.ntmps6
  go_wp2_with fail
  refine (eachRun_any s 16 #[.pointer (some ⟨w.heap.size, 0, none⟩)] eg (fun d w' => Built w.heap.size w.heap.size (writeL d) w' ∧ Below w.heap.size w w') _ hs ⟨built_fresh w, (Below.refl _ _).alloc (Nat.le_refl _) _⟩ (fun d W W' h hb => ⟨h.1.below hb, h.2.trans (hb.mono h.2.size)⟩) ?_).mono ?_
  · rintro d n b tl W hp ⟨hk, hb⟩
    obtain ⟨h1, h2⟩ := runs_part hp hs
    refine (pressHand_any w.heap.size w.heap.size n b (writeL d) W (Nat.le_refl _) hk (by omega) h2 (HT.out.below hb)).mono ?_
    rintro e W' ⟨rfl, hb1, hb2⟩
    exact ⟨rfl, by rw [writeL_snoc]; exact hb1, hb.trans hb2⟩
  rintro e w1 ⟨rfl, hk, hb⟩
  have HK := Lib.hid hk
  have HB := Lib.hid hb
  clear hk hb
  go_wp2_with fail
  refine (built_string w.heap.size w.heap.size _ _ HK.out HB.out.size).mono ?_
  rintro e w2 ⟨rfl, hb2⟩
  have HB2 := Lib.hid (HB.out.trans hb2)
  clear hb2
  go_wp2
  go_ret
  exact ⟨rfl, HB2.out⟩
end Go.Proofs.YtjdbpabniaclaaaDoor
/-
  Package press: room, Open: contracts, over this seat's translation.
-/
namespace Go.Proofs.YtjdbpabniaclaaaDoor
open Go.RowKit Go.Shelf

theorem Built.keep {B b : Nat} {l : List UInt8} {w w' : World} (h : Built B b l w) (hk : ∀ g, B ≤ g → g < w.heap.size → w'.heap[g]? = w.heap[g]?) : Built B b l w' := by
  have go : ∀ q, Lib.BuilderAtF 44 5 B b q (Lib.byteCells l) w → Lib.BuilderAtF 44 5 B b q (Lib.byteCells l) w' := by
    rintro q ⟨h1, v, h2, h3, h4⟩
    refine ⟨h1, v, (hk b h1 (Array.getElem?_eq_some_iff.1 h2).1).trans h2, ⟨h3.1, ?_⟩, h4⟩
    rcases h3.2 with h0 | ⟨g, cap, cur, fz, hv, hg, hh, r⟩
    · exact .inl h0
    · exact .inr ⟨g, cap, cur, fz, hv, hg, (hk g hg (Array.getElem?_eq_some_iff.1 hh).1).trans hh, r⟩
  exact h.imp (go _) (go _)

/-- The deferred function of room, of a frame that returns: nothing is recovered. -/
theorem room_idle (p : Addr) (v : Value) (w : World) (hc : w.cell? p = some v) (hz : w.frozen? p = false) :
    CallsD Tryd.prog 35 #[.pointer (some p)] .returning w fun e u' w' => e = .returned (.tuple #[]) ∧ u' = .returning ∧ w' = w.setCell p (.bool true) := by
  refine callsD_of_wpS Tryd.func35 rfl fun c₀ cs hu => ?_
  apply wpS_region
  simp [wpOpsS, go_sem, recoverD, hu, Tryd.ntmps35, hc, hz, bodyPostS, results, Tryd.results35]
  cases c₀
  simp_all

set_option maxRecDepth 100000 in
theorem room_any (n : Nat) (w : World) (hn : n ≤ 281474976710656) :
    Calls Tryd.prog 24 #[.int .i64 n] w fun e w' => e = .returned (.tuple #[.pointer (some ⟨w.heap.size + 1, 0, none⟩), .bool true]) ∧ Built (w.heap.size + 1) (w.heap.size + 1) [] w' ∧ Below w.heap.size w w' := by
  have hmf : ∀ (fn : Fn) (first cap : Array Value) (w : World), (Instr.makeFunc fn first cap).run Tryd.prog w = .ok (.func fn first cap) w := fun _ _ _ _ => rfl
  go_enter_defers Tryd.func24, Tryd.ntmps24
  go_wp2_with fail
  have hsz : (w.alloc (.cells #[.bool false] 4)).heap.size = w.heap.size + 1 := by simp
  have hbk : ((w.alloc (.cells #[.bool false] 4)).alloc (.cells #[.pointer none, .slice none 0 0] 44)).heap[w.heap.size + 1]? = some (.cells #[.pointer none, .slice none 0 0] 44 (0, 0)) := by
    have := heap_new (w.alloc (.cells #[.bool false] 4)) (.cells #[.pointer none, .slice none 0 0] 44)
    rw [hsz] at this
    exact this
  refine (built_grow (w.heap.size + 1) n _ hbk hn).mono ?_
  rintro e w1 ⟨rfl, hk, hb⟩
  have hb' : Below (w.heap.size + 1) (w.alloc (.cells #[.bool false] 4)) w1 := ((Below.refl _ _).alloc (by simp) _).trans hb
  have hone : w1.heap[w.heap.size]? = some (.cells #[.bool false] 4 (0, 0)) := (hb'.block w.heap.size (Nat.lt_succ_self _)).trans (heap_new w _)
  have HB := Lib.hid (((Below.refl _ w).alloc (Nat.le_refl _) (.cells #[.bool false] 4)).trans (hb'.mono (Nat.le_succ _)))
  have HK := Lib.hid hk
  have HO := Lib.hid hone
  have hc := cell_of_one hone
  have hz := free_of_one hone
  clear hb hb' hk hone hbk
  go_wp2
  have ho2 := one_setCell (u := .bool true) HO.out
  have hc2 := cell_of_one ho2
  have hz2 := free_of_one ho2
  have ho3 := one_setCell (u := .bool true) ho2
  have hc3 := cell_of_one ho3
  refine leaves_cons (f := 35) (args := #[.pointer (some ⟨w.heap.size, 0, none⟩)]) (by simp) (by simp [go_sem]) ?_
  refine (room_idle ⟨w.heap.size, 0, none⟩ (.bool true) _ hc2 hz2).mono ?_
  rintro e u' w'' ⟨rfl, rfl, rfl⟩
  have hfin : Built (w.heap.size + 1) (w.heap.size + 1) [] ((w1.setCell ⟨w.heap.size, 0, none⟩ (.bool true)).setCell ⟨w.heap.size, 0, none⟩ (.bool true)) ∧ Below w.heap.size w ((w1.setCell ⟨w.heap.size, 0, none⟩ (.bool true)).setCell ⟨w.heap.size, 0, none⟩ (.bool true)) := by
    refine ⟨HK.out.keep fun g hg _ => ?_, (HB.out.setCell (Nat.le_refl _) _).setCell (Nat.le_refl _) _⟩
    exact (Below.heap_setCell _ _ _ _ (by show g ≠ w.heap.size; omega)).trans (Below.heap_setCell _ _ _ _ (by show g ≠ w.heap.size; omega))
  generalize (w1.setCell ⟨w.heap.size, 0, none⟩ (.bool true)).setCell ⟨w.heap.size, 0, none⟩ (.bool true) = W at hc3 hfin ⊢
  simp [Leaves, settle, results, Tryd.results24, go_sem, hc3, hfin]

theorem openHand_any (B bb bx n : Nat) (b : UInt8) (l : List UInt8) (w : World) (h : Built B bb l w) (hB : B ≤ bb) (hl : l.length + n ≤ 140737488355328) (hn : n ≤ 999999999)
    (hbx : w.heap[bx]? = some (.cells #[.pointer (some ⟨bb, 0, none⟩)] 41 (0, 0))) (hne : bx ≠ bb) :
    Calls Tryd.prog 25 #[.int .i64 n, .int .u8 b.toNat, .pointer (some ⟨bx, 0, none⟩)] w fun e w' => e = .returned (.tuple #[]) ∧ Built B bb (l ++ List.replicate n b) w' ∧ Below B w w' ∧ w'.heap[bx]? = some (.cells #[.pointer (some ⟨bb, 0, none⟩)] 41 (0, 0)) := by
  have HK := Lib.hid h
  have HX := Lib.hid hbx
  have hBw : B ≤ w.heap.size := Nat.le_trans hB (Nat.le_of_lt h.lt)
  clear h hbx
  go_enter Tryd.func25, Tryd.ntmps25
  go_wp2_with fail
  go_loopw [6] (fun iv wr => ∃ i : Nat, i ≤ n ∧ iv = .int .i64 (i : Int) ∧ Built B bb (l ++ List.replicate i b) wr ∧ Below B w wr ∧ wr.heap[bx]? = some (.cells #[.pointer (some ⟨bb, 0, none⟩)] 41 (0, 0))) (fun iv _ => n - (intOf iv).toNat)
  case atStart => exact ⟨0, by omega, rfl, by simpa using HK.out, Below.refl _ _, HX.out⟩
  case round =>
    obtain ⟨i, hi, rfl, hk, hb, hx⟩ := hrel
    have HK1 := Lib.hid hk
    have HB1 := Lib.hid hb
    have HX1 := Lib.hid hx
    have hc := cell_of_one hx
    clear hk hb hx
    by_cases hlt : i < n
    · have hlt' : (i : Int) < (n : Int) := by omega
      go_wp2_with fail
      refine (built_byte B bb _ b _ HK1.out (by simp; omega) (Nat.le_trans hBw HB1.out.size)).mono ?_
      rintro e w2 ⟨rfl, hk2, hb2, ho2⟩
      have HX2 := Lib.hid (ho2 bx _ HX1.out (fun e => hne (Option.some.inj e)) (fun c' fz' e => by cases e))
      have HK2 := Lib.hid hk2
      have HB2 := Lib.hid (HB1.out.trans hb2)
      clear hk2 hb2 ho2 hc
      go_wp2
      go_roundw
      case rel =>
        refine ⟨i + 1, by omega, by go_num, ?_, HB2.out, HX2.out⟩
        rw [List.replicate_succ', ← List.append_assoc]
        exact HK2.out
      case measure => simp [intOf]; omega
    · obtain rfl : i = n := by omega
      go_wp2
      go_end0
      exact ⟨rfl, HK1.out, HB1.out, HX1.out⟩

set_option maxRecDepth 100000 in
set_option maxHeartbeats 2000000 in
theorem open_any (p : Nat → Addr) (s : List UInt8) (most : Int) (w : World) (hs : s.length ≤ 1000000000) (hm : most ≤ 140737488355328) (hE : Env p w) :
    Calls Tryd.prog 8 #[.string ⟨s.toArray⟩, .int .i64 most] w fun e w' => ∃ v, e = .returned (.tuple #[.string ⟨(openS s most).1.toArray⟩, v]) ∧ ErrAt p w' v (openS s most).2.1 (openS s most).2.2 ∧ Below w.heap.size w w' := by
  have eg : ∀ args w, (callFunc 25 args).run Tryd.prog w = .ok (.enter 25 args) w := enters_of Tryd.func25 (by kernel_rfl) rfl
  have hmf : ∀ (fn : Fn) (first cap : Array Value) (w : World), (Instr.makeFunc fn first cap).run Tryd.prog w = .ok (.func fn first cap) w := fun _ _ _ _ => rfl
  have HE := Lib.hid hE
  have HE0 : Hid (∀ W, Below w.heap.size w W → Env p W) := fun _ h => hE.below h
  clear hE
  go_enter Tryd.func8, Tryd.ntmps8
  go_wp2_with fail
  refine (size_any p s _ hs HE.out).mono ?_
  rintro e w1 ⟨v, rfl, hv, hb1⟩
  have HB1 := Lib.hid hb1
  have HE1 := Lib.hid (HE.out.below hb1)
  clear hb1 HE
  cases hr : (readL s).2 with
  | some k =>
    have HO := Lib.hid (openS_some most hr)
    rw [hr] at hv
    obtain ⟨T, u, rfl⟩ := hv.some (by simp [placeE])
    have HV := Lib.hid hv
    clear hr hv
    go_wp2
    go_ret2
    exact ⟨_, by rw [HO.out]; rfl, by rw [HO.out]; exact HV.out, HB1.out⟩
  | none =>
    have HR := Lib.hid hr
    rw [runsS_none hr]
    rw [hr] at hv
    obtain rfl := hv.isNil
    clear hv
    by_cases hfull : most < (sizeL (readL s).1 : Int)
    · have HO := Lib.hid (openS_full hr hfull)
      have g7 := HE1.out.s7
      clear hr
      go_wp2_with fail
      go_quiet (fail)
      go_wp2
      go_ret2
      exact ⟨_, by rw [HO.out]; rfl, by rw [HO.out]; exact .inr (.inl ⟨7, rfl, by decide, rfl, rfl⟩), below_drewN HB1.out _⟩
    · have HO := Lib.hid (openS_fine hr hfull)
      have hfull' : ¬ most < (sizeL (readL s).1 : Int) := hfull
      clear hr
      go_wp2_with fail
      refine (room_any (sizeL (readL s).1) _ (by omega)).mono ?_
      rintro e w2 ⟨rfl, hk2, hb2⟩
      have hsz2 : w1.heap.size + 1 < w2.heap.size := hk2.lt
      have HK2 := Lib.hid hk2
      have HB2 := Lib.hid hb2
      clear hk2 hb2
      go_wp2_with fail
      obtain ⟨W0, hW0⟩ : ∃ W0, W0 = w2.alloc (.cells #[.pointer (some ⟨w1.heap.size + 1, 0, none⟩)] 41) := ⟨_, rfl⟩
      have hx0 : W0.heap[w2.heap.size]? = some (.cells #[.pointer (some ⟨w1.heap.size + 1, 0, none⟩)] 41 (0, 0)) := by rw [hW0]; exact heap_new _ _
      have hB0 : Below w2.heap.size w2 W0 := by rw [hW0]; exact (Below.refl _ _).alloc (Nat.le_refl _) _
      have hK0 := HK2.out.below hB0
      have hBw : Below w.heap.size w W0 := HB1.out.trans ((HB2.out.trans (hB0.mono HB2.out.size)).mono HB1.out.size)
      rw [← hW0]
      have hne : w2.heap.size ≠ w1.heap.size + 1 := by omega
      clear hW0 hB0 HK2 HB2
      have hws := HB1.out.size
      refine (eachPressed_any p s 25 #[.pointer (some ⟨w2.heap.size, 0, none⟩)] eg (fun d W => Built (w1.heap.size + 1) (w1.heap.size + 1) (openL d) W ∧ Below w.heap.size w W ∧ W.heap[w2.heap.size]? = some (.cells #[.pointer (some ⟨w1.heap.size + 1, 0, none⟩)] 41 (0, 0))) _ hs ⟨hK0, hBw, hx0⟩ (fun d W h => ?_) ?_).mono ?_
      · exact HE0.out _ h.2.1
      · rintro d n b tl W hp ⟨hk, hb, hx⟩
        obtain ⟨h1, h2, h3⟩ := read_prefix hp hs
        refine (openHand_any (w1.heap.size + 1) (w1.heap.size + 1) w2.heap.size n b (openL d) W hk (Nat.le_refl _) (by rw [openL_length]; omega) h2 hx hne).mono ?_
        rintro e W' ⟨rfl, hk', hb', hx'⟩
        exact ⟨rfl, by rw [openL_snoc]; exact hk', hb.trans (hb'.mono (by omega)), hx'⟩
      rintro e w3 ⟨v, w4, rfl, ⟨hk, hb, hx⟩, hb3, hv⟩
      rw [HR.out] at hv
      obtain rfl := hv.isNil
      have hx3 := (hb3.block w2.heap.size (Array.getElem?_eq_some_iff.1 hx).1).trans hx
      have HK3 := Lib.hid (hk.below hb3)
      have HB3 := Lib.hid (hb.trans (hb3.mono hb.size))
      have hc := cell_of_one hx3
      clear hk hb hx hb3 hv hx3 hx0 hK0 hBw
      go_wp2_with fail
      refine (built_string (w1.heap.size + 1) (w1.heap.size + 1) _ _ HK3.out (Nat.le_of_lt HK3.out.lt)).mono ?_
      rintro e w5 ⟨rfl, hb5⟩
      have HB5 := Lib.hid (HB3.out.trans (hb5.mono (by omega)))
      clear hb5
      go_wp2
      go_ret2
      exact ⟨_, by rw [HO.out]; rfl, by rw [HO.out]; exact ErrAt.fine p _, HB5.out⟩
end Go.Proofs.YtjdbpabniaclaaaDoor
/-
  The closed fact of pressed texts, and the law PressBack, whatever texts and number it is called with: walks over this seat's translation.
-/
namespace Go.Proofs.YtjdbpabniaclaaaDoor
open Go.RowKit Go.Shelf

theorem coded_err {p : Nat → Addr} {w : World} {v : Value} {c : Nat} (h : ErrAt p w v c (-1)) (hE : Env p w) :
    Calls Tryd.prog 9 #[v, .int .i64 c] w fun e w' => e = .returned (.bool true) ∧ Below w.heap.size w w' := coded_yes _ _ _ (code_err h hE)

theorem press_length (s : List UInt8) (h : s.length ≤ 999999999) : (pressL s).length ≤ 11 * s.length := by
  have h1 := runs_few s
  have h2 := write_bound (l := runs s) fun r hr => by have := runs_mem hr; omega
  show (writeL (runs s)).length ≤ _
  omega
theorem back_runs {s : List UInt8} (h : s.length ≤ 999999999) : (readL (pressL s)).2 = none ∧ sizeL (runsS (pressL s)) = s.length := by
  have e := read_one s h
  exact ⟨by rw [e], by rw [runsS_none (by rw [e]), e, size_runs]⟩
theorem back_open {s : List UInt8} (h : s.length ≤ 999999999) : openS (pressL s) s.length = (s, 0, -1) := by
  have e := read_one s h
  rw [openS_fine (by rw [e]) (by rw [e, size_runs]; omega), e, open_runs]
theorem back_full {s : List UInt8} {most : Int} (h : s.length ≤ 999999999) (hm : most < s.length) : openS (pressL s) most = ([], 8, -1) := by
  have e := read_one s h
  rw [openS_full (by rw [e]) (by rw [e, size_runs]; exact hm)]
theorem back_two {s t : List UInt8} (hs : s.length ≤ 999999999) (ht : t.length ≤ 999999999) : openS (pressL s ++ pressL t) ((s.length : Int) + (t.length : Int)) = (s ++ t, 0, -1) := by
  have e := read_two s t hs ht
  rw [openS_fine (by rw [e]) (by rw [e, sizeL_app, size_runs, size_runs]; omega), e, openL_app, open_runs, open_runs]
theorem const_press : pressL [97, 97, 97, 98] = [51, 58, 97, 49, 58, 98] := by
  simp [pressL, runs, putRun, writeL, runL, digits_small]
theorem const_open : openS [51, 58, 97, 49, 58, 98] 9 = ([97, 97, 97, 98], 0, -1) := by decide

theorem open_is (p : Nat → Addr) (x : ByteArray) (s : List UInt8) (most : Int) (w : World) (hx : x = ⟨s.toArray⟩) (hs : s.length ≤ 1000000000) (hm : most ≤ 140737488355328) (hE : Env p w) :
    Calls Tryd.prog 8 #[.string x, .int .i64 most] w fun e w' => ∃ v, e = .returned (.tuple #[.string ⟨(openS s most).1.toArray⟩, v]) ∧ ErrAt p w' v (openS s most).2.1 (openS s most).2.2 ∧ Below w.heap.size w w' := by
  subst hx
  exact open_any p s most w hs hm hE
theorem bytes_app (a b : List UInt8) : (⟨a.toArray⟩ : ByteArray) ++ ⟨b.toArray⟩ = ⟨(a ++ b).toArray⟩ := by
  apply ByteArray.ext
  simp

set_option maxRecDepth 100000 in
theorem pressed_any (p : Nat → Addr) (w : World) (hE : Env p w) (hT : Tab w) :
    Calls Tryd.prog 5 #[] w fun e w' => e = .returned (.bool true) ∧ Below w.heap.size w w' := by
  have HE := Lib.hid hE
  have HT := Lib.hid hT
  clear hE hT
  go_enter Tryd.func5, Tryd.ntmps5
  go_wp2_with fail
  refine (open_any p [51, 58, 97, 49, 58, 98] 9 _ (by decide) (by decide) HE.out).mono ?_
  rintro e w1 ⟨v, rfl, hv, hb1⟩
  rw [const_open] at hv ⊢
  obtain rfl := hv.isNil
  have HB1 := Lib.hid hb1
  clear hb1 hv
  go_wp2_with fail
  refine (press_any [97, 97, 97, 98] _ (by decide) (HT.out.below HB1.out)).mono ?_
  rintro e w2 ⟨rfl, hb2⟩
  rw [const_press]
  have HB2 := Lib.hid (HB1.out.trans (hb2.mono HB1.out.size))
  clear hb2
  go_wp2
  go_ret
  exact ⟨rfl, HB2.out⟩

theorem pressBack_long (p : Nat → Addr) (s t : ByteArray) (most : Int) (w : World) (hE : Env p w) (hT : Tab w) (hs : s.size ≤ maxLen) (ht : t.size ≤ maxLen) (h : 500 < s.size ∨ 500 < t.size) :
    Calls Tryd.prog 3 #[.string s, .string t, .int .i64 most] w fun e w' => e = .returned (.bool true) ∧ Below w.heap.size w w' := by
  unfold maxLen at hs ht
  have HE := Lib.hid hE
  have HT := Lib.hid hT
  clear hE hT
  have hc : (500 : Int) < s.size ∨ (¬ (500 : Int) < s.size ∧ (500 : Int) < t.size) := by omega
  clear h
  rcases hc with h | ⟨h1, h2⟩
  all_goals
    go_enter Tryd.func3, Tryd.ntmps3
    go_wp2_with fail
    refine (pressed_any p _ HE.out HT.out).mono ?_
    rintro e w1 ⟨rfl, hb1⟩
    have HB1 := Lib.hid hb1
    clear hb1
    go_wp2
    go_ret
    exact ⟨rfl, HB1.out⟩

set_option maxRecDepth 100000 in
set_option maxHeartbeats 4000000 in
theorem pressBack_main (p : Nat → Addr) (s t : List UInt8) (most : Int) (w : World) (hE : Env p w) (hT : Tab w) (hs : s.length ≤ 500) (ht : t.length ≤ 500) :
    Calls Tryd.prog 3 #[.string ⟨s.toArray⟩, .string ⟨t.toArray⟩, .int .i64 most] w fun e w' => e = .returned (.bool true) ∧ Below w.heap.size w w' := by
  have HE := Lib.hid hE
  have HT := Lib.hid hT
  have hs' : ¬ (500 : Int) < s.length := by omega
  have ht' : ¬ (500 : Int) < t.length := by omega
  have hpl := press_length s (by omega)
  have hql := press_length t (by omega)
  have K1 := Lib.hid (back_runs (s := s) (by omega))
  have K2 := Lib.hid (back_open (s := s) (by omega))
  have K3 := Lib.hid (fun h => back_full (s := s) (most := most) (by omega) h)
  have K4 := Lib.hid (back_two (s := s) (t := t) (by omega) (by omega))
  clear hE hT
  go_enter Tryd.func3, Tryd.ntmps3
  go_wp2_with fail
  refine (pressed_any p _ HE.out HT.out).mono ?_
  rintro e w1 ⟨rfl, hb1⟩
  have HB1 := Lib.hid hb1
  clear hb1
  go_wp2_with fail
  refine (press_any s _ (by omega) (HT.out.below HB1.out)).mono ?_
  rintro e w2 ⟨rfl, hb2⟩
  have HB2 := Lib.hid (HB1.out.trans (hb2.mono HB1.out.size))
  clear hb2
  generalize hP : pressL s = P at hpl K1 K2 K3 K4 ⊢
  have HP := Lib.hid hP
  clear hP
  go_wp2_with fail
  refine (size_any p P _ (by omega) (HE.out.below HB2.out)).mono ?_
  rintro e w3 ⟨v, rfl, hv, hb3⟩
  rw [K1.out.1] at hv
  obtain rfl := hv.isNil
  rw [K1.out.2]
  have HB3 := Lib.hid (HB2.out.trans (hb3.mono HB2.out.size))
  clear hb3 hv
  go_wp2_with fail
  refine (open_any p P s.length _ (by omega) (by omega) (HE.out.below HB3.out)).mono ?_
  rintro e w4 ⟨v, rfl, hv, hb4⟩
  rw [K2.out] at hv ⊢
  obtain rfl := hv.isNil
  have HB4 := Lib.hid (HB3.out.trans (hb4.mono HB3.out.size))
  clear hb4 hv
  go_wp2_with fail
  refine (press_any s _ (by omega) (HT.out.below HB4.out)).mono ?_
  rintro e w5 ⟨rfl, hb5⟩
  rw [HP.out]
  have HB5 := Lib.hid (HB4.out.trans (hb5.mono HB4.out.size))
  clear hb5
  by_cases hm : most < (s.length : Int)
  · go_wp2_with fail
    refine (open_any p P most _ (by omega) (by omega) (HE.out.below HB5.out)).mono ?_
    rintro e w6 ⟨v, rfl, hv, hb6⟩
    rw [K3.out hm] at hv ⊢
    have HB6 := Lib.hid (HB5.out.trans (hb6.mono HB5.out.size))
    have HV := Lib.hid hv
    clear hb6 hv
    go_wp2_with fail
    refine (coded_err HV.out (HE.out.below HB6.out)).mono ?_
    rintro e w7 ⟨rfl, hb7⟩
    have HB7 := Lib.hid (HB6.out.trans (hb7.mono HB6.out.size))
    clear hb7
    go_wp2_with fail
    refine (press_any t _ (by omega) (HT.out.below HB7.out)).mono ?_
    rintro e w8 ⟨rfl, hb8⟩
    have HB8 := Lib.hid (HB7.out.trans (hb8.mono HB7.out.size))
    clear hb8
    generalize pressL t = Q at hql K4 ⊢
    go_wp2_with fail
    refine (open_is p _ (P ++ Q) _ _ (bytes_app P Q) (by rw [List.length_append]; omega) (by omega) (HE.out.below HB8.out)).mono ?_
    rintro e w9 ⟨v9, rfl, hv9, hb9⟩
    rw [K4.out] at hv9 ⊢
    obtain rfl := hv9.isNil
    have HB9 := Lib.hid (HB8.out.trans (hb9.mono HB8.out.size))
    have hst := bytes_app s t
    clear hb9 hv9
    go_wp2
    go_ret
    exact ⟨rfl, HB9.out⟩
  · have hm' : decide (most < (s.length : Int)) = false := by simp; omega
    go_wp2_with fail
    refine (press_any t _ (by omega) (HT.out.below HB5.out)).mono ?_
    rintro e w8 ⟨rfl, hb8⟩
    have HB8 := Lib.hid (HB5.out.trans (hb8.mono HB5.out.size))
    clear hb8
    generalize pressL t = Q at hql K4 ⊢
    go_wp2_with fail
    refine (open_is p _ (P ++ Q) _ _ (bytes_app P Q) (by rw [List.length_append]; omega) (by omega) (HE.out.below HB8.out)).mono ?_
    rintro e w9 ⟨v9, rfl, hv9, hb9⟩
    rw [K4.out] at hv9 ⊢
    obtain rfl := hv9.isNil
    have HB9 := Lib.hid (HB8.out.trans (hb9.mono HB8.out.size))
    have hst := bytes_app s t
    clear hb9 hv9
    go_wp2
    go_ret
    exact ⟨rfl, HB9.out⟩

theorem pressBack_any (p : Nat → Addr) (s t : ByteArray) (most : Int) (w : World) (hE : Env p w) (hT : Tab w) (hs : s.size ≤ maxLen) (ht : t.size ≤ maxLen) :
    Calls Tryd.prog 3 #[.string s, .string t, .int .i64 most] w fun e w' => e = .returned (.bool true) ∧ Below w.heap.size w w' := by
  by_cases h : 500 < s.size ∨ 500 < t.size
  · exact pressBack_long p s t most w hE hT hs ht h
  · obtain ⟨s, rfl⟩ : ∃ l : List UInt8, s = ⟨l.toArray⟩ := ⟨s.data.toList, by cases s; simp⟩
    obtain ⟨t, rfl⟩ : ∃ l : List UInt8, t = ⟨l.toArray⟩ := ⟨t.data.toList, by cases t; simp⟩
    simp only [ByteArray.size, List.size_toArray] at h
    exact pressBack_main p s t most w hE hT (by omega) (by omega)
end Go.Proofs.YtjdbpabniaclaaaDoor
/-
  The document's answer for pressed texts: PressOf: over this seat's translation.
-/
namespace Go.Proofs.YtjdbpabniaclaaaDoor
open Go.RowKit Go.Shelf

theorem adds3 (a d c : List UInt8) (ha : a.length ≤ 100000) (hd : d.length ≤ 20) (hc : c.length ≤ 1) : ∃ x1 x2 x3 : List UInt8,
    (∀ W, (Op.stringOp .add ⟨a.toArray⟩ ⟨d.toArray⟩).run Tryd.prog W = .ok (.string ⟨x1.toArray⟩) W) ∧ (∀ W, (Op.stringOp .add ⟨x1.toArray⟩ ⟨#[58]⟩).run Tryd.prog W = .ok (.string ⟨x2.toArray⟩) W) ∧
    (∀ W, (Op.stringOp .add ⟨x2.toArray⟩ ⟨c.toArray⟩).run Tryd.prog W = .ok (.string ⟨x3.toArray⟩) W) ∧ x3 = a ++ d ++ [58] ++ c :=
  ⟨a ++ d, a ++ d ++ [58], a ++ d ++ [58] ++ c, fun W => run_string_add_lists (P := Tryd.prog) W a d (by omega) (by omega), fun W => run_string_add_lists (P := Tryd.prog) W _ [58] (by simp; omega) (by simp),
    fun W => run_string_add_lists (P := Tryd.prog) W _ c (by simp; omega) (by omega), rfl⟩
theorem rep_snoc (m : Nat) (c : UInt8) (r : List UInt8) : List.replicate m c ++ c :: r = List.replicate (m + 1) c ++ r := by
  rw [List.replicate_succ', List.append_assoc]
  rfl
theorem extract_one {l : List UInt8} {i : Nat} (h : i < l.length) : ({ data := l.toArray } : ByteArray).extract i (i + 1) = ⟨[l[i]].toArray⟩ := by
  apply ByteArray.ext
  simp
  rw [List.drop_eq_getElem_cons h]
  rfl

set_option maxRecDepth 100000 in
set_option maxHeartbeats 4000000 in
theorem pressOf_any (s : List UInt8) (w : World) (hs : s.length ≤ 5000) :
    Calls Tryd.prog 10 #[.string ⟨s.toArray⟩] w fun e w' => e = .returned (.string ⟨(pressL s).toArray⟩) ∧ Below w.heap.size w w' := by
  go_enter Tryd.func10, Tryd.ntmps10
  go_wp2_with fail
  go_loopw [3, 4, 5] (fun ov nv iv wr => ∃ (d : List (Nat × UInt8)) (m i : Nat), i ≤ s.length ∧ m ≤ i ∧ (m ≠ 0 → i < s.length) ∧ runs s = d ++ runs (List.replicate m (s.getD i 0) ++ s.drop i) ∧ ov = .string ⟨(writeL d).toArray⟩ ∧ nv = .int .i64 (m : Int) ∧ iv = .int .i64 (i : Int) ∧ Below w.heap.size w wr) (fun _ _ iv _ => s.length - (intOf iv).toNat)
  case atStart => exact ⟨[], 0, 0, by omega, by omega, by simp, by simp, rfl, rfl, rfl, Below.refl _ _⟩
  case round =>
    obtain ⟨d, m, i, hi, hm, hmi, hr, rfl, rfl, rfl, hb⟩ := hrel
    have HB := Lib.hid hb
    have HR := Lib.hid hr
    clear hb hr
    by_cases hlt : i < s.length
    · have hlt' : (i : Int) < (s.length : Int) := by omega
      have hiz : i < ({ data := s.toArray } : ByteArray).size := by simp [ByteArray.size]; omega
      have hx1 := extract_one hlt
      obtain ⟨c, hc⟩ : ∃ c, s[i] = c := ⟨_, rfl⟩
      have hci : ({ data := s.toArray } : ByteArray)[i]'hiz = c := hc
      have HD : Hid (runs s = d ++ runs (List.replicate (m + 1) c ++ s.drop (i + 1))) := by
        show runs s = _
        rw [HR.out, List.getD_eq_getElem?_getD, List.getElem?_eq_getElem hlt, drop_at hlt, hc, Option.getD_some, rep_snoc]
      rw [hc] at hx1
      clear HR hc hmi
      by_cases hgo : s[i + 1]? = some c
      · have hlt1 : i + 1 < s.length := by
          rcases Nat.lt_or_ge (i + 1) s.length with h | h
          · exact h
          · rw [List.getElem?_eq_none h] at hgo; cases hgo
        have hlt1' : (i : Int) + 1 < (s.length : Int) := by omega
        have hjz : i + 1 < ({ data := s.toArray } : ByteArray).size := by simp [ByteArray.size]; omega
        have hcj : ({ data := s.toArray } : ByteArray)[i + 1]'hjz = c := by
          rw [List.getElem?_eq_getElem hlt1] at hgo
          exact Option.some.inj hgo
        have HG : Hid (s.getD (i + 1) 0 = c) := by show s.getD (i + 1) 0 = c; rw [List.getD_eq_getElem?_getD, hgo]; rfl
        clear hgo hx1
        go_wp2_with fail
        go_quiet (fail)
        go_wp2
        go_roundw
        case rel => exact ⟨d, m + 1, i + 1, by omega, by omega, fun _ => hlt1, by rw [HG.out]; exact HD.out, rfl, by go_num, by go_num, below_drewN HB.out _⟩
        case measure => simp [intOf]; omega
      · have HX : Hid (runs s = d ++ (m + 1, c) :: runs (s.drop (i + 1))) := by
          show runs s = _
          rw [HD.out, runs_rep m c _ (by rw [List.head?_drop]; exact hgo)]
        have hwb := (runs_part HX.out (by omega)).1
        have HW := Lib.hid (writeL_snoc d (m + 1, c))
        have hdl : (digitsL (m + 1)).length ≤ 9 := digits_length 8 _ (by omega)
        have HC : ∀ W, Calls Tryd.prog 27 #[.int .i64 ((m : Int) + 1)] W fun e w' => e = .returned (.string ⟨(digitsL (m + 1)).toArray⟩) ∧ Below W.heap.size W w' := fun W => decimal_any (m + 1) W (by omega)
        obtain ⟨x1, x2, x3, A1, A2, A3, hx⟩ := adds3 (writeL d) (digitsL (m + 1)) [c] (by omega) (by omega) (by simp)
        have HX3 : Hid (writeL (d ++ [(m + 1, c)]) = x3) := by
          show writeL _ = x3
          rw [HW.out, hx]
          simp [runL]
        have HGO := Lib.hid hgo
        have hwr : IntKind.i64.wrap ((i : Int) + 1) = (i : Int) + 1 := by rw [IntKind.wrap_i64]; omega
        have hi0 : (0 : Int) ≤ (i : Int) := by omega
        have hi1 : (i : Int) ≤ (i : Int) + 1 := by omega
        have hi2 : (i : Int) + 1 ≤ (s.length : Int) := by omega
        have ht1 : ((i : Int) + 1).toNat = i + 1 := by omega
        generalize digitsL (m + 1) = ds at HC A1 hdl
        generalize writeL d = wd at A1 hwb ⊢
        clear hx HW HD hgo
        by_cases hlt1 : i + 1 < s.length
        · have hlt1' : (i : Int) + 1 < (s.length : Int) := by omega
          have hjz : i + 1 < ({ data := s.toArray } : ByteArray).size := by simp [ByteArray.size]; omega
          obtain ⟨c', hc'⟩ : ∃ c', s[i + 1] = c' := ⟨_, rfl⟩
          have hcj : ({ data := s.toArray } : ByteArray)[i + 1]'hjz = c' := hc'
          have hcc : ((c'.toNat : Int) == (c.toNat : Int)) = false := by
            simp
            exact fun e => HGO.out (by rw [List.getElem?_eq_getElem hlt1, hc']; exact congrArg some (UInt8.toNat_inj.1 (by omega)))
          clear hc'
          go_wp2_with fail
          go_quiet (fail)
          go_wp2_with fail
          go_region_with (first
            | (go_at_call 27; (with_reducible refine (HC _).mono ?_); rintro e w1 ⟨rfl, hb1⟩; have HB1 := Lib.hid ((below_drewN HB.out _).drew.trans (hb1.mono HB.out.size)); clear hb1))
          all_goals
            go_wp2
            go_roundw
            case rel => exact ⟨d ++ [(m + 1, c)], 0, i + 1, by omega, by omega, by simp, by rw [List.append_assoc]; simpa using HX.out, by rw [HX3.out], rfl, by go_num, HB1.out⟩
            case measure => simp [intOf]; omega
        · have hlt1' : decide ((i : Int) + 1 < (s.length : Int)) = false := by simp; omega
          go_wp2_with fail
          go_region_with (first
            | (go_at_call 27; (with_reducible refine (HC _).mono ?_); rintro e w1 ⟨rfl, hb1⟩; have HB1 := Lib.hid (HB.out.drew.trans (hb1.mono HB.out.size)); clear hb1))
          all_goals
            go_wp2
            go_roundw
            case rel => exact ⟨d ++ [(m + 1, c)], 0, i + 1, by omega, by omega, by simp, by rw [List.append_assoc]; simpa using HX.out, by rw [HX3.out], rfl, by go_num, HB1.out⟩
            case measure => simp [intOf]; omega
    · obtain rfl : i = s.length := by omega
      obtain rfl : m = 0 := by
        rcases Nat.eq_zero_or_pos m with h | h
        · exact h
        · exact absurd (hmi (by omega)) hlt
      have HN : Hid (pressL s = writeL d) := by
        show writeL (runs s) = _
        rw [HR.out]
        simp [runs]
      clear HR hmi
      go_wp2
      go_ret
      exact ⟨by rw [HN.out]; rfl, HB.out⟩
end Go.Proofs.YtjdbpabniaclaaaDoor
/-
  The document's answer for pressed texts: RunsOf, SizeOf: over this seat's translation.
-/
namespace Go.Proofs.YtjdbpabniaclaaaDoor
open Go.RowKit Go.Shelf

/-- Runs as they lie in memory: two cells each. -/
def rcells (l : List (Nat × UInt8)) : List Value := l.flatMap fun r => [.int .i64 (r.1 : Int), .int .u8 (r.2.toNat : Int)]
theorem rcells_length (l : List (Nat × UInt8)) : (rcells l).length = l.length * 2 := by
  induction l with
  | nil => rfl
  | cons r l ih => simp only [rcells, List.flatMap_cons, List.length_append, List.length_cons, List.length_nil] at ih ⊢; omega
theorem rcells_app (a b : List (Nat × UInt8)) : rcells (a ++ b) = rcells a ++ rcells b := by simp [rcells]
theorem rcells_at : ∀ (l : List (Nat × UInt8)) (k : Nat) (h : k < l.length), (rcells l)[k * 2]? = some (.int .i64 (l[k].1 : Int)) ∧ (rcells l)[k * 2 + 1]? = some (.int .u8 (l[k].2.toNat : Int))
  | [], k, h => by simp at h
  | r :: l, 0, _ => ⟨rfl, rfl⟩
  | r :: l, k + 1, h => by
    have ih := rcells_at l k (by simpa using h)
    have e : rcells (r :: l) = [.int .i64 (r.1 : Int), .int .u8 (r.2.toNat : Int)] ++ rcells l := by simp [rcells]
    rw [e, List.getElem?_append_right (by simp; omega), List.getElem?_append_right (by simp; omega)]
    have e1 : (k + 1) * 2 - [Value.int .i64 (r.1 : Int), .int .u8 (r.2.toNat : Int)].length = k * 2 := by simp; omega
    have e2 : (k + 1) * 2 + 1 - [Value.int .i64 (r.1 : Int), .int .u8 (r.2.toNat : Int)].length = k * 2 + 1 := by simp; omega
    rw [e1, e2]
    exact ih
/-- Runs that lie from an address on. -/
def RLies (w : World) (a : Option Addr) (l : List (Nat × UInt8)) : Prop := l ≠ [] → ∃ b o, a = some ⟨b, o, none⟩ ∧ ∀ k (h : k < l.length), w.cell? ⟨b, o + k * 2, none⟩ = some (.int .i64 (l[k].1 : Int)) ∧ w.cell? ⟨b, o + k * 2 + 1, none⟩ = some (.int .u8 (l[k].2.toNat : Int))
theorem RLies.at {w : World} {a : Option Addr} {l : List (Nat × UInt8)} {k : Nat} (h : RLies w a l) (hk : k < l.length) : ∃ b o, a = some ⟨b, o, none⟩ ∧ w.cell? ⟨b, o + k * 2, none⟩ = some (.int .i64 (l[k].1 : Int)) ∧ w.cell? ⟨b, o + k * 2 + 1, none⟩ = some (.int .u8 (l[k].2.toNat : Int)) := by
  obtain ⟨b, o, rfl, hc⟩ := h (fun e => by rw [e] at hk; simp at hk)
  exact ⟨b, o, rfl, (hc k hk).1, (hc k hk).2⟩
theorem RLies.below {w w' : World} {a : Option Addr} {l : List (Nat × UInt8)} (h : RLies w a l) (hb : Below w.heap.size w w') : RLies w' a l := fun hl => by
  obtain ⟨b, o, rfl, hc⟩ := h hl
  exact ⟨b, o, rfl, fun k hk => ⟨(hb.cell (p := ⟨b, o + k * 2, none⟩) (block_lt_of_cell (hc k hk).1)).trans (hc k hk).1, (hb.cell (p := ⟨b, o + k * 2 + 1, none⟩) (block_lt_of_cell (hc k hk).2)).trans (hc k hk).2⟩⟩
theorem rowns_lies {w : World} {base : Nat} {v : Value} {l : List (Nat × UInt8)} (h : w.ownsRow base 57 2 v l.length (rcells l)) :
    ∃ a cap, v = .slice a l.length cap ∧ RLies w a l ∧ l.length ≤ cap := by
  rcases h.2 with ⟨rfl, hn⟩ | ⟨g, cap, cur, rfl, _, hg, hcap, hm, hsz, htk⟩
  · have e : l = [] := List.length_eq_zero_iff.1 hn
    subst e
    exact ⟨none, 0, rfl, fun h => absurd rfl h, by simp⟩
  · refine ⟨some ⟨g, 0, none⟩, cap, rfl, fun _ => ⟨g, 0, rfl, fun k hk => ?_⟩, hcap⟩
    have hc : ∀ j, j < l.length * 2 → w.cell? ⟨g, 0 + j, none⟩ = (rcells l)[j]? := fun j hj => by
      rw [← htk, List.getElem?_take_of_lt (by omega)]
      simp [World.cell?, hg]
    have h2 := rcells_at l k hk
    refine ⟨?_, ?_⟩
    · rw [← h2.1, ← hc (k * 2) (by omega)]
    · rw [← h2.2, ← hc (k * 2 + 1) (by omega)]
      rfl
theorem rowns_keep {w w' : World} {base : Nat} {e : TypeId} {size : Nat} {v : Value} {n : Nat} {xs : List Value} (h : w.ownsRow base e size v n xs) (hk : ∀ g, base ≤ g → g < w.heap.size → w'.heap[g]? = w.heap[g]?) : w'.ownsRow base e size v n xs := by
  refine ⟨h.1, ?_⟩
  rcases h.2 with h0 | ⟨g, cap, cur, hv, hg, hh, h1, h2, h3, h4⟩
  · exact .inl h0
  · exact .inr ⟨g, cap, cur, hv, hg, by rw [hk g hg (Array.getElem?_eq_some_iff.1 hh).1]; exact hh, h1, h2, h3, h4⟩
theorem rowns_below {w w' : World} {base : Nat} {e : TypeId} {size : Nat} {v : Value} {n : Nat} {xs : List Value} (h : w.ownsRow base e size v n xs) (hb : Below w.heap.size w w') : w'.ownsRow base e size v n xs :=
  rowns_keep h fun g _ hg => hb.block g hg
theorem rowns_slot {w : World} {b : Nat} {e : TypeId} {size : Nat} {v : Value} {n : Nat} {xs : List Value} (x y : Value) (h : w.ownsRow (b + 1) e size v n xs) : ((w.setCell ⟨b, 0, none⟩ x).setCell ⟨b, 1, none⟩ y).ownsRow b e size v n xs :=
  (rowns_keep h fun g hg _ => (Below.heap_setCell _ _ _ _ (by show g ≠ b; omega)).trans (Below.heap_setCell _ _ _ _ (by show g ≠ b; omega))).mono (Nat.le_succ _)
theorem fineOf_any (w : World) : Calls Tryd.prog 28 #[] w fun e w' => e = .returned (.agg #[.int .i64 0, .int .i64 (-1)]) ∧ Below w.heap.size w w' := by
  go_enter Tryd.func28, Tryd.ntmps28
  go_wp2
  exact bodyPost_ret (v := .agg #[.int .i64 0, .int .i64 (-1)]) (by simp [results, Tryd.results28, go_sem]) rfl ⟨rfl, (Below.refl _ _).alloc (Nat.le_refl _) _⟩
theorem bareOf_any (c : Int) (w : World) : Calls Tryd.prog 29 #[.int .i64 c] w fun e w' => e = .returned (.agg #[.int .i64 c, .int .i64 (-1)]) ∧ Below w.heap.size w w' := by
  go_enter Tryd.func29, Tryd.ntmps29
  go_wp2
  exact bodyPost_ret (v := .agg #[.int .i64 c, .int .i64 (-1)]) (by simp [results, Tryd.results29, go_sem]) rfl ⟨rfl, (Below.refl _ _).alloc (Nat.le_refl _) _⟩
theorem Tryd.infoRun : (Tryd.prog.info? 57).map (fun i => (i.zero, i.size, i.bytes)) = some (some (.agg #[.int .i64 0, .int .u8 0]), 2, 16) := by kernel_rfl

theorem bad_of {l : List UInt8} {n k : Nat} (h : l ≠ []) (hs : scan 0 0 l = (n, k)) (hb : k = 0 ∨ (l.drop k).head? ≠ some 58) : readL l = ([], some k) := by
  have := readL_bad h (by rw [hs]; exact hb)
  rwa [hs] at this
theorem short_of {l : List UInt8} {n k : Nat} (h : l ≠ []) (hs : scan 0 0 l = (n, k)) (h0 : k ≠ 0) (hc : (l.drop k).head? = some 58) (hl : l.length = k + 1) : readL l = ([], some (k + 1)) := by
  have := readL_short h (by rw [hs]; exact h0) (by rw [hs]; exact hc) (by rw [hs]; exact hl)
  rwa [hs] at this
theorem more_of {l : List UInt8} {n k : Nat} (h : l ≠ []) (hs : scan 0 0 l = (n, k)) (h0 : k ≠ 0) (hc : (l.drop k).head? = some 58) (hl : l.length ≠ k + 1) : readL l = ((n, l.getD (k + 1) 0) :: (readL (l.drop (k + 2))).1, (readL (l.drop (k + 2))).2.map (· + (k + 2))) := by
  have := readL_more h (by rw [hs]; exact h0) (by rw [hs]; exact hc) (by rw [hs]; exact hl)
  rwa [hs] at this
theorem head_at {s : List UInt8} {j : Nat} (h : j < s.length) : (s.drop j).head? = some s[j] := by rw [List.head?_drop, List.getElem?_eq_getElem h]
theorem run_new (w : World) (n : Nat) (b : UInt8) (T : TypeId) : ∀ j u, ([.int .i64 (n : Int), .int .u8 (b.toNat : Int)] : List Value)[j]? = some u → (w.alloc (.cells #[.int .i64 (n : Int), .int .u8 (b.toNat : Int)] T)).cell? ((⟨w.heap.size, 0, none⟩ : Addr).add j) = some u := by
  intro j u h
  have hn := heap_new w (.cells #[.int .i64 (n : Int), .int .u8 (b.toNat : Int)] T)
  have hc : ∀ k, (w.alloc (.cells #[.int .i64 (n : Int), .int .u8 (b.toNat : Int)] T)).cell? ⟨w.heap.size, k, none⟩ = #[.int .i64 (n : Int), .int .u8 (b.toNat : Int)][k]? := fun k => by
    unfold World.cell?
    rw [hn]
    rfl
  rcases j with _ | _ | j
  · exact (hc 0).trans h
  · exact (hc (0 + 1)).trans h
  · simp at h

set_option maxRecDepth 100000 in
set_option maxHeartbeats 8000000 in
theorem runsOf_any (s : List UInt8) (w : World) (hs : s.length ≤ 1000000) :
    Calls Tryd.prog 11 #[.string ⟨s.toArray⟩] w fun e w' => (∃ v, e = .returned (.tuple #[v, .agg #[.int .i64 (placeE (readL s).2).1, .int .i64 (placeE (readL s).2).2]]) ∧ w'.ownsRow w.heap.size 57 2 v (runsS s).length (rcells (runsS s))) ∧ Below w.heap.size w w' := by
  obtain ⟨i0, hi0, hz0, hz1, hz2⟩ := info_parts Tryd.infoRun
  go_enter Tryd.func11, Tryd.ntmps11
  go_wp2_with fail
  go_loopg [4, 5] (s.length) (fun gf ov iv wr => ∃ (i : Nat) (d : List (Nat × UInt8)), s.length - i ≤ gf ∧ i ≤ s.length ∧ 3 * d.length ≤ i ∧ iv = .int .i64 (i : Int) ∧ readL s = (d ++ (readL (s.drop i)).1, (readL (s.drop i)).2.map (· + i)) ∧ wr.ownsRow (w.heap.size + 1) 57 2 ov d.length (rcells d) ∧ Below (w.heap.size + 1) (w.alloc (.cells #[.int .i64 0, .int .i64 0] 34)) wr)
  case atStart => exact ⟨0, [], by omega, by omega, by simp, rfl, by simp, World.ownsRow_nil _ _ _ _, Below.refl _ _⟩
  case round =>
    obtain ⟨i, d, hgf, hi, hdi, rfl, hr, hrow, hb⟩ := hrel
    have HR := Lib.hid hr
    have HB := Lib.hid hb
    have HO := Lib.hid hrow
    clear hr hb hrow
    by_cases hlt : i < s.length
    · have hlt' : (i : Int) < (s.length : Int) := by omega
      go_upto_block 2 with fail
      go_cut [6, 7] from 8 to 89 (fun nv kv wx => ∃ n k j : Nat, j = i + k ∧ k ≤ 9 ∧ j ≤ s.length ∧ scan 0 0 (s.drop i) = (n, k) ∧ nv = .int .i64 (n : Int) ∧ kv = .int .i64 (j : Int) ∧ wx = wr)
      case first =>
        go_wp2_with fail
        go_loopg [6, 7] (s.length) (fun gq nv kv wq => ∃ k n j : Nat, s.length - j ≤ gq ∧ j = i + k ∧ k ≤ 9 ∧ j ≤ s.length ∧ scan k n (s.drop j) = scan 0 0 (s.drop i) ∧ Digs k n ∧ nv = .int .i64 (n : Int) ∧ kv = .int .i64 (j : Int) ∧ wq = wr)
        case atStart => exact ⟨0, 0, i, by omega, rfl, by omega, by omega, rfl, digs_zero, rfl, rfl, rfl⟩
        case round =>
          obtain ⟨k, n, j, hgq, hj, hk, hik, hsc, hdg, rfl, rfl, hbq⟩ := hrel
          subst hbq
          have hn := digs_bound hdg hk
          have HG := Lib.hid hdg
          have HJ := Lib.hid hj
          have HS := Lib.hid hsc
          have hj0 : (i : Int) ≤ (j : Int) := by omega
          clear hdg hsc
          by_cases hjl : j < s.length
          · have HD := Lib.hid (drop_at hjl)
            have hjs : j < ({ data := s.toArray } : ByteArray).size := by simp [ByteArray.size]; omega
            obtain ⟨b, hb⟩ : ∃ b, s[j] = b := ⟨_, rfl⟩
            have hbj : ({ data := s.toArray } : ByteArray)[j]'hjs = b := hb
            rw [hb] at HD
            clear hb
            by_cases hk9 : k < 9
            · have hk9' : (j : Int) - (i : Int) < 9 := by omega
              by_cases hgo : isDigit b = true ∧ ¬ (k = 0 ∧ b = 48)
              · obtain ⟨hd, hz⟩ := hgo
                have HN : Hid (scan (k + 1) (10 * n + (b.toNat - 48)) (s.drop (j + 1)) = scan 0 0 (s.drop i)) := by
                  show _ = _
                  rw [← HS.out, HD.out, scan_go ⟨hk9, hd, hz⟩]
                have HG2 := Lib.hid (digs_go HG.out hd hz)
                have hsub := sub_digit hd
                have hbd := digit_le hd
                have hlo : decide ((b.toNat : Int) < 48) = false := by simp; omega
                have hhi : decide ((57 : Int) < (b.toNat : Int)) = false := by simp; omega
                have hnz : ((j : Int) = (i : Int) ∧ ((b.toNat : Int) == 48) = false) ∨ ((j : Int) == (i : Int)) = false := by
                  by_cases hk0 : k = 0
                  · refine Or.inl ⟨by omega, ?_⟩
                    simp
                    exact fun e => hz ⟨hk0, UInt8.toNat_inj.1 (by show b.toNat = 48; omega)⟩
                  · exact Or.inr (by simp; omega)
                obtain ⟨g2, rfl⟩ : ∃ g2, gk = g2 + 1 := ⟨gk - 1, by omega⟩
                clear HS HG hz
                rcases hnz with ⟨hji, h48⟩ | hji
                · obtain rfl : j = i := by omega
                  clear hji hj
                  go_wp2
                  go_roundg g2
                  case measure => omega
                  case rel => exact ⟨k + 1, 10 * n + (b.toNat - 48), j + 1, by omega, by have := HJ.out; omega, by omega, by omega, HN.out, HG2.out, by go_num, by go_num, rfl⟩
                · clear hj
                  go_wp2
                  go_roundg g2
                  case measure => omega
                  case rel => exact ⟨k + 1, 10 * n + (b.toNat - 48), j + 1, by omega, by have := HJ.out; omega, by omega, by omega, HN.out, HG2.out, by go_num, by go_num, rfl⟩
              · have HR2 : Hid (scan 0 0 (s.drop i) = (n, k)) := by
                  show scan 0 0 (s.drop i) = _
                  rw [← HS.out, HD.out, scan_end (fun h => hgo h.2)]
                clear HS HG HD
                by_cases hlo : b.toNat < 48
                · have hlo' : (b.toNat : Int) < 48 := by omega
                  clear hj
                  go_wp2
                  go_meet
                  case rel => exact ⟨n, k, j, HJ.out, hk, hik, HR2.out, rfl, rfl, rfl⟩
                · have hlo' : decide ((b.toNat : Int) < 48) = false := by simp; omega
                  by_cases hhi : 57 < b.toNat
                  · have hhi' : (57 : Int) < (b.toNat : Int) := by omega
                    clear hj
                    go_wp2
                    go_meet
                    case rel => exact ⟨n, k, j, HJ.out, hk, hik, HR2.out, rfl, rfl, rfl⟩
                  · have hhi' : decide ((57 : Int) < (b.toNat : Int)) = false := by simp; omega
                    have hkb : k = 0 ∧ b = 48 := by
                      rcases Decidable.em (k = 0 ∧ b = 48) with h | h
                      · exact h
                      · exact absurd ⟨by simp [isDigit]; omega, h⟩ hgo
                    obtain ⟨rfl, rfl⟩ := hkb
                    obtain rfl : j = i := by omega
                    clear hj
                    go_wp2
                    go_meet
                    case rel => exact ⟨n, 0, j, rfl, hk, hik, HR2.out, rfl, rfl, rfl⟩
            · have hk9' : ¬ (j : Int) - (i : Int) < 9 := by omega
              have HR2 : Hid (scan 0 0 (s.drop i) = (n, k)) := by
                show scan 0 0 (s.drop i) = _
                rw [← HS.out, HD.out, scan_end (fun h => hk9 h.1)]
              clear HS HG HD hj
              go_wp2
              go_meet
              case rel => exact ⟨n, k, j, HJ.out, hk, hik, HR2.out, rfl, rfl, rfl⟩
          · have HR2 : Hid (scan 0 0 (s.drop i) = (n, k)) := by
              show scan 0 0 (s.drop i) = _
              rw [← HS.out, List.drop_eq_nil_of_le (by omega)]
              rfl
            clear HS HG hj
            go_wp2
            go_meet
            case rel => exact ⟨n, k, j, HJ.out, hk, hik, HR2.out, rfl, rfl, rfl⟩
      case rest =>
        obtain ⟨n, k, j, hj, hk, hjl, hsc, rfl, rfl, rfl⟩ := hcut
        have hne : s.drop i ≠ [] := fun e => by have := congrArg List.length e; simp at this; omega
        have hdl : (s.drop i).length = s.length - i := List.length_drop
        have hdd : (s.drop i).drop k = s.drop j := by rw [List.drop_drop, hj]
        have hdg := scan_digs (s.drop i) 0 0 digs_zero
        rw [hsc] at hdg
        have hn := digs_bound hdg hk
        obtain ⟨t0, t1, y0, y1, tb⟩ := slot_two HB.out
        have HNE := Lib.hid hne
        have HSC := Lib.hid hsc
        have HDD := Lib.hid hdd
        have HJ := Lib.hid hj
        clear hne hsc hdd hdg
        by_cases hbad : j = i ∨ j = s.length ∨ s[j]? ≠ some 58
        · have HR3 := Lib.hid (read_bad HR.out (bad_of HNE.out HSC.out (by
            rcases hbad with h | h | h
            · exact Or.inl (by omega)
            · exact Or.inr (by rw [HDD.out, List.drop_eq_nil_of_le (by omega)]; simp)
            · exact Or.inr (by rw [HDD.out, List.head?_drop]; exact h))))
          have HX : Hid (placeE (readL s).2 = (1, (j : Int))) := by
            show placeE (readL s).2 = _
            rw [HR3.out, HJ.out]
            rfl
          have HT : Hid (runsS s = []) := runsS_some (by rw [HR3.out])
          clear HR3 HR hj
          by_cases hji : j = i
          · subst hji
            go_wp2
            obtain ⟨q0, q1, q2⟩ := slot_set (w := w) (.int .i64 1) (.int .i64 j) t0 t1 tb
            exact bodyPost_ret (v := .tuple #[.slice none 0 0, .agg #[.int .i64 1, .int .i64 j]]) (by simp [results, Tryd.results11, go_sem, q0, q1]) rfl ⟨⟨_, by rw [HX.out]; rfl, by rw [HT.out]; exact World.ownsRow_nil _ _ _ _⟩, q2⟩
          · have hji' : ((j : Int) == (i : Int)) = false := by simp; omega
            by_cases hjs : j = s.length
            · have hjs' : (j : Int) = (s.length : Int) := by omega
              subst hjs
              go_wp2
              obtain ⟨q0, q1, q2⟩ := slot_set (w := w) (.int .i64 1) (.int .i64 s.length) t0 t1 tb
              exact bodyPost_ret (v := .tuple #[.slice none 0 0, .agg #[.int .i64 1, .int .i64 s.length]]) (by simp [results, Tryd.results11, go_sem, q0, q1]) rfl ⟨⟨_, by rw [HX.out]; rfl, by rw [HT.out]; exact World.ownsRow_nil _ _ _ _⟩, q2⟩
            · have hjs' : ((j : Int) == (s.length : Int)) = false := by simp; omega
              have hjlt : j < s.length := by omega
              have hjz : j < ({ data := s.toArray } : ByteArray).size := by simp [ByteArray.size]; omega
              obtain ⟨b, hb⟩ : ∃ b, s[j] = b := ⟨_, rfl⟩
              have hbj : ({ data := s.toArray } : ByteArray)[j]'hjz = b := hb
              have hb58 : ¬ (b.toNat : Int) = 58 := by
                intro e
                rcases hbad with h | h | h
                · exact hji h
                · exact hjs h
                · exact h (by rw [List.getElem?_eq_getElem hjlt, hb]; exact congrArg some (UInt8.toNat_inj.1 (by show b.toNat = 58; omega)))
              clear hb hbad
              go_wp2
              obtain ⟨q0, q1, q2⟩ := slot_set (w := w) (.int .i64 1) (.int .i64 j) t0 t1 tb
              exact bodyPost_ret (v := .tuple #[.slice none 0 0, .agg #[.int .i64 1, .int .i64 j]]) (by simp [results, Tryd.results11, go_sem, q0, q1]) rfl ⟨⟨_, by rw [HX.out]; rfl, by rw [HT.out]; exact World.ownsRow_nil _ _ _ _⟩, q2⟩
        · have hji : j ≠ i := fun h => hbad (Or.inl h)
          have hjs : j ≠ s.length := fun h => hbad (Or.inr (Or.inl h))
          have h58 : s[j]? = some 58 := by
            rcases Decidable.em (s[j]? = some 58) with h | h
            · exact h
            · exact absurd (Or.inr (Or.inr h)) hbad
          have hji' : ((j : Int) == (i : Int)) = false := by simp; omega
          have hjs' : ((j : Int) == (s.length : Int)) = false := by simp; omega
          have hjlt : j < s.length := by omega
          have hjz : j < ({ data := s.toArray } : ByteArray).size := by simp [ByteArray.size]; omega
          have hbj : ((({ data := s.toArray } : ByteArray)[j]'hjz).toNat : Int) = 58 := by
            rw [List.getElem?_eq_getElem hjlt] at h58
            have : s[j] = 58 := Option.some.inj h58
            show ((s[j]).toNat : Int) = 58
            rw [this]
            rfl
          have hk0 : k ≠ 0 := by omega
          have hhd : ((s.drop i).drop k).head? = some 58 := by rw [HDD.out, List.head?_drop]; exact h58
          have HK0 := Lib.hid hk0
          have HHD := Lib.hid hhd
          clear hk0 hhd hbad h58
          by_cases hend : j + 1 = s.length
          · have HR3 := Lib.hid (read_bad HR.out (short_of HNE.out HSC.out HK0.out HHD.out (by omega)))
            have HX : Hid (placeE (readL s).2 = (1, (s.length : Int))) := by
              show placeE (readL s).2 = _
              rw [HR3.out, ← Nat.add_assoc, ← HJ.out, hend]
              rfl
            have HT : Hid (runsS s = []) := runsS_some (by rw [HR3.out])
            have hend' : (j : Int) + 1 = (s.length : Int) := by omega
            clear HR3 HR hj hend
            go_wp2
            obtain ⟨q0, q1, q2⟩ := slot_set (w := w) (.int .i64 1) (.int .i64 s.length) t0 t1 tb
            exact bodyPost_ret (v := .tuple #[.slice none 0 0, .agg #[.int .i64 1, .int .i64 s.length]]) (by simp [results, Tryd.results11, go_sem, q0, q1]) rfl ⟨⟨_, by rw [HX.out]; rfl, by rw [HT.out]; exact World.ownsRow_nil _ _ _ _⟩, q2⟩
          · have hend' : ((j : Int) + 1 == (s.length : Int)) = false := by simp; omega
            have hj1 : j + 1 < s.length := by omega
            have hj1z : j + 1 < ({ data := s.toArray } : ByteArray).size := by simp [ByteArray.size]; omega
            obtain ⟨b, hb⟩ : ∃ b, s[j + 1] = b := ⟨_, rfl⟩
            have hbj1 : ({ data := s.toArray } : ByteArray)[j + 1]'hj1z = b := hb
            have HR3 := Lib.hid (read_on HR.out (more_of HNE.out HSC.out HK0.out HHD.out (by omega)))
            have hgb : (s.drop i).getD (k + 1) 0 = b := by
              have : i + (k + 1) = j + 1 := by omega
              rw [List.getD_eq_getElem?_getD, List.getElem?_drop, this, List.getElem?_eq_getElem hj1, hb]
              rfl
            rw [hgb, ← HJ.out] at HR3
            have hrow := HO.out
            have hbs : w.heap.size + 1 ≤ wc.heap.size := by have := HB.out.size; simpa using this
            clear HR hb hgb hj
            obtain ⟨g', rfl⟩ : ∃ g', gk = g' + 1 := ⟨gk - 1, by omega⟩
            go_wp2_with (at_builtin; refine wpList_append_own _ rfl _ _ 32 rfl (w.heap.size + 1) 57 i0 (.agg #[.int .i64 0, .int .u8 0]) 2 16 Tryd.underlying32 hi0 hz0 hz1 hz2 rfl (by decide) _ _ _ rfl (hrow.alloc _) ⟨wc.heap.size, 0, none⟩ 1 1 [.int .i64 (n : Int), .int .u8 (b.toNat : Int)] rfl rfl (run_new wc n b _) (by simp [Value.oneCell']) (by unfold maxLen; omega) (by omega) (by simp; omega) ?_; intro v' w2 hown' hgrow _)
            have HB2 : Below (w.heap.size + 1) (w.alloc (.cells #[.int .i64 0, .int .i64 0] 34)) w2 := (HB.out.alloc hbs _).grown hgrow (by simp; omega) (fun j ej => (hrow.lt j ej).1)
            have HO2 : w2.ownsRow (w.heap.size + 1) 57 2 v' (d ++ [(n, b)]).length (rcells (d ++ [(n, b)])) := by
              rw [rcells_app, List.length_append]
              simpa [rcells] using hown'
            have hjk := HJ.out
            have hk0 := HK0.out
            go_roundg g'
            case measure => omega
            case rel => exact ⟨j + 2, d ++ [(n, b)], by omega, by omega, by simp; omega, by go_num, HR3.out, HO2, HB2⟩
    · obtain rfl : i = s.length := by omega
      have HN : Hid (readL s = (d, none)) := by
        show readL s = _
        rw [HR.out, List.drop_length, readL_nil]
        simp
      have HX : Hid (placeE (readL s).2 = (0, -1)) := by
        show placeE (readL s).2 = _
        rw [HN.out]
        rfl
      have HT : Hid (runsS s = d) := (runsS_none (by rw [HN.out])).trans (by rw [HN.out])
      obtain ⟨av, cv, rfl, _, _⟩ := rowns_lies HO.out
      clear HR HN
      go_wp2_with fail
      refine (fineOf_any _).mono ?_
      rintro e w3 ⟨rfl, hb3⟩
      have hsz : w.heap.size + 1 ≤ wr.heap.size := by have := HB.out.size; simpa using this
      have HB3 : Below (w.heap.size + 1) (w.alloc (.cells #[.int .i64 0, .int .i64 0] 34)) w3 := HB.out.trans (hb3.mono hsz)
      have hrow3 := rowns_below HO.out hb3
      obtain ⟨t0, t1, y0, y1, tb⟩ := slot_two HB3
      clear hb3 HB3
      go_wp2
      obtain ⟨q0, q1, q2⟩ := slot_set (w := w) (.int .i64 0) (.int .i64 (-1)) t0 t1 tb
      exact bodyPost_ret (v := .tuple #[.slice av d.length cv, .agg #[.int .i64 0, .int .i64 (-1)]]) (by simp [results, Tryd.results11, go_sem, q0, q1]) rfl ⟨⟨_, by rw [HX.out]; rfl, by rw [HT.out]; exact rowns_slot _ _ hrow3⟩, q2⟩

set_option maxRecDepth 100000 in
theorem sizeOf_any (l : List (Nat × UInt8)) (a : Option Addr) (ca : Nat) (w : World) (hl : RLies w a l) (hb : 3 * sizeL l ≤ 1000000000000000) (hn : l.length ≤ 1000000) :
    Calls Tryd.prog 13 #[.slice a l.length ca] w fun e w' => e = .returned (.int .i64 (sizeL l)) ∧ w' = w := by
  have HL := Lib.hid hl
  clear hl
  go_enter Tryd.func13, Tryd.ntmps13
  go_wp2_with fail
  go_loopw [3, 4] (fun nv iv wr => ∃ q : Nat, q ≤ l.length ∧ iv = .int .i64 (q : Int) ∧ nv = .int .i64 (sizeL (l.take q) : Int) ∧ wr = w) (fun _ iv _ => l.length - (intOf iv).toNat)
  case atStart => exact ⟨0, by omega, rfl, rfl, rfl⟩
  case round =>
    obtain ⟨q, hq, rfl, rfl, hw⟩ := hrel
    subst hw
    by_cases hlt : q < l.length
    · have hlt' : (q : Int) < (l.length : Int) := by omega
      obtain ⟨b, o, rfl, c0, _⟩ := HL.out.at hlt
      have hts : sizeL (l.take (q + 1)) = sizeL (l.take q) + l[q].1 := by rw [List.take_succ_eq_append_getElem hlt, sizeL_snoc]
      have htl : sizeL (l.take (q + 1)) ≤ sizeL l := by
        conv => rhs; rw [← List.take_append_drop (q + 1) l, sizeL_app]
        omega
      have HTS := Lib.hid hts
      have hxm : sizeL (l.take q) + l[q].1 ≤ 1000000000000000 := by omega
      clear hts htl
      generalize sizeL (l.take q) = x at hxm HTS ⊢
      generalize l[q].1 = m at hxm c0 HTS
      go_wp2
      go_roundw
      case rel => exact ⟨q + 1, by omega, by go_num, by rw [HTS.out]; go_num, trivial⟩
      case measure => simp [intOf]; omega
    · obtain rfl : q = l.length := by omega
      rw [List.take_length]
      go_wp2
      go_ret
      exact ⟨rfl, rfl⟩
end Go.Proofs.YtjdbpabniaclaaaDoor
/-
  The document's answer for pressed texts: OpenOf: over this seat's translation.
-/
namespace Go.Proofs.YtjdbpabniaclaaaDoor
open Go.RowKit Go.Shelf

theorem conv_own {w : World} {base : Nat} {v : Value} {l : List UInt8} (h : w.ownsRow base 5 1 v l.length (Lib.byteCells l)) : ∃ a cap, v = .slice a l.length cap ∧ ∀ W : World, (∀ g, base ≤ g → W.heap[g]? = w.heap[g]?) → (convert 42 9 (.slice a l.length cap)).run Tryd.prog W = .ok (.string ⟨l.toArray⟩) W := by
  rcases h.2 with ⟨rfl, hn⟩ | ⟨g, cap, cur, rfl, hb, hg, hcap, hm, hsz, htk⟩
  · have e : l = [] := List.length_eq_zero_iff.1 hn
    subst e
    exact ⟨none, 0, rfl, fun W _ => run_convert_bytes_nil W 42 5 Tryd.underlying42 Tryd.underlying5 _ _ 9 Tryd.underlying9⟩
  · refine ⟨some ⟨g, 0, none⟩, cap, rfl, fun W hW => run_convert_bytes_back (P := Tryd.prog) W 42 9 5 ⟨g, 0, none⟩ cap l Tryd.underlying42 Tryd.underlying5 Tryd.underlying9 (fun j hj => ?_)⟩
    have hc : W.cell? ⟨g, 0 + j, none⟩ = (Lib.byteCells l)[j]? := by
      rw [← htk, List.getElem?_take_of_lt (by omega)]
      simp [World.cell?, hW g hb, hg]
    have e : (⟨g, 0, none⟩ : Addr).add j = ⟨g, 0 + j, none⟩ := by
      by_cases h : j = 0
      · subst h; rfl
      · simp [Addr.add, h]
    rw [e, hc]
    simp [Lib.byteCells, List.getElem?_eq_getElem hj]

theorem Tryd.infoByteO : (Tryd.prog.info? 5).map (fun i => (i.zero, i.size, i.bytes)) = some (some (.int .u8 0), 1, 1) := by kernel_rfl
theorem byte_new (w : World) (v : Value) (T : TypeId) : ∀ j u, ([v] : List Value)[j]? = some u → (w.alloc (.cells #[v] T)).cell? ((⟨w.heap.size, 0, none⟩ : Addr).add j) = some u := by
  intro j u h
  have hn := heap_new w (.cells #[v] T)
  have hc : ∀ k, (w.alloc (.cells #[v] T)).cell? ⟨w.heap.size, k, none⟩ = #[v][k]? := fun k => by
    unfold World.cell?
    rw [hn]
    rfl
  rcases j with _ | j
  · exact (hc 0).trans h
  · simp at h
theorem open_take {l : List (Nat × UInt8)} {q : Nat} (h : q < l.length) : openL (l.take (q + 1)) = openL (l.take q) ++ List.replicate l[q].1 l[q].2 := by
  rw [List.take_succ_eq_append_getElem h, openL_snoc]
theorem size_take {l : List (Nat × UInt8)} {q : Nat} (h : q < l.length) : sizeL (l.take q) + l[q].1 ≤ sizeL l := by
  have e : sizeL (l.take (q + 1)) = sizeL (l.take q) + l[q].1 := by rw [List.take_succ_eq_append_getElem h, sizeL_snoc]
  conv => rhs; rw [← List.take_append_drop (q + 1) l, sizeL_app]
  omega

set_option maxRecDepth 100000 in
set_option maxHeartbeats 8000000 in
theorem openOf_any (s : List UInt8) (most : Int) (w : World) (hs : s.length ≤ 300000) (hm : most ≤ 1000000000) :
    Calls Tryd.prog 14 #[.string ⟨s.toArray⟩, .int .i64 most] w fun e w' => e = .returned (.tuple #[.string ⟨(openS s most).1.toArray⟩, .agg #[.int .i64 (openS s most).2.1, .int .i64 (openS s most).2.2]]) ∧ Below w.heap.size w w' := by
  have hsb := size_runsS s
  go_enter Tryd.func14, Tryd.ntmps14
  go_wp2_with fail
  refine (runsOf_any s _ (by omega)).mono ?_
  rintro e w1 ⟨⟨v, rfl, hrow⟩, hb1⟩
  have HB1 := Lib.hid (hb1.mono (Nat.le_of_eq (show w.heap.size + 1 = _ by simp)))
  obtain ⟨av, cv, rfl, hl, hcv⟩ := rowns_lies hrow
  have HL := Lib.hid hl
  have hs1 : w.heap.size + 1 ≤ w1.heap.size := by have := hb1.size; simpa using this
  clear hrow hl hb1
  cases hr : (readL s).2 with
  | some k =>
    have HX := Lib.hid (openS_some most hr)
    have hp : placeE (some k) = (1, (k : Int)) := rfl
    rw [hp]
    clear hr hp
    obtain ⟨t0, t1, y0, y1, tb⟩ := slot_two (HB1.out.alloc hs1 (.cells #[.int .i64 1, .int .i64 k] 34))
    go_wp2
    go_region
    all_goals go_wp2
    all_goals
      obtain ⟨q0, q1, q2⟩ := slot_set (w := w) (.int .i64 1) (.int .i64 k) t0 t1 tb
      exact bodyPost_ret (v := .tuple #[.string ⟨#[]⟩, .agg #[.int .i64 1, .int .i64 k]]) (by simp [results, Tryd.results14, go_sem, q0, q1]) rfl ⟨by rw [HX.out]; rfl, q2.drew⟩
  | none =>
    have hp : placeE none = (0, -1) := rfl
    rw [hp]
    have HR := Lib.hid (runsS_none hr)
    have hfew := (read_few s.length s (Nat.le_refl _)).1
    rw [HR.out] at HL hsb hcv ⊢
    have HBF := Lib.hid (fun h => openS_full (most := most) hr h)
    have HBG := Lib.hid (fun h => openS_fine (most := most) hr h)
    generalize (readL s).1 = l at HL hsb hfew HBF HBG hcv ⊢
    clear hr hp HR
    obtain ⟨W0, hW0⟩ : ∃ W0, W0 = w1.alloc (.cells #[.int .i64 0, .int .i64 (-1)] 34) := ⟨_, rfl⟩
    have hW0s : W0.heap.size = w1.heap.size + 1 := by rw [hW0]; simp
    have hf0 : W0.heap[w1.heap.size]? = some (.cells #[.int .i64 0, .int .i64 (-1)] 34) := by rw [hW0]; exact heap_new _ _
    have hB0 : Below w1.heap.size w1 W0 := by rw [hW0]; exact (Below.refl _ _).alloc (Nat.le_refl _) _
    have HBW := Lib.hid (HB1.out.trans (hB0.mono hs1))
    have HL0 := Lib.hid (HL.out.below hB0)
    have f00 : W0.cell? ⟨w1.heap.size, 0, none⟩ = some (.int .i64 0) := by simp [World.cell?, hf0]
    by_cases hfull : most < (sizeL l : Int)
    · have HX := Lib.hid (HBF.out hfull)
      go_wp2_with fail
      rw [← hW0]
      clear hW0 hB0
      go_wp2_with fail
      refine (sizeOf_any l av cv _ HL0.out (by omega) (by omega)).mono ?_
      rintro e w2 ⟨rfl, rfl⟩
      go_wp2_with fail
      refine (bareOf_any 8 _).mono ?_
      rintro e w3 ⟨rfl, hb3⟩
      obtain ⟨t0, t1, y0, y1, tb⟩ := slot_two (show Below (w.heap.size + 1) (w.alloc (.cells #[.int .i64 0, .int .i64 0] 34)) w3 from HBW.out.trans (hb3.mono (show w.heap.size + 1 ≤ w2.heap.size by omega)))
      clear hb3
      go_wp2
      obtain ⟨q0, q1, q2⟩ := slot_set (w := w) (.int .i64 8) (.int .i64 (-1)) t0 t1 tb
      exact bodyPost_ret (v := .tuple #[.string ⟨#[]⟩, .agg #[.int .i64 8, .int .i64 (-1)]]) (by simp [results, Tryd.results14, go_sem, q0, q1]) rfl ⟨by rw [HX.out]; rfl, q2⟩
    · have HX := Lib.hid (HBG.out hfull)
      have hfull' : ¬ most < (sizeL l : Int) := hfull
      have hlm : sizeL l ≤ 1000000000 := by omega
      obtain ⟨i0, hi0, hz0, hz1, hz2⟩ := info_parts Tryd.infoByteO
      go_wp2_with fail
      rw [← hW0]
      clear hW0 hB0
      go_wp2_with fail
      refine (sizeOf_any l av cv _ HL0.out (by omega) (by omega)).mono ?_
      rintro e w2 ⟨rfl, rfl⟩
      clear HBF HBG HL
      go_wp2_with fail
      go_loopw [8, 9] (fun ov iv wr => ∃ q : Nat, q ≤ l.length ∧ iv = .int .i64 (q : Int) ∧ wr.ownsRow (w1.heap.size + 1) 5 1 ov (openL (l.take q)).length (Lib.byteCells (openL (l.take q))) ∧ Below (w1.heap.size + 1) w2 wr) (fun _ iv _ => l.length - (intOf iv).toNat)
      case atStart => exact ⟨0, by omega, rfl, World.ownsRow_nil _ _ _ _, Below.refl _ _⟩
      case round =>
        obtain ⟨q, hq, rfl, hrow, hb⟩ := hrel
        have HO := Lib.hid hrow
        have HB := Lib.hid hb
        clear hrow hb
        by_cases hlt : q < l.length
        · have hlt' : (q : Int) < (l.length : Int) := by omega
          have htk := size_take hlt
          have HOT := Lib.hid (open_take hlt)
          have HLQ := Lib.hid (HL0.out.at hlt)
          have hol := openL_length (l.take q)
          generalize l[q] = r at htk HOT HLQ
          obtain ⟨rn, rb⟩ := r
          simp only at htk HOT HLQ
          have HOL := Lib.hid hol
          clear hol
          generalize openL (l.take q) = o at HO HOT HOL
          generalize sizeL (l.take q) = so at htk HOL
          have hso := HOL.out
          go_wp2_with fail
          obtain ⟨wo, rfl⟩ : ∃ wo, wo = wr := ⟨_, rfl⟩
          go_loopw [8, 10] (fun ov kv wq => ∃ m : Nat, m ≤ rn ∧ kv = .int .i64 (m : Int) ∧ wq.ownsRow (w1.heap.size + 1) 5 1 ov (o ++ List.replicate m rb).length (Lib.byteCells (o ++ List.replicate m rb)) ∧ Below (w1.heap.size + 1) w2 wq) (fun _ kv _ => rn - (intOf kv).toNat)
          case atStart => exact ⟨0, by omega, rfl, by simpa using HO.out, HB.out⟩
          case round =>
            obtain ⟨m, hm', rfl, hrow, hb⟩ := hrel
            obtain ⟨b, oo, rfl, c0, c1⟩ := HLQ.out
            have hbl : b < w1.heap.size + 1 := by have := block_lt_of_cell c0; simp at this; omega
            have d0 := (hb.cell (p := ⟨b, oo + q * 2, none⟩) hbl).trans c0
            have d1 := (hb.cell (p := ⟨b, oo + q * 2 + 1, none⟩) hbl).trans c1
            have hbs : w1.heap.size + 1 ≤ wr.heap.size := by have := hb.size; omega
            have HB2 := Lib.hid hb
            have hlen : (o ++ List.replicate m rb).length = so + m := by rw [List.length_append, List.length_replicate, hso]
            by_cases hmn : m < rn
            · have hmn' : (m : Int) < (rn : Int) := by omega
              have HREP : Hid (Lib.byteCells (o ++ List.replicate (m + 1) rb) = Lib.byteCells (o ++ List.replicate m rb) ++ [.int .u8 (rb.toNat : Int)]) := by
                show Lib.byteCells _ = _
                rw [List.replicate_succ', ← List.append_assoc]
                simp [Lib.byteCells]
              have HLEN : Hid ((o ++ List.replicate (m + 1) rb).length = (o ++ List.replicate m rb).length + 1) := by
                show List.length _ = _
                simp only [List.length_append, List.length_replicate]
                omega
              generalize o ++ List.replicate m rb = om at hrow hlen HREP HLEN
              clear hb c0 c1
              go_wp2_with (at_builtin; refine wpList_append_own _ rfl _ _ 42 rfl (w1.heap.size + 1) 5 i0 (.int .u8 0) 1 1 Tryd.underlying42 hi0 hz0 hz1 hz2 rfl (by decide) _ _ _ rfl (hrow.alloc _) ⟨wr.heap.size, 0, none⟩ 1 1 [.int .u8 (rb.toNat : Int)] rfl rfl (byte_new wr _ _) (by simp [Value.oneCell']) (by unfold maxLen; omega) (by omega) (by simp; omega) ?_; intro v' w4 hown' hgrow _)
              have HB4 : Below (w1.heap.size + 1) w2 w4 := (HB2.out.alloc hbs _).grown hgrow (by simp; omega) (fun j ej => (hrow.lt j ej).1)
              refine ⟨⟨m + 1, by omega, by go_num, ?_, HB4⟩, by simp [intOf]; omega⟩
              rw [HREP.out, HLEN.out]
              exact hown'
            · obtain rfl : m = rn := by omega
              go_wp2
              go_roundw
              case rel => exact ⟨q + 1, by omega, by go_num, by rw [HOT.out]; exact hrow, HB2.out⟩
              case measure => simp [intOf]; omega
        · obtain rfl : q = l.length := by omega
          rw [List.take_length] at HO
          obtain ⟨oa, oc, rfl, hcn⟩ := conv_own HO.out
          have hcv1 := hcn wr.drew (fun g _ => rfl)
          have hbl0 : w1.heap.size < w1.heap.size + 1 := Nat.lt_succ_self _
          have hfw := (HB.out.block w1.heap.size hbl0).trans hf0
          have e0 : wr.cell? ⟨w1.heap.size, 0, none⟩ = some (.int .i64 0) := by simp [World.cell?, hfw]
          have e1 : wr.cell? ⟨w1.heap.size, 1, none⟩ = some (.int .i64 (-1)) := by simp [World.cell?, hfw]
          obtain ⟨t0, t1, y0, y1, tb⟩ := slot_two (show Below (w.heap.size + 1) (w.alloc (.cells #[.int .i64 0, .int .i64 0] 34)) wr from HBW.out.trans (HB.out.mono (show w.heap.size + 1 ≤ w1.heap.size + 1 by omega)))
          clear hcn hfw
          generalize openL l = ol at hcv1 HX ⊢
          go_wp2
          go_region
          all_goals go_wp2
          all_goals
            obtain ⟨q0, q1, q2⟩ := slot_set (w := w) (.int .i64 0) (.int .i64 (-1)) t0 t1 tb
            exact bodyPost_ret (v := .tuple #[.string ⟨ol.toArray⟩, .agg #[.int .i64 0, .int .i64 (-1)]]) (by simp [results, Tryd.results14, go_sem, q0, q1]) rfl ⟨by rw [HX.out]; rfl, q2.drew⟩
end Go.Proofs.YtjdbpabniaclaaaDoor
/-
  The law PressTells, whatever texts and number it is called with: a walk over this seat's translation.
-/
namespace Go.Proofs.YtjdbpabniaclaaaDoor
open Go.RowKit Go.Shelf

theorem pressTells_long (p : Nat → Addr) (s t : ByteArray) (most : Int) (w : World) (hE : Env p w) (hT : Tab w) (hs : s.size ≤ maxLen) (ht : t.size ≤ maxLen) (h : 500 < s.size ∨ 300 < t.size ∨ 100000 < most) :
    Calls Tryd.prog 4 #[.string s, .string t, .int .i64 most] w fun e w' => e = .returned (.bool true) ∧ Below w.heap.size w w' := by
  unfold maxLen at hs ht
  have HE := Lib.hid hE
  have HT := Lib.hid hT
  clear hE hT
  have hc : (500 : Int) < s.size ∨ (¬ (500 : Int) < s.size ∧ (300 : Int) < t.size) ∨ (¬ (500 : Int) < s.size ∧ ¬ (300 : Int) < t.size ∧ 100000 < most) := by omega
  clear h
  rcases hc with h | ⟨h1, h2⟩ | ⟨h1, h2, h3⟩
  all_goals
    go_enter Tryd.func4, Tryd.ntmps4
    go_wp2_with fail
    refine (pressed_any p _ HE.out HT.out).mono ?_
    rintro e w1 ⟨rfl, hb1⟩
    have HB1 := Lib.hid hb1
    clear hb1
    go_wp2
    go_ret
    exact ⟨rfl, HB1.out⟩

/-- Two cells of a block, kept. -/
theorem two_cells {w : World} {b : Nat} {x y : Value} {T : TypeId} {fz : Nat × Nat} (h : w.heap[b]? = some (.cells #[x, y] T fz)) : w.cell? ⟨b, 0, none⟩ = some x ∧ w.cell? ⟨b, 1, none⟩ = some y := by
  refine ⟨?_, ?_⟩ <;> simp [World.cell?, h]

theorem two_free {w : World} {b : Nat} {x y : Value} {T : TypeId} (h : w.heap[b]? = some (.cells #[x, y] T (0, 0))) : w.frozen? ⟨b, 0, none⟩ = false ∧ w.frozen? ⟨b, 1, none⟩ = false := by
  refine ⟨?_, ?_⟩ <;> simp [World.frozen?, h]
/-- An error lies apart from a block of two numbers. -/
theorem err_apart {p : Nat → Addr} {w : World} {v : Value} {c : Nat} {i x y : Int} {F : Nat} {T : TypeId} {fz : Nat × Nat} (h : ErrAt p w v c i) (hF : w.heap[F]? = some (.cells #[.int .i64 x, .int .i64 y] T fz)) (u1 u2 : Value) :
    ErrAt p ((w.setCell ⟨F, 0, none⟩ u1).setCell ⟨F, 1, none⟩ u2) v c i := by
  rcases h with h | h | ⟨j, b, o, h0, h1, h2, h3, h4⟩
  · exact .inl h
  · exact .inr (.inl h)
  · have hne : b ≠ F := by
      rintro rfl
      have e : w.cell? ⟨b, o + 1, none⟩ = #[Value.int .i64 x, .int .i64 y][o + 1]? := by simp [World.cell?, hF]
      rw [e] at h4
      rcases o with _ | o
      · simp at h4
      · simp at h4
    have k : ∀ q : Nat, ((w.setCell ⟨F, 0, none⟩ u1).setCell ⟨F, 1, none⟩ u2).cell? ⟨b, q, none⟩ = w.cell? ⟨b, q, none⟩ := fun q => by
      rw [World.cell?_setCell_other (h := fun e => hne (congrArg Addr.block e).symm), World.cell?_setCell_other (h := fun e => hne (congrArg Addr.block e).symm)]
    exact .inr (.inr ⟨j, b, o, h0, h1, h2, (k o).trans h3, (k (o + 1)).trans h4⟩)

set_option maxRecDepth 100000 in
set_option maxHeartbeats 4000000 in
theorem pressTells_main (p : Nat → Addr) (s t : List UInt8) (most : Int) (w : World) (hE : Env p w) (hT : Tab w) (hs : s.length ≤ 500) (ht : t.length ≤ 300) (hm : most ≤ 100000) :
    Calls Tryd.prog 4 #[.string ⟨s.toArray⟩, .string ⟨t.toArray⟩, .int .i64 most] w fun e w' => e = .returned (.bool true) ∧ Below w.heap.size w w' := by
  have HE := Lib.hid hE
  have HT := Lib.hid hT
  have hs' : ¬ (500 : Int) < s.length := by omega
  have ht' : ¬ (300 : Int) < t.length := by omega
  have hm' : ¬ (100000 : Int) < most := by omega
  have hsz := size_runsS t
  have hfw : (runsS t).length ≤ 1000000 := by
    unfold runsS
    split
    · have := (read_few t.length t (Nat.le_refl _)).1; omega
    · simp
  clear hE hT
  go_enter Tryd.func4, Tryd.ntmps4
  go_wp2_with fail
  refine (pressed_any p _ HE.out HT.out).mono ?_
  rintro e w1 ⟨rfl, hb1⟩
  have HB1 := Lib.hid hb1
  clear hb1
  go_wp2_with fail
  refine (press_any s _ (by omega) (HT.out.below HB1.out)).mono ?_
  rintro e w2 ⟨rfl, hb2⟩
  have HB2 := Lib.hid (HB1.out.trans (hb2.mono HB1.out.size))
  clear hb2
  go_wp2_with fail
  refine (pressOf_any s _ (by omega)).mono ?_
  rintro e w3 ⟨rfl, hb3⟩
  have HB3 := Lib.hid (HB2.out.trans (hb3.mono HB2.out.size))
  clear hb3
  go_wp2_with fail
  refine (runsOf_any t _ (by omega)).mono ?_
  rintro e w4 ⟨⟨v, rfl, hrow⟩, hb4⟩
  have HB4 := Lib.hid (HB3.out.trans (hb4.mono HB3.out.size))
  obtain ⟨av, cv, rfl, hl, _⟩ := rowns_lies hrow
  have HL := Lib.hid hl
  clear hb4 hrow hl
  obtain ⟨⟨c, i⟩, hci⟩ : ∃ ci, placeE (readL t).2 = ci := ⟨_, rfl⟩
  have HCI := Lib.hid hci
  rw [hci]
  clear hci
  go_wp2_with fail
  obtain ⟨W0, hW0⟩ : ∃ W0, W0 = w4.alloc (.cells #[.int .i64 c, .int .i64 i] 34) := ⟨_, rfl⟩
  have hf0 : W0.heap[w4.heap.size]? = some (.cells #[.int .i64 c, .int .i64 i] 34) := by rw [hW0]; exact heap_new _ _
  have hB0 : Below w4.heap.size w4 W0 := by rw [hW0]; exact (Below.refl _ _).alloc (Nat.le_refl _) _
  have HBW := Lib.hid (HB4.out.trans (hB0.mono HB4.out.size))
  have HL0 := Lib.hid (HL.out.below hB0)
  rw [← hW0]
  clear hW0 hB0 HL
  refine (size_any p t _ (by omega) (HE.out.below HBW.out)).mono ?_
  rintro e w5 ⟨v5, rfl, hv5, hb5⟩
  rw [HCI.out] at hv5
  have HV5 := Lib.hid hv5
  have hf5 := (hb5.block w4.heap.size (Array.getElem?_eq_some_iff.1 hf0).1).trans hf0
  have HF5 := Lib.hid hf5
  obtain ⟨c0, c1⟩ := two_cells hf5
  have HB5 := Lib.hid (HBW.out.trans (hb5.mono HBW.out.size))
  have HL5 := Lib.hid (HL0.out.below hb5)
  clear hv5 hb5 hf0 hf5 HL0 HBW
  go_wp2_with fail
  refine (faulted_err HV5.out (HE.out.below HB5.out)).mono ?_
  rintro e w6 ⟨rfl, hb6⟩
  have HB6 := Lib.hid (HB5.out.trans (hb6.mono HB5.out.size))
  have HL6 := Lib.hid (HL5.out.below hb6)
  have HF6 := Lib.hid ((hb6.block w4.heap.size (Array.getElem?_eq_some_iff.1 HF5.out).1).trans HF5.out)
  clear hb6 HL5 HF5 c0 c1
  go_wp2_with fail
  refine (sizeOf_any (runsS t) av cv _ HL6.out (by omega) hfw).mono ?_
  rintro e w7 ⟨rfl, rfl⟩
  go_wp2_with fail
  refine (open_any p t most _ (by omega) (by omega) (HE.out.below HB6.out)).mono ?_
  rintro e w8 ⟨v8, rfl, hv8, hb8⟩
  have HB8 := Lib.hid (HB6.out.trans (hb8.mono HB6.out.size))
  have HV8 := Lib.hid hv8
  have HF8 := Lib.hid ((hb8.block w4.heap.size (Array.getElem?_eq_some_iff.1 HF6.out).1).trans HF6.out)
  clear hb8 hv8 HF6
  go_wp2_with fail
  refine (openOf_any t most _ (by omega) (by omega)).mono ?_
  rintro e w9 ⟨rfl, hb9⟩
  have HB9 := Lib.hid (HB8.out.trans (hb9.mono HB8.out.size))
  have HV9 := Lib.hid (HV8.out.below hb9)
  have hf9 := (hb9.block w4.heap.size (Array.getElem?_eq_some_iff.1 HF8.out).1).trans HF8.out
  have HF9 := Lib.hid hf9
  obtain ⟨c0, c1⟩ := two_cells hf9
  obtain ⟨z0, z1⟩ := two_free hf9
  generalize openS t most = os at HV9 ⊢
  obtain ⟨x, c', i'⟩ := os
  simp only at HV9 ⊢
  have hle : w.heap.size ≤ w4.heap.size := HB4.out.size
  have HVF := Lib.hid (err_apart HV9.out hf9 (.int .i64 c') (.int .i64 i'))
  have HBF := Lib.hid ((HB9.out.setCell (p := ⟨w4.heap.size, 0, none⟩) hle (.int .i64 c')).setCell (p := ⟨w4.heap.size, 1, none⟩) hle (.int .i64 i'))
  clear hb9 HV8 HF8 hf9
  go_wp2_with fail
  refine (faulted_err HVF.out (HE.out.below HBF.out)).mono ?_
  rintro e w10 ⟨rfl, hb10⟩
  have HB10 := Lib.hid (HBF.out.trans (hb10.mono HBF.out.size))
  clear hb10
  go_wp2
  go_ret
  exact ⟨rfl, HB10.out⟩

theorem pressTells_any (p : Nat → Addr) (s t : ByteArray) (most : Int) (w : World) (hE : Env p w) (hT : Tab w) (hs : s.size ≤ maxLen) (ht : t.size ≤ maxLen) :
    Calls Tryd.prog 4 #[.string s, .string t, .int .i64 most] w fun e w' => e = .returned (.bool true) ∧ Below w.heap.size w w' := by
  by_cases h : 500 < s.size ∨ 300 < t.size ∨ 100000 < most
  · exact pressTells_long p s t most w hE hT hs ht h
  · obtain ⟨s, rfl⟩ : ∃ l : List UInt8, s = ⟨l.toArray⟩ := ⟨s.data.toList, by cases s; simp⟩
    obtain ⟨t, rfl⟩ : ∃ l : List UInt8, t = ⟨l.toArray⟩ := ⟨t.data.toList, by cases t; simp⟩
    simp only [ByteArray.size, List.size_toArray] at h
    exact pressTells_main p s t most w hE hT (by omega) (by omega) (by omega)
end Go.Proofs.YtjdbpabniaclaaaDoor
/-
  Errors of errors.New's make that a row lists among other variables: each holds a pointer of its own, to an unmarked block: over this seat's translation.
-/
namespace Go.Proofs.YtjdbpabniaclaaaDoor
open Go.ChangeShapes Go.WideShapes Go.RowKit

theorem Tryd.own : ownKnob Tryd.prog.godebug = none := by kernel_rfl
theorem Tryd.cells58 : Tryd.prog.cellsOf 141 = 1 := by kernel_rfl
theorem Tryd.cells9 : Tryd.prog.cellsOf 9 = 1 := by kernel_rfl

/-- Errors of errors.New's make, listed one behind the other: each variable holds a pointer, no two the same, each to an unmarked block. -/
theorem sentinels_of_laid {P : Program} {nm : String} {W : World} {ti tp te ts : TypeId} {ms : Array (String × TypeId)} {f : Field}
    (hi : P.underlying ti = some (.interface ms)) (hrow : ∀ u, P.typeName? 3 u = some nm → u = tp)
    (hp : P.underlying tp = some (.pointer te)) (he : P.underlying te = some (.struct #[f])) (hft : f.type = ts) (hfo : f.offset = 0) (hs : P.underlying ts = some .string) (hc : P.cellsOf te = 1) (hcs : P.cellsOf ts = 1) :
    ∀ (L : List (String × List UInt8)) (ps : List MemPlace),
    (∀ x ∈ L, ∃ g, P.globalNamed x.1 = some g ∧ (P.globals[g]?).map (·.type) = some ti) →
    DataW.LaidVars P W (L.map fun x => (x.1, .iface nm (.ptr (.agg [.lit (.string x.2)])))) ps → ps.Nodup →
    (∀ b off, MemPlace.cell b off ∈ ps → (∃ c t, W.heap[b]? = some (.cells c t (0, 0))) ∧ ∀ u v, W.cell? ⟨b, off, none⟩ = some (.iface u v) → Value.okWide P W .any 0 u v) →
    ∃ zs : List Addr, zs.length = L.length ∧ zs.Nodup ∧ (∀ a ∈ zs, MemPlace.cell a.block a.off ∈ ps) ∧
      ∀ (i : Nat) (x : String × List UInt8) (a : Addr), L[i]? = some x → zs[i]? = some a → W.var? P x.1 = some #[.iface tp (.pointer (some a))]
  | [], ps, _, _, _, _ => ⟨[], rfl, List.nodup_nil, (fun _ h => by cases h), (fun _ _ _ h => by simp at h)⟩
  | x :: L, ps, hg, hv, hnd, hrows => by
    obtain ⟨g', t', cs, fuel, p, q, hg', ht', hv', hd', hq, rfl⟩ := hv
    obtain ⟨g, hg0, ht0⟩ := hg x List.mem_cons_self
    obtain rfl := Option.some.inj (hg0.symm.trans hg')
    obtain rfl := Option.some.inj (ht0.symm.trans ht')
    obtain ⟨l0⟩ := cs
    have ok0 : ∀ u v, l0 = [.iface u v] → Value.okWide P W .any 0 u v := fun u v e => by
      subst e
      exact (hrows g 0 (by simp [MemPlace.row])).2 u v (by simpa using World.var?_cell hg' hv' 0)
    obtain ⟨a, s, rfl, hca, hsa, hza, rfl⟩ := errorString_of_trod hi hrow hp he hft hfo hs hc hcs hd' ok0
    have hnq : q.Nodup := List.Nodup.sublist (List.sublist_append_right _ _) hnd
    obtain ⟨zs, hl, hn, hm, hr⟩ := sentinels_of_laid hi hrow hp he hft hfo hs hc hcs L q (fun y hy => hg y (List.mem_cons_of_mem _ hy)) hq hnq (fun b off hb => hrows b off (List.mem_append_right _ hb))
    refine ⟨a :: zs, by simp [hl], ?_, ?_, ?_⟩
    · refine List.nodup_cons.2 ⟨fun ha => ?_, hn⟩
      have h1 : MemPlace.cell a.block a.off ∈ q := hm a ha
      have h2 := (List.nodup_append.1 hnd).2.2 (MemPlace.cell a.block a.off) (by simp [MemPlace.row]) _ h1
      exact h2 rfl
    · intro b hb
      rcases List.mem_cons.1 hb with rfl | hb
      · simp [MemPlace.row]
      · exact List.mem_append_right _ (hm b hb)
    · intro i y b hy hb
      cases i with
      | zero =>
        simp only [List.getElem?_cons_zero, Option.some.injEq] at hy hb
        subst hy hb
        exact hv'
      | succ i =>
        simp only [List.getElem?_cons_succ] at hy hb
        exact hr i y b hy hb

theorem Tryd.star : "*" ++ "errors.errorString" = "*errors.errorString" := by decide +kernel
theorem Tryd.row56 (u : TypeId) (h : Tryd.prog.typeName? 3 u = some "*errors.errorString") : u = 122 :=
  typeName_ptr_named (nm := "errors.errorString") (by rw [Tryd.star]; kernel_rfl) (by kernel_rfl) (by decide) u (by rw [Tryd.star]; exact h)

/-- The datum of an error as a row lists it. -/
def errData (x : String × List UInt8) : String × DataW Unit := (x.1, .iface "*errors.errorString" (.ptr (.agg [.lit (.string x.2)])))

/-- Out of a row's whole list: its errors, by their names' numbers. -/
theorem errs_of_laid {W : World} (L : List (String × DataW Unit)) (texts : List (String × List UInt8)) (nums : List Nat) (keep : String × DataW Unit → Bool)
    (hf : L.filter keep = texts.map errData)
    (hg : ((List.range texts.length).all fun i => match texts[i]? with | some x => Tryd.prog.globalNamed x.1 == some (nums.getD i 0) && (Tryd.prog.globals[nums.getD i 0]?).map (·.type) == some 25 | none => false) = true)
    (h : laidMet Tryd.prog L W) :
    ∃ z : Nat → Addr, (∀ k, k < texts.length → W.cell? ⟨nums.getD k 0, 0, none⟩ = some (.iface 122 (.pointer (some (z k))))) ∧ (∀ k, k < texts.length → ∃ c t, W.heap[(z k).block]? = some (.cells c t (0, 0))) ∧ ∀ k l, k < texts.length → l < texts.length → z k = z l → k = l := by
  have h' := h.filter keep
  rw [hf] at h'
  obtain ⟨ps, hv, hnd, hrows⟩ := h'
  have hglob : ∀ (i : Nat) (x : String × List UInt8), texts[i]? = some x → Tryd.prog.globalNamed x.1 = some (nums.getD i 0) ∧ (Tryd.prog.globals[nums.getD i 0]?).map (·.type) = some 25 := fun i x hx => by
    have hl := (List.getElem?_eq_some_iff.1 hx).1
    have := List.all_eq_true.1 hg i (List.mem_range.2 hl)
    rw [hx] at this
    simpa using this
  obtain ⟨zs, hl, hn, hm, hr⟩ := sentinels_of_laid Tryd.underlying25 Tryd.row56 Tryd.underlying122 Tryd.underlying141 rfl rfl Tryd.underlying9 Tryd.cells58 Tryd.cells9 texts ps
    (fun x hx => by
      obtain ⟨i, hi, e⟩ := List.getElem_of_mem hx
      exact ⟨nums.getD i 0, hglob i x (by rw [List.getElem?_eq_getElem hi, e])⟩) hv hnd hrows
  have hzs : ∀ k, k < texts.length → ∃ x, texts[k]? = some x ∧ zs[k]? = some (zs.getD k ⟨0, 0, none⟩) := fun k hk => by
    have h2 : k < zs.length := by omega
    exact ⟨texts[k], List.getElem?_eq_getElem hk, by rw [List.getD_eq_getElem?_getD, List.getElem?_eq_getElem h2]; rfl⟩
  refine ⟨fun k => zs.getD k ⟨0, 0, none⟩, fun k hk => ?_, fun k hk => ?_, fun k l hk hl' e => ?_⟩
  · obtain ⟨x, hx, ha⟩ := hzs k hk
    have := hr k x _ hx ha
    simpa using World.var?_cell (hglob k x hx).1 this 0
  · obtain ⟨x, hx, ha⟩ := hzs k hk
    exact (hrows _ _ (hm _ (List.mem_of_getElem? ha))).1
  · obtain ⟨x, hx, ha⟩ := hzs k hk
    obtain ⟨y, hy, hb⟩ := hzs l hl'
    have e' : zs.getD k ⟨0, 0, none⟩ = zs.getD l ⟨0, 0, none⟩ := e
    rw [← e'] at hb
    exact (List.getElem?_inj (by omega) hn).1 (ha.trans hb.symm)
end Go.Proofs.YtjdbpabniaclaaaDoor
/-
  What the rows of PressBack and PressTells list of the package-level variables gives the walks; and a world that meets the lists: the one that the program's own initialisers leave.
-/
namespace Go.Proofs.YtjdbpabniaclaaaDoor
open Go.ChangeShapes Go.WideShapes Go.RowKit

theorem Tryd.rt : (Tryd.prog.cutTypes.find? (·.1 == "internal/reflectlite.rtype")).map (·.2) = some 97 := by kernel_rfl
theorem Tryd.size : Tryd.prog.types.size = 153 := by kernel_rfl
theorem Tryd.oneRow : ((List.range 153).filter fun t => Tryd.prog.rowNamed t [101, 114, 114, 111, 114]) = [25] := by kernel_rfl
theorem Tryd.gErrType : Tryd.prog.globalNamed "errors.errorType" = some 13 := by kernel_rfl

def apiTextsP : List (String × List UInt8) := [
  ("chandlery/api.ErrText", [99, 104, 97, 110, 100, 108, 101, 114, 121, 58, 32, 116, 101, 120, 116]),
  ("chandlery/api.ErrBound", [99, 104, 97, 110, 100, 108, 101, 114, 121, 58, 32, 98, 111, 117, 110, 100]),
  ("chandlery/api.ErrShape", [99, 104, 97, 110, 100, 108, 101, 114, 121, 58, 32, 115, 104, 97, 112, 101]),
  ("chandlery/api.ErrKind", [99, 104, 97, 110, 100, 108, 101, 114, 121, 58, 32, 107, 105, 110, 100]),
  ("chandlery/api.ErrName", [99, 104, 97, 110, 100, 108, 101, 114, 121, 58, 32, 110, 97, 109, 101]),
  ("chandlery/api.ErrNone", [99, 104, 97, 110, 100, 108, 101, 114, 121, 58, 32, 110, 111, 110, 101]),
  ("chandlery/api.ErrExist", [99, 104, 97, 110, 100, 108, 101, 114, 121, 58, 32, 101, 120, 105, 115, 116]),
  ("chandlery/api.ErrFull", [99, 104, 97, 110, 100, 108, 101, 114, 121, 58, 32, 102, 117, 108, 108]),
  ("chandlery/api.ErrOrder", [99, 104, 97, 110, 100, 108, 101, 114, 121, 58, 32, 111, 114, 100, 101, 114]),
  ("chandlery/api.ErrOut", [99, 104, 97, 110, 100, 108, 101, 114, 121, 58, 32, 111, 117, 116]),
  ("chandlery/api.ErrClash", [99, 104, 97, 110, 100, 108, 101, 114, 121, 58, 32, 99, 108, 97, 115, 104]),
  ("chandlery/api.ErrSum", [99, 104, 97, 110, 100, 108, 101, 114, 121, 58, 32, 115, 117, 109]),
  ("chandlery/api.ErrOff", [99, 104, 97, 110, 100, 108, 101, 114, 121, 58, 32, 111, 102, 102])]
def isApiP (x : String × DataW Unit) : Bool := apiTextsP.any (·.1 == x.1)
def isPowP (x : String × DataW Unit) : Bool := x.1 == "internal/strconv.uint64pow10"
def apiNumsP : List Nat := [1, 2, 3, 4, 5, 6, 7, 0, 8, 9, 10, 11, 12]
def handleP : List (String × DataW Unit) := [("errors.errorType", Rows.laid_errors_errorType)]

theorem tabP_of_laid {W : World} {L : List (String × DataW Unit)} (hf : L.filter isPowP = [("internal/strconv.uint64pow10", Lib.tabData .u64 Lib.pow10Tab)]) (h : laidMet Tryd.prog L W) : Tab W := by
  have h' := h.filter isPowP
  rw [hf] at h'
  exact Lib.tabIs_of_head (g := 14) (t := 113) (e := 90) (n := 20) Tryd.gPowT (by kernel_rfl) Tryd.underlying113 Tryd.underlying90 (by kernel_rfl) (by kernel_rfl) h'

/-- Out of a list like those of these rows. -/
theorem press_envs {L : List (String × DataW Unit)} {W : World} (hh : (L.filter fun x => x.2.handleName?.isSome) = handleP) (ha : ((L.filter fun x => x.2.handleName?.isNone).filter isApiP) = apiTextsP.map errData)
    (hw : ((L.filter fun x => x.2.handleName?.isNone).filter isPowP) = [("internal/strconv.uint64pow10", Lib.tabData .u64 Lib.pow10Tab)]) (h : laidMetH Tryd.prog L W) : ∃ p, Env p W ∧ Tab W := by
  obtain ⟨hl, hk⟩ := laidMetH_iff.1 h
  rw [hh] at hk
  obtain ⟨p, h1, h2, h3⟩ := errs_of_laid _ apiTextsP apiNumsP isApiP ha (by kernel_rfl) hl
  refine ⟨p, ⟨h1 0 (by decide), h1 1 (by decide), h1 2 (by decide), h1 3 (by decide), h1 4 (by decide), h1 5 (by decide), h1 6 (by decide), h1 7 (by decide), h1 8 (by decide), h1 9 (by decide), h1 10 (by decide), h1 11 (by decide), h1 12 (by decide), ?_, h2, h3⟩, tabP_of_laid hw hl⟩
  obtain ⟨name, u, ty, e1, e2, e3, e4, e5⟩ := hk _ (List.mem_singleton.2 rfl)
  have en : name = [101, 114, 114, 111, 114] := (Option.some.inj e1).symm
  subst en
  obtain rfl := Option.some.inj (Tryd.rt.symm.trans e2)
  have hm : ty ∈ (List.range 153).filter fun t => Tryd.prog.rowNamed t [101, 114, 114, 111, 114] := List.mem_filter.2 ⟨List.mem_range.2 (by rw [← Tryd.size]; exact e3), e4⟩
  rw [Tryd.oneRow] at hm
  obtain rfl := List.mem_singleton.1 hm
  have hh : typeHandle Tryd.prog 25 = .pointer (some ⟨18, 25, none⟩) := by kernel_rfl
  rw [hh] at e5
  simpa using World.var?_cell Tryd.gErrType e5 0

theorem back_envs {W : World} (h : laidMetH Tryd.prog Rows.pressBackRow.laid W) : ∃ p, Env p W ∧ Tab W := press_envs (by kernel_rfl) (by kernel_rfl) (by kernel_rfl) h
theorem tells_envs {W : World} (h : laidMetH Tryd.prog Rows.pressTellsRow.laid W) : ∃ p, Env p W ∧ Tab W := press_envs (by kernel_rfl) (by kernel_rfl) (by kernel_rfl) h
/-- The heap that the program's own initialisers leave meets the lists. -/
theorem back_met (os : Os) (args : Array Value) : laidMetH Tryd.prog Rows.pressBackRow.laid ((World.doorLaid Tryd.prog 278 os).forCall (fun _ _ => 0) ⟨#[], args, []⟩).memory :=
  laidMetH_of_parts3 (fuel := 8) (laidMet_of_run' 8 (by kernel_rfl) (by kernel_rfl)) (by kernel_rfl) (by kernel_rfl)
theorem tells_met (os : Os) (args : Array Value) : laidMetH Tryd.prog Rows.pressTellsRow.laid ((World.doorLaid Tryd.prog 278 os).forCall (fun _ _ => 0) ⟨#[], args, []⟩).memory :=
  laidMetH_of_parts3 (fuel := 8) (laidMet_of_run' 8 (by kernel_rfl) (by kernel_rfl)) (by kernel_rfl) (by kernel_rfl)
end Go.Proofs.YtjdbpabniaclaaaDoor
