/-
  Own texts of the proof, gathered by program in their build order: PkSize, Written, WrittenByte, ReadPure, PkPress, PkOpen, LawPressBack, LaidErrs, LaidPress.
-/
import Derived.Test.YtjdbpabniaclaaaDoorGathered1
import Derived.OneCell
import Derived.Shelf.Strings.BuilderK
import Derived.Shelf.Strings.BuilderF
import Derived.Test.YtjdbpabniaclaaaDoorProg
import Derived.Shelf.Strings.Builder2
import Derived.Lib.AtoiAllCases
import Derived.Lib.ItoaMem
import Derived.Deep.LoopGhost
import Derived.Defers
import Derived.Recover
import Derived.Test.YtjdbpabniaclaaaDoorChecked
import Derived.ProofKit
import Derived.LaidMore
import Derived.LaidLaws
import Derived.LaidSub
import Derived.Stop.Joined
import Derived.Test.YtjdbpabniaclaaaDoorRows
import Derived.LaidHandle
import Derived.Lib.LaidTab
/-
  Package press: Size: a contract, over this seat's translation.
-/
namespace Go.Proofs.YtjdbpabniaclaaaDoor
open Go.RowKit Go.Shelf

theorem sizeHand_any (x n : Nat) (b : Int) (a : Addr) (w : World) (hx : x ≤ 1000000000000000000) (hn : n ≤ 999999999) (hc : w.cell? a = some (.int .i64 x)) (hz : w.frozen? a = false) :
    Calls Tryd.prog 22 #[.int .i64 n, .int .u8 b, .pointer (some a)] w fun e w' => e = .returned (.tuple #[]) ∧ w' = w.setCell a (.int .i64 ((x + n : Nat) : Int)) := by
  go_enter Tryd.func22, Tryd.ntmps22
  go_wp2_with fail
  refine (pressAdd_any x n _ hx hn).mono ?_
  rintro e w' ⟨rfl, rfl⟩
  go_wp2
  go_end0
  exact ⟨rfl, rfl⟩

theorem read_prefix {s : List UInt8} {d tl : List (Nat × UInt8)} {n : Nat} {b : UInt8} (h : (readL s).1 = d ++ (n, b) :: tl) (hs : s.length ≤ 1000000000) : sizeL d ≤ 1000000000000000000 ∧ n ≤ 999999999 ∧ sizeL d + n ≤ sizeL (readL s).1 := by
  have h1 := read_bound s
  have h2 := (read_few s.length s (Nat.le_refl _)).2 (n, b) (by rw [h]; simp)
  have h3 : sizeL (readL s).1 = sizeL d + (n + sizeL tl) := by rw [h, sizeL_app]; rfl
  simp only at h2
  omega

set_option maxRecDepth 100000 in
theorem size_any (p : Nat → Addr) (s : List UInt8) (w : World) (hs : s.length ≤ 1000000000) (hE : Env p w) :
    Calls Tryd.prog 7 #[.string ⟨s.toArray⟩] w fun e w' => ∃ v, e = .returned (.tuple #[.int .i64 (sizeL (runsS s)), v]) ∧ ErrAt p w' v (placeE (readL s).2).1 (placeE (readL s).2).2 ∧ Below w.heap.size w w' := by
  have eg : ∀ args w, (callFunc 22 args).run Tryd.prog w = .ok (.enter 22 args) w := enters_of Tryd.func22 (by kernel_rfl) rfl
  have hmf : ∀ (fn : Fn) (first cap : Array Value) (w : World), (Instr.makeFunc fn first cap).run Tryd.prog w = .ok (.func fn first cap) w := fun _ _ _ _ => rfl
  have HE := Lib.hid hE
  clear hE
  go_enter Tryd.func7, Tryd.ntmps7
  go_wp2_with fail
  refine (eachPressed_any p s 22 #[.pointer (some ⟨w.heap.size, 0, none⟩)] eg (fun d w' => w'.heap[w.heap.size]? = some (.cells #[.int .i64 (sizeL d : Int)] 3 (0, 0)) ∧ Below w.heap.size w w') _ hs ⟨heap_new w _, (Below.refl _ _).alloc (Nat.le_refl _) _⟩ (fun d w' h => HE.out.below h.2) ?_).mono ?_
  · rintro d n b tl W hp ⟨hk, hb⟩
    obtain ⟨h1, h2, h3⟩ := read_prefix hp hs
    refine (sizeHand_any (sizeL d) n b.toNat ⟨w.heap.size, 0, none⟩ W h1 h2 (cell_of_one hk) (free_of_one hk)).mono ?_
    rintro e W' ⟨rfl, rfl⟩
    refine ⟨rfl, ?_, hb.setCell (Nat.le_refl _) _⟩
    rw [sizeL_snoc]
    exact one_setCell hk
  rintro e w1 ⟨v, w0, rfl, ⟨hk, hb0⟩, hb1, hv⟩
  have hk1 := (hb1.block w.heap.size (Array.getElem?_eq_some_iff.1 hk).1).trans hk
  have HB := Lib.hid (hb0.trans (hb1.mono hb0.size))
  clear hb0 hb1 hk
  cases hr : (readL s).2 with
  | none =>
    have HR := Lib.hid (runsS_none hr)
    have HX := Lib.hid hr
    rw [hr] at hv
    obtain rfl := hv.isNil
    have hc := cell_of_one hk1
    clear hr hk1 hv
    go_wp2
    go_ret2
    exact ⟨_, by rw [HR.out]; rfl, by rw [HX.out]; exact ErrAt.fine p _, HB.out⟩
  | some k =>
    have HR := Lib.hid (runsS_some hr)
    have HX := Lib.hid hr
    rw [hr] at hv
    obtain ⟨T, u, rfl⟩ := hv.some (by simp [placeE])
    have HV := Lib.hid hv
    clear hr hk1 hv
    go_wp2
    go_ret2
    exact ⟨_, by rw [HR.out]; rfl, by rw [HX.out]; exact HV.out, HB.out⟩
end Go.Proofs.YtjdbpabniaclaaaDoor
/-
  (*strings.Builder).WriteString and String: the library's contracts, laid at this seat's translation by hand (the program that lays them finds no number for the empty interface).
-/
namespace Go.Proofs.YtjdbpabniaclaaaDoor
open Go.Shelf Go.RowKit

def wrRen : Go.Shelf.Ren := ⟨fun | 166 => 17 | 240 => 30 | 276 => 40 | n => n, fun | 0 => 0 | 3 => 3 | 4 => 4 | 5 => 5 | 9 => 9 | 20 => 20 | 37 => 42 | 70 => 41 | 72 => 44 | 75 => 25 | 80 => 49 | 164 => 72 | n => n, fun | n => n⟩
theorem wrLays : Go.Proofs.Lays.n166 Tryd.prog wrRen := {
  mixed := by kernel_rfl
  f166 := Tryd.func17.trans (congrArg some (by kernel_rfl))
  f240 := Tryd.func30.trans (congrArg some (by kernel_rfl))
  f276 := Tryd.func40.trans (congrArg some (by kernel_rfl))
  t0 := Tryd.underlying0
  a0 := Tryd.isAgg0
  z0 := Tryd.sizeOf0
  v0 := Tryd.zeroValue0
  t3 := Tryd.underlying3
  a3 := Tryd.isAgg3
  z3 := Tryd.sizeOf3
  v3 := Tryd.zeroValue3
  t4 := Tryd.underlying4
  a4 := Tryd.isAgg4
  z4 := Tryd.sizeOf4
  v4 := Tryd.zeroValue4
  t9 := Tryd.underlying9
  a9 := Tryd.isAgg9
  z9 := Tryd.sizeOf9
  v9 := Tryd.zeroValue9
  t20 := Tryd.underlying20
  a20 := Tryd.isAgg20
  z20 := Tryd.sizeOf20
  v20 := Tryd.zeroValue20
  t37 := Tryd.underlying42
  a37 := Tryd.isAgg42
  z37 := Tryd.sizeOf42
  v37 := Tryd.zeroValue42
  t70 := Tryd.underlying41
  a70 := Tryd.isAgg41
  z70 := Tryd.sizeOf41
  v70 := Tryd.zeroValue41
  t72 := Tryd.underlying44
  a72 := Tryd.isAgg44
  z72 := Tryd.sizeOf44
  v72 := Tryd.zeroValue44
  t75 := Tryd.underlying25
  a75 := Tryd.isAgg25
  z75 := Tryd.sizeOf25
  v75 := Tryd.zeroValue25
  t164 := Tryd.underlying72
  a164 := Tryd.isAgg72
  z164 := Tryd.sizeOf72
  v164 := Tryd.zeroValue72 }
theorem wrExtra : Builder.Extra Tryd.prog wrRen := {
  sizeBuilder := by kernel_rfl
  liesBuilder := by kernel_rfl
  t5 := Tryd.underlying5
  a5 := Tryd.isAgg5
  z5 := Tryd.sizeOf5
  v5 := Tryd.zeroValue5
  infoByte := by kernel_rfl
  cellsByte := by kernel_rfl
  sizeByte := by kernel_rfl
  neB5 := by decide }

/-- The builder at b, of memory from B on, holds these bytes. -/
def Built (B b : Nat) (l : List UInt8) (w : World) : Prop := Lib.IsBuilderF 44 5 B b (Lib.byteCells l) w

theorem built_fresh (w : World) : Built w.heap.size w.heap.size [] (w.alloc (.cells #[.pointer none, .slice none 0 0] 44)) :=
  Lib.IsBuilderF.of (Lib.fresh_isBuilder _ _ w)

theorem Built.below {B b : Nat} {l : List UInt8} {w w' : World} (h : Built B b l w) (hb : Below w.heap.size w w') : Built B b l w' := by
  have go : ∀ q, Lib.BuilderAtF 44 5 B b q (Lib.byteCells l) w → Lib.BuilderAtF 44 5 B b q (Lib.byteCells l) w' := by
    rintro q ⟨h1, v, h2, h3, h4⟩
    refine ⟨h1, v, (hb.block b (Array.getElem?_eq_some_iff.1 h2).1).trans h2, ⟨h3.1, ?_⟩, h4⟩
    rcases h3.2 with h0 | ⟨g, cap, cur, fz, hv, hg, hh, r⟩
    · exact .inl h0
    · exact .inr ⟨g, cap, cur, fz, hv, hg, (hb.block g (Array.getElem?_eq_some_iff.1 hh).1).trans hh, r⟩
  exact h.imp (go _) (go _)

theorem Built.lt {B b : Nat} {l : List UInt8} {w : World} (h : Built B b l w) : b < w.heap.size := h.elim (·.lt) (·.lt)

theorem built_write (B b : Nat) (l s : List UInt8) (w : World) (h : Built B b l w) (hlen : l.length + s.length ≤ 140737488355328) (hBw : B ≤ w.heap.size) :
    Calls Tryd.prog 17 #[.pointer (some ⟨b, 0, none⟩), .string ⟨s.toArray⟩] w fun e w' => e = .returned (.tuple #[.int .i64 s.length, .nilIface]) ∧ Built B b (l ++ s) w' ∧ Below B w w' ∧ Lib.OthersKept 5 (some b) w w' := by
  have hs : (⟨s.toArray⟩ : ByteArray).size = s.length := by simp [ByteArray.size]
  have hl : (Lib.byteCells l).length = l.length := by simp [Lib.byteCells]
  refine (Any.Builder_WriteString_k wrLays wrExtra B b (Lib.byteCells l) ⟨s.toArray⟩ w h (by omega) hBw).mono ?_
  rintro e w' ⟨h1, h2, h3, h4⟩
  refine ⟨by rw [h1, hs], ?_, h3, h4⟩
  have : Lib.byteCells l ++ Lib.strCells ⟨s.toArray⟩ = Lib.byteCells (l ++ s) := by simp [Lib.byteCells, Lib.strCells]
  rw [this] at h2
  exact Or.inr h2

theorem built_string (B b : Nat) (l : List UInt8) (w : World) (h : Built B b l w) (hBw : B ≤ w.heap.size) :
    Calls Tryd.prog 20 #[.pointer (some ⟨b, 0, none⟩)] w fun e w' => e = .returned (.string ⟨l.toArray⟩) ∧ Below B w w' :=
  (Any.Builder_String_any_f Tryd.lays169 Tryd.Builder_Extra_169 B b l w h hBw).mono fun _ _ h => ⟨h.1, h.2.2⟩
end Go.Proofs.YtjdbpabniaclaaaDoor
/-
  (*strings.Builder).WriteByte and Grow: the library's contracts, WriteByte's laid at this seat's translation by hand.
-/
namespace Go.Proofs.YtjdbpabniaclaaaDoor
open Go.Shelf Go.RowKit

def wbRen : Go.Shelf.Ren := ⟨fun | 167 => 19 | 240 => 30 | 276 => 40 | n => n, fun | 0 => 0 | 4 => 4 | 5 => 5 | 9 => 9 | 20 => 20 | 37 => 42 | 70 => 41 | 72 => 44 | 75 => 25 | 164 => 72 | 80 => 49 | n => n, fun | n => n⟩
theorem wbLays : Go.Proofs.Lays.n167 Tryd.prog wbRen := {
  mixed := by kernel_rfl
  f167 := Tryd.func19.trans (congrArg some (by kernel_rfl))
  f240 := Tryd.func30.trans (congrArg some (by kernel_rfl))
  f276 := Tryd.func40.trans (congrArg some (by kernel_rfl))
  t0 := Tryd.underlying0
  a0 := Tryd.isAgg0
  z0 := Tryd.sizeOf0
  v0 := Tryd.zeroValue0
  t4 := Tryd.underlying4
  a4 := Tryd.isAgg4
  z4 := Tryd.sizeOf4
  v4 := Tryd.zeroValue4
  t5 := Tryd.underlying5
  a5 := Tryd.isAgg5
  z5 := Tryd.sizeOf5
  v5 := Tryd.zeroValue5
  t9 := Tryd.underlying9
  a9 := Tryd.isAgg9
  z9 := Tryd.sizeOf9
  v9 := Tryd.zeroValue9
  t20 := Tryd.underlying20
  a20 := Tryd.isAgg20
  z20 := Tryd.sizeOf20
  v20 := Tryd.zeroValue20
  t37 := Tryd.underlying42
  a37 := Tryd.isAgg42
  z37 := Tryd.sizeOf42
  v37 := Tryd.zeroValue42
  t70 := Tryd.underlying41
  a70 := Tryd.isAgg41
  z70 := Tryd.sizeOf41
  v70 := Tryd.zeroValue41
  t72 := Tryd.underlying44
  a72 := Tryd.isAgg44
  z72 := Tryd.sizeOf44
  v72 := Tryd.zeroValue44
  t75 := Tryd.underlying25
  a75 := Tryd.isAgg25
  z75 := Tryd.sizeOf25
  v75 := Tryd.zeroValue25
  t164 := Tryd.underlying72
  a164 := Tryd.isAgg72
  z164 := Tryd.sizeOf72
  v164 := Tryd.zeroValue72 }
theorem wbExtra : Builder.Extra Tryd.prog wbRen := {
  sizeBuilder := by kernel_rfl
  liesBuilder := by kernel_rfl
  t5 := Tryd.underlying5
  a5 := Tryd.isAgg5
  z5 := Tryd.sizeOf5
  v5 := Tryd.zeroValue5
  infoByte := by kernel_rfl
  cellsByte := by kernel_rfl
  sizeByte := by kernel_rfl
  neB5 := by decide }

theorem built_byte (B b : Nat) (l : List UInt8) (c : UInt8) (w : World) (h : Built B b l w) (hlen : l.length + 1 ≤ 140737488355328) (hBw : B ≤ w.heap.size) :
    Calls Tryd.prog 19 #[.pointer (some ⟨b, 0, none⟩), .int .u8 c.toNat] w fun e w' => e = .returned .nilIface ∧ Built B b (l ++ [c]) w' ∧ Below B w w' ∧ Lib.OthersKept 5 (some b) w w' := by
  have hl : (Lib.byteCells l).length = l.length := by simp [Lib.byteCells]
  refine (Any.Builder_WriteByte_k wbLays wbExtra B b (Lib.byteCells l) c.toNat w h (by omega) hBw).mono ?_
  rintro e w' ⟨h1, h2, h3, h4⟩
  refine ⟨h1, ?_, h3, h4⟩
  have : Lib.byteCells l ++ [.int .u8 c.toNat] = Lib.byteCells (l ++ [c]) := by simp [Lib.byteCells]
  rw [this] at h2
  exact Or.inr h2

theorem built_grow (b n : Nat) (w : World) (hbk : w.heap[b]? = some (.cells #[.pointer none, .slice none 0 0] 44 (0, 0))) (hn : n ≤ 281474976710656) :
    Calls Tryd.prog 36 #[.pointer (some ⟨b, 0, none⟩), .int .i64 n] w fun e w' => e = .returned (.tuple #[]) ∧ Built b b [] w' ∧ Below b w w' :=
  (Tryd.Builder_Grow_fresh b b n w (Nat.le_refl _) hbk (Nat.le_of_lt (Array.getElem?_eq_some_iff.1 hbk).1) hn).mono fun _ _ h => ⟨h.1, Or.inr (Lib.BuilderAtF.of h.2.1), h.2.2⟩
end Go.Proofs.YtjdbpabniaclaaaDoor
/-
  How a sum is read: plain functions over lists of bytes, and that reading is the other way round of writing: no machine.
-/
namespace Go.Proofs.YtjdbpabniaclaaaDoor

/-- Is a number a sum? -/
def isS (n : Int) : Bool := decide (0 ≤ n ∧ n < 1000000007)
/-- The text of a sum (no sum: empty). -/
def textS (n : Int) : List UInt8 := if isS n = true then 115 :: digitsL n.toNat else []
/-- A sum out of its text, and an error's number. -/
def readS (s : List UInt8) : Int × Nat := if s.head? = some 115 ∧ isS (numberL s.tail 10) = true then (numberL s.tail 10, 0) else (0, 1)

theorem value_ge : ∀ (s : List UInt8) (h : Nat), h ≤ valueFrom h s
  | [], h => Nat.le_refl _
  | b :: s, h => by
    have := value_ge s (10 * h + (b.toNat - 48))
    show h ≤ valueFrom (10 * h + (b.toNat - 48)) s
    omega
theorem digit_byte {b : UInt8} (h : isDigit b = true) : UInt8.ofNat (48 + (b.toNat - 48)) = b := by
  simp [isDigit] at h
  apply UInt8.toNat_inj.1
  rw [UInt8.toNat_ofNat']
  have := b.toNat_lt
  omega
theorem digits_from : ∀ (s : List UInt8) (h : Nat), 1 ≤ h → s.all isDigit = true → digitsL (valueFrom h s) = digitsL h ++ s
  | [], h, _, _ => by simp [valueFrom]
  | b :: s, h, h1, hd => by
    rw [List.all_cons, Bool.and_eq_true] at hd
    have hb := hd.1
    simp [isDigit] at hb
    have e := digits_from s (10 * h + (b.toNat - 48)) (by omega) hd.2
    show digitsL (valueFrom (10 * h + (b.toNat - 48)) s) = _
    rw [e, digits_great (n := 10 * h + (b.toNat - 48)) (by omega)]
    have e1 : (10 * h + (b.toNat - 48)) / 10 = h := by omega
    have e2 : (10 * h + (b.toNat - 48)) % 10 = b.toNat - 48 := by omega
    rw [e1, e2, digit_byte hd.1]
    simp
/-- What is read as a number is its digits. -/
theorem digits_of_value {s : List UInt8} (h0 : s ≠ []) (hd : s.all isDigit = true) (hz : 1 < s.length → s.head? ≠ some 48) : digitsL (valueFrom 0 s) = s := by
  cases s with
  | nil => exact absurd rfl h0
  | cons b r =>
    rw [List.all_cons, Bool.and_eq_true] at hd
    have hb := hd.1
    simp [isDigit] at hb
    have e0 : valueFrom 0 (b :: r) = valueFrom (b.toNat - 48) r := by
      show valueFrom (10 * 0 + (b.toNat - 48)) r = _
      congr 1
      omega
    have es : digitsL (b.toNat - 48) = [b] := by rw [digits_small (by omega), digit_byte hd.1]
    rw [e0]
    cases r with
    | nil => exact es
    | cons c r =>
      have hne : b ≠ 48 := fun e => hz (by simp) (by simp [e])
      have : b.toNat ≠ 48 := fun e => hne (UInt8.toNat_inj.1 e)
      rw [digits_from (c :: r) (b.toNat - 48) (by omega) hd.2, es]
      rfl
theorem number_inv {s : List UInt8} {k : Nat} (h : 0 ≤ numberL s k) : s = digitsL (numberL s k).toNat := by
  unfold numberL at h ⊢
  split at h
  · omega
  · rename_i h1
    rw [if_neg h1]
    split at h
    · rename_i h2
      rw [if_pos h2, Int.toNat_natCast, digits_of_value (fun e => h1 (Or.inl (by simp [e]))) h2 (fun hl e => h1 (Or.inr (Or.inr ⟨hl, e⟩)))]
    · omega

theorem text_is {n : Int} (h : isS n = true) : textS n = 115 :: digitsL n.toNat := by unfold textS; rw [if_pos h]
theorem isS_bounds {n : Int} (h : isS n = true) : 0 ≤ n ∧ n < 1000000007 := of_decide_eq_true h
/-- It is read as it was written. -/
theorem read_text {n : Int} (h : isS n = true) : readS (textS n) = (n, 0) := by
  have hb := isS_bounds h
  have e : numberL (digitsL n.toNat) 10 = n := by
    have := number_digits (k := 9) (n := n.toNat) (by omega)
    rw [this]
    omega
  rw [text_is h]
  unfold readS
  rw [List.tail_cons, e, if_pos ⟨rfl, h⟩]
/-- What is read was written. -/
theorem text_read {s : List UInt8} (h : s.head? = some 115 ∧ isS (numberL s.tail 10) = true) : textS (numberL s.tail 10) = s := by
  have hb := isS_bounds h.2
  rw [text_is h.2, ← number_inv hb.1]
  cases s with
  | nil => cases h.1
  | cons b r =>
    have := h.1
    simp at this
    rw [this]
    rfl
theorem read_le (s : List UInt8) : (readS s).2 ≤ 1 := by unfold readS; split <;> simp

theorem parse_digits : ∀ (s : List UInt8) (acc : Nat), s.all isDigit = true → valueFrom acc s < 18446744073709551616 → Lib.parseUint10 acc s = .ok (valueFrom acc s)
  | [], acc, _, _ => rfl
  | b :: s, acc, hd, hv => by
    rw [List.all_cons, Bool.and_eq_true] at hd
    have hb := hd.1
    simp [isDigit] at hb
    have hv' : valueFrom (10 * acc + (b.toNat - 48)) s < 18446744073709551616 := hv
    have hg := value_ge s (10 * acc + (b.toNat - 48))
    have ec : acc * 10 + (b.toNat - 48) = 10 * acc + (b.toNat - 48) := by omega
    show Lib.parseUint10 acc (b :: s) = .ok (valueFrom (10 * acc + (b.toNat - 48)) s)
    unfold Lib.parseUint10
    rw [if_pos hb, if_neg (by omega), if_neg (by omega), ec]
    exact parse_digits s _ hd.2 hv'
/-- The library reads the digits of a number. -/
theorem atoi_digits {n : Nat} (h : n < 9223372036854775808) : Lib.atoiAll (digitsL n) = .ok (n : Int) := by
  have hp := digits_pos n
  have hd := digits_digit n
  have hv := digits_value n
  have hm : Lib.parseMag (digitsL n) = .ok n := by
    unfold Lib.parseMag
    rw [if_neg (fun e => by rw [e] at hp; simp at hp), parse_digits _ _ hd (by omega), hv]
  cases hs : digitsL n with
  | nil => rw [hs] at hp; simp at hp
  | cons c r =>
    rw [hs, List.all_cons, Bool.and_eq_true] at hd
    have hc := hd.1
    simp [isDigit] at hc
    rw [Lib.atoiAll_plain c r (by omega) (by omega), ← hs, hm]
    simp only [Lib.signless]
    rw [if_neg (by omega)]
theorem itoa_digits (n : Nat) : Lib.decDigits n = digitsL n := by
  induction n using Nat.strongRecOn with
  | ind n ih =>
    by_cases h : n < 10
    · rw [Lib.decDigits, dif_pos h, digits_small h]
    · rw [Lib.decDigits, dif_neg h, digits_great (by omega), ih (n / 10) (by omega)]
end Go.Proofs.YtjdbpabniaclaaaDoor
/-
  Package press: eachRun, with the function that Press hands it, and Press: contracts, over this seat's translation.
-/
namespace Go.Proofs.YtjdbpabniaclaaaDoor
open Go.RowKit Go.Shelf

theorem grown_below (w : World) (k : Nat) (os : Array Obj) : Below w.heap.size w (Go.Sort.grow (w.drewN k) os) :=
  ⟨rfl, rfl, rfl, by simp [Go.Sort.grow, World.drewN], fun k hk => by simp [Go.Sort.grow, World.drewN, Array.getElem?_append_left hk]⟩
theorem itoaT_any (n : Nat) (w : World) (hn : n < 9223372036854775808) (htab : Lib.TabIs Tryd.prog w "internal/strconv.uint64pow10" .u64 Lib.pow10Tab) :
    Calls Tryd.prog 18 #[.int .i64 n] w fun e w' => e = .returned (.string ⟨(digitsL n).toArray⟩) ∧ Below w.heap.size w w' :=
  (Tryd.strconv_Itoa n (by omega) (by omega) w htab).mono fun e w' ⟨h1, k, os, h2⟩ => ⟨by rw [h1, Lib.itoa_nonneg, itoa_digits], by rw [h2]; exact grown_below w k os⟩

/-- The table of powers of ten. -/
def Tab (w : World) : Prop := Lib.TabIs Tryd.prog w "internal/strconv.uint64pow10" .u64 Lib.pow10Tab
theorem Tryd.gPowT : Tryd.prog.globalNamed "internal/strconv.uint64pow10" = some 14 := by kernel_rfl
theorem Tab.lt {w : World} (h : Tab w) : 14 < w.heap.size := by
  unfold Tab Lib.TabIs World.var? at h
  rw [Tryd.gPowT] at h
  simp only [Option.bind_some] at h
  rcases Nat.lt_or_ge 14 w.heap.size with h' | h'
  · exact h'
  · rw [Array.getElem?_eq_none h'] at h; cases h
theorem Tab.to {n : Nat} {w w' : World} (h : Tab w) (hb : Below n w w') (hn : 14 < n) : Tab w' := by
  unfold Tab Lib.TabIs World.var? at h ⊢
  rw [Tryd.gPowT] at h ⊢
  simp only [Option.bind_some] at h ⊢
  rw [hb.block _ hn]
  exact h
theorem Tab.below {w w' : World} (h : Tab w) (hb : Below w.heap.size w w') : Tab w' := h.to hb h.lt

theorem pressHand_any (B bb n : Nat) (b : UInt8) (l : List UInt8) (w : World) (hB : B ≤ bb) (h : Built B bb l w) (hl : l.length ≤ 100000000000) (hn : n ≤ 999999999) (ht : Tab w) :
    Calls Tryd.prog 16 #[.int .i64 n, .int .u8 b.toNat, .pointer (some ⟨bb, 0, none⟩)] w fun e w' => e = .returned (.tuple #[]) ∧ Built B bb (l ++ runL (n, b)) w' ∧ Below B w w' := by
  have HB := Lib.hid h
  have HT := Lib.hid ht
  have hBw : B ≤ w.heap.size := Nat.le_trans hB (Nat.le_of_lt h.lt)
  have hdl : (digitsL n).length ≤ 9 := digits_length 8 n (by omega)
  clear h ht
  go_enter Tryd.func16, Tryd.ntmps16
  go_wp2_with fail
  refine (itoaT_any n _ (by omega) HT.out).mono ?_
  rintro e w1 ⟨rfl, hb1⟩
  have HB1 := Lib.hid (HB.out.below hb1)
  have HW1 := Lib.hid (hb1.mono hBw)
  have hBw1 : B ≤ w1.heap.size := Nat.le_trans hBw hb1.size
  clear hb1 HB HT
  go_wp2_with fail
  refine (built_write B bb l (digitsL n) _ HB1.out (by omega) hBw1).mono ?_
  rintro e w2 ⟨rfl, hq2, hb2, _⟩
  have HB2 := Lib.hid hq2
  have HW2 := Lib.hid (HW1.out.trans hb2)
  have hBw2 : B ≤ w2.heap.size := Nat.le_trans hBw1 hb2.size
  clear hb2 hq2 HB1 HW1
  go_wp2_with fail
  refine (built_write B bb (l ++ digitsL n) [58] _ HB2.out (by simp; omega) hBw2).mono ?_
  rintro e w3 ⟨rfl, hq3, hb3, _⟩
  have HB3 := Lib.hid hq3
  have HW3 := Lib.hid (HW2.out.trans hb3)
  have hBw3 : B ≤ w3.heap.size := Nat.le_trans hBw2 hb3.size
  clear hb3 hq3 HB2 HW2
  go_wp2_with fail
  refine (built_byte B bb (l ++ digitsL n ++ [58]) b _ HB3.out (by simp; omega) hBw3).mono ?_
  rintro e w4 ⟨rfl, hq4, hb4, _⟩
  have HB4 := Lib.hid hq4
  have HW4 := Lib.hid (HW3.out.trans hb4)
  clear hb4 hq4 HB3 HW3
  go_wp2
  go_end0
  refine ⟨rfl, ?_, HW4.out⟩
  have e : l ++ runL (n, b) = l ++ digitsL n ++ [58] ++ [b] := by simp [runL]
  rw [e]
  exact HB4.out

theorem run_off {r : List UInt8} {b : UInt8} {t : Nat} (h1 : 1 ≤ t) (htk : r.take t = List.replicate t b) (hn : r[t]? ≠ some b) : runs r = (t, b) :: runs (r.drop t) := by
  obtain ⟨k, rfl⟩ : ∃ k, t = k + 1 := ⟨t - 1, by omega⟩
  conv => lhs; rw [← List.take_append_drop (k + 1) r, htk]
  exact runs_rep k b _ (by rw [List.head?_drop]; exact hn)

theorem take_one {r : List UInt8} {b : UInt8} (h : r[0]? = some b) : r.take 1 = List.replicate 1 b := by
  cases r with
  | nil => cases h
  | cons x y => simp at h; simp [h]
theorem rep_more {r : List UInt8} {b : UInt8} {t : Nat} (h : t < r.length) (hc : r[t] = b) (ht : r.take t = List.replicate t b) : r.take (t + 1) = List.replicate (t + 1) b := by
  rw [List.take_add_one, List.getElem?_eq_getElem h, ht, hc, List.replicate_succ']
  rfl

set_option maxRecDepth 100000 in
set_option maxHeartbeats 4000000 in
theorem eachRun_any (s : List UInt8) (g : Nat) (lb : Array Value) (eg : ∀ args w, (callFunc g args).run Tryd.prog w = .ok (.enter g args) w) (I : List (Nat × UInt8) → World → Prop) (w : World) (hs : s.length ≤ 999999999)
    (hI : I [] w) (hbel : ∀ d w w', I d w → Below w.heap.size w w' → I d w')
    (hh : ∀ d n b tl w, runs s = d ++ (n, b) :: tl → I d w → Calls Tryd.prog g (#[.int .i64 (n : Nat), .int .u8 (b : UInt8).toNat] ++ lb) w fun e w' => e = .returned (.tuple #[]) ∧ I (d ++ [(n, b)]) w') :
    Calls Tryd.prog 15 #[.string ⟨s.toArray⟩, .int .i64 999999999, .func (.func g) #[] lb] w fun e w' => e = .returned (.tuple #[]) ∧ I (runs s) w' := by
  have HI := Lib.hid hI
  have HE := Lib.hid hbel
  have HH := Lib.hid hh
  clear hI hbel hh
  go_enter Tryd.func15, Tryd.ntmps15
  go_wp2_with fail
  go_loopg [6] (s.length) (fun gf rv wr => ∃ (r : List UInt8) (d : List (Nat × UInt8)), r.length ≤ gf ∧ r.length ≤ s.length ∧ rv = .string ⟨r.toArray⟩ ∧ I d wr ∧ runs s = d ++ runs r)
  case atStart => exact ⟨s, [], Nat.le_refl _, Nat.le_refl _, rfl, HI.out, rfl⟩
  case round =>
    obtain ⟨r, d, hgf, hrs, rfl, hid, hr⟩ := hrel
    have HD := Lib.hid hid
    have HR := Lib.hid hr
    clear hid hr HI
    cases r with
    | nil =>
      have HN : Hid (runs s = d) := by
        show runs s = d
        rw [HR.out]
        simp [runs]
      clear HR
      go_wp2
      go_end0
      exact ⟨rfl, by rw [HN.out]; exact HD.out⟩
    | cons b r' =>
      have hl1 : 1 ≤ (b :: r').length := by simp
      have hb0 : (b :: r')[0]? = some b := rfl
      generalize hrr : b :: r' = r at hgf hrs HR hl1 hb0 ⊢
      clear hrr r'
      have hne : (r.isEmpty) = false := by cases r with | nil => simp at hl1 | cons x y => rfl
      go_wp2_with fail
      obtain ⟨wo, rfl⟩ : ∃ wo, wo = wr := ⟨_, rfl⟩
      go_loopw [7] (fun tv wq => ∃ t : Nat, 1 ≤ t ∧ t ≤ r.length ∧ r.take t = List.replicate t b ∧ tv = .int .i64 (t : Int) ∧ I d wq) (fun tv _ => r.length - (intOf tv).toNat)
      case atStart => exact ⟨1, Nat.le_refl _, hl1, take_one hb0, rfl, HD.out⟩
      case round =>
        obtain ⟨t, ht1, htl, htk, rfl, hid⟩ := hrel
        have HI := Lib.hid hid
        have HT := Lib.hid htk
        clear hid htk HD
        have hz : 0 < ({ data := r.toArray } : ByteArray).size := by simp [ByteArray.size]; omega
        have hb0' : ({ data := r.toArray } : ByteArray)[0]'hz = b := by
          have : r[0]'(by omega) = b := by rw [List.getElem?_eq_getElem (by omega)] at hb0; exact Option.some.inj hb0
          exact this
        have htm : (t : Int) < 999999999 ∨ ¬ t < r.length := by omega
        by_cases hlt : t < r.length
        · have htm' : (t : Int) < 999999999 := by omega
          have hlt' : (t : Int) < (r.length : Int) := by omega
          have htz : t < ({ data := r.toArray } : ByteArray).size := by simp [ByteArray.size]; omega
          obtain ⟨c, hc⟩ : ∃ c, r[t] = c := ⟨_, rfl⟩
          have hct : ({ data := r.toArray } : ByteArray)[t]'htz = c := hc
          by_cases hcb : c = b
          · subst hcb
            have HM := Lib.hid (rep_more hlt hc HT.out)
            clear hc htm HT HH HR
            go_wp2_with fail
            go_quiet (fail)
            go_wp2
            go_roundw
            case rel => exact ⟨t + 1, by omega, by omega, HM.out, by go_num, HE.out _ _ _ HI.out (below_drewN (Below.refl _ _) _)⟩
            case measure => simp [intOf]; omega
          · have HRR : Hid (runs s = d ++ (t, b) :: runs (r.drop t)) := by
              show runs s = _
              rw [HR.out, run_off ht1 HT.out (by rw [List.getElem?_eq_getElem hlt, hc]; exact fun e => hcb (Option.some.inj e))]
            have cS := fun W (h : I d W) => HH.out d t b _ W HRR.out h
            have hcb' : ((c.toNat : Int) == (b.toNat : Int)) = false := by
              simp
              exact fun e => hcb (UInt8.toNat_inj.1 (by omega))
            clear hc htm HT HH HR hcb
            go_wp2_with fail
            go_quiet (fail)
            go_wp2_with (go_at_fn g; refine (cS _ (HE.out _ _ _ HI.out (below_drewN (Below.refl _ _) _))).mono ?_; rintro e w2 ⟨rfl, hI2⟩)
            obtain ⟨g', rfl⟩ : ∃ g', gk = g' + 1 := ⟨gk - 1, by omega⟩
            go_roundg g'
            case measure => omega
            case rel => exact ⟨r.drop t, d ++ [(t, b)], by rw [List.length_drop]; omega, by rw [List.length_drop]; omega, by rw [extract_to], hI2, by rw [List.append_assoc]; exact HRR.out⟩
        · have HRR : Hid (runs s = d ++ (t, b) :: runs (r.drop t)) := by
            show runs s = _
            rw [HR.out, run_off ht1 HT.out (by rw [List.getElem?_eq_none (by omega)]; simp)]
          have cS := fun W (h : I d W) => HH.out d t b _ W HRR.out h
          have hlt' : decide ((t : Int) < (r.length : Int)) = false := by simp; omega
          clear htm HT HH HR
          go_wp2_with fail
          go_quiet (fail)
          go_wp2_with (go_at_fn g; refine (cS _ (HE.out _ _ _ HI.out (below_drewN (Below.refl _ _) _))).mono ?_; rintro e w2 ⟨rfl, hI2⟩)
          obtain ⟨g', rfl⟩ : ∃ g', gk = g' + 1 := ⟨gk - 1, by omega⟩
          go_roundg g'
          case measure => omega
          case rel => exact ⟨r.drop t, d ++ [(t, b)], by rw [List.length_drop]; omega, by rw [List.length_drop]; omega, by rw [extract_to], hI2, by rw [List.append_assoc]; exact HRR.out⟩

theorem runs_few (s : List UInt8) : (runs s).length ≤ s.length := by
  induction s with
  | nil => simp [runs]
  | cons b r ih =>
    show (putRun b (runs r)).length ≤ _
    cases h : runs r with
    | nil => simp [putRun]
    | cons x l =>
      obtain ⟨n, c⟩ := x
      rw [h] at ih
      unfold putRun
      simp only
      split <;> simp_all <;> omega
theorem write_bound {l : List (Nat × UInt8)} (h : ∀ r ∈ l, r.1 ≤ 999999999) : (writeL l).length ≤ 11 * l.length := by
  induction l with
  | nil => simp [writeL]
  | cons r l ih =>
    have i := ih fun x hx => h x (by simp [hx])
    have hd := digits_length 8 r.1 (by have := h r (by simp); omega)
    rw [writeL_cons, List.length_append, List.length_cons]
    have : (runL r).length = (digitsL r.1).length + 2 := by simp [runL]
    omega
theorem runs_part {s : List UInt8} {d tl : List (Nat × UInt8)} {n : Nat} {b : UInt8} (h : runs s = d ++ (n, b) :: tl) (hs : s.length ≤ 999999999) : (writeL d).length ≤ 11 * s.length ∧ n ≤ 999999999 := by
  have h1 := runs_few s
  have h2 : d.length ≤ s.length := by rw [h, List.length_append] at h1; omega
  have h3 := write_bound (l := d) fun r hr => by have := runs_mem (s := s) (r := r) (by rw [h]; simp [hr]); omega
  have h4 := runs_mem (s := s) (r := (n, b)) (by rw [h]; simp)
  simp only at h4
  omega

set_option maxRecDepth 100000 in
theorem press_any (s : List UInt8) (w : World) (hs : s.length ≤ 999999999) (ht : Tab w) :
    Calls Tryd.prog 6 #[.string ⟨s.toArray⟩] w fun e w' => e = .returned (.string ⟨(pressL s).toArray⟩) ∧ Below w.heap.size w w' := by
  have eg : ∀ args w, (callFunc 16 args).run Tryd.prog w = .ok (.enter 16 args) w := enters_of Tryd.func16 (by kernel_rfl) rfl
  have hmf : ∀ (fn : Fn) (first cap : Array Value) (w : World), (Instr.makeFunc fn first cap).run Tryd.prog w = .ok (.func fn first cap) w := fun _ _ _ _ => rfl
  have HT := Lib.hid ht
  clear ht
  go_enter Tryd.func6, Tryd.ntmps6
  go_wp2_with fail
  refine (eachRun_any s 16 #[.pointer (some ⟨w.heap.size, 0, none⟩)] eg (fun d w' => Built w.heap.size w.heap.size (writeL d) w' ∧ Below w.heap.size w w') _ hs ⟨built_fresh w, (Below.refl _ _).alloc (Nat.le_refl _) _⟩ (fun d W W' h hb => ⟨h.1.below hb, h.2.trans (hb.mono h.2.size)⟩) ?_).mono ?_
  · rintro d n b tl W hp ⟨hk, hb⟩
    obtain ⟨h1, h2⟩ := runs_part hp hs
    refine (pressHand_any w.heap.size w.heap.size n b (writeL d) W (Nat.le_refl _) hk (by omega) h2 (HT.out.below hb)).mono ?_
    rintro e W' ⟨rfl, hb1, hb2⟩
    exact ⟨rfl, by rw [writeL_snoc]; exact hb1, hb.trans hb2⟩
  rintro e w1 ⟨rfl, hk, hb⟩
  have HK := Lib.hid hk
  have HB := Lib.hid hb
  clear hk hb
  go_wp2_with fail
  refine (built_string w.heap.size w.heap.size _ _ HK.out HB.out.size).mono ?_
  rintro e w2 ⟨rfl, hb2⟩
  have HB2 := Lib.hid (HB.out.trans hb2)
  clear hb2
  go_wp2
  go_ret
  exact ⟨rfl, HB2.out⟩
end Go.Proofs.YtjdbpabniaclaaaDoor
/-
  Package press: room, Open: contracts, over this seat's translation.
-/
namespace Go.Proofs.YtjdbpabniaclaaaDoor
open Go.RowKit Go.Shelf

theorem Built.keep {B b : Nat} {l : List UInt8} {w w' : World} (h : Built B b l w) (hk : ∀ g, B ≤ g → g < w.heap.size → w'.heap[g]? = w.heap[g]?) : Built B b l w' := by
  have go : ∀ q, Lib.BuilderAtF 44 5 B b q (Lib.byteCells l) w → Lib.BuilderAtF 44 5 B b q (Lib.byteCells l) w' := by
    rintro q ⟨h1, v, h2, h3, h4⟩
    refine ⟨h1, v, (hk b h1 (Array.getElem?_eq_some_iff.1 h2).1).trans h2, ⟨h3.1, ?_⟩, h4⟩
    rcases h3.2 with h0 | ⟨g, cap, cur, fz, hv, hg, hh, r⟩
    · exact .inl h0
    · exact .inr ⟨g, cap, cur, fz, hv, hg, (hk g hg (Array.getElem?_eq_some_iff.1 hh).1).trans hh, r⟩
  exact h.imp (go _) (go _)

/-- The deferred function of room, of a frame that returns: nothing is recovered. -/
theorem room_idle (p : Addr) (v : Value) (w : World) (hc : w.cell? p = some v) (hz : w.frozen? p = false) :
    CallsD Tryd.prog 35 #[.pointer (some p)] .returning w fun e u' w' => e = .returned (.tuple #[]) ∧ u' = .returning ∧ w' = w.setCell p (.bool true) := by
  refine callsD_of_wpS Tryd.func35 rfl fun c₀ cs hu => ?_
  apply wpS_region
  simp [wpOpsS, go_sem, recoverD, hu, Tryd.ntmps35, hc, hz, bodyPostS, results, Tryd.results35]
  cases c₀
  simp_all

set_option maxRecDepth 100000 in
theorem room_any (n : Nat) (w : World) (hn : n ≤ 281474976710656) :
    Calls Tryd.prog 24 #[.int .i64 n] w fun e w' => e = .returned (.tuple #[.pointer (some ⟨w.heap.size + 1, 0, none⟩), .bool true]) ∧ Built (w.heap.size + 1) (w.heap.size + 1) [] w' ∧ Below w.heap.size w w' := by
  have hmf : ∀ (fn : Fn) (first cap : Array Value) (w : World), (Instr.makeFunc fn first cap).run Tryd.prog w = .ok (.func fn first cap) w := fun _ _ _ _ => rfl
  go_enter_defers Tryd.func24, Tryd.ntmps24
  go_wp2_with fail
  have hsz : (w.alloc (.cells #[.bool false] 4)).heap.size = w.heap.size + 1 := by simp
  have hbk : ((w.alloc (.cells #[.bool false] 4)).alloc (.cells #[.pointer none, .slice none 0 0] 44)).heap[w.heap.size + 1]? = some (.cells #[.pointer none, .slice none 0 0] 44 (0, 0)) := by
    have := heap_new (w.alloc (.cells #[.bool false] 4)) (.cells #[.pointer none, .slice none 0 0] 44)
    rw [hsz] at this
    exact this
  refine (built_grow (w.heap.size + 1) n _ hbk hn).mono ?_
  rintro e w1 ⟨rfl, hk, hb⟩
  have hb' : Below (w.heap.size + 1) (w.alloc (.cells #[.bool false] 4)) w1 := ((Below.refl _ _).alloc (by simp) _).trans hb
  have hone : w1.heap[w.heap.size]? = some (.cells #[.bool false] 4 (0, 0)) := (hb'.block w.heap.size (Nat.lt_succ_self _)).trans (heap_new w _)
  have HB := Lib.hid (((Below.refl _ w).alloc (Nat.le_refl _) (.cells #[.bool false] 4)).trans (hb'.mono (Nat.le_succ _)))
  have HK := Lib.hid hk
  have HO := Lib.hid hone
  have hc := cell_of_one hone
  have hz := free_of_one hone
  clear hb hb' hk hone hbk
  go_wp2
  have ho2 := one_setCell (u := .bool true) HO.out
  have hc2 := cell_of_one ho2
  have hz2 := free_of_one ho2
  have ho3 := one_setCell (u := .bool true) ho2
  have hc3 := cell_of_one ho3
  refine leaves_cons (f := 35) (args := #[.pointer (some ⟨w.heap.size, 0, none⟩)]) (by simp) (by simp [go_sem]) ?_
  refine (room_idle ⟨w.heap.size, 0, none⟩ (.bool true) _ hc2 hz2).mono ?_
  rintro e u' w'' ⟨rfl, rfl, rfl⟩
  have hfin : Built (w.heap.size + 1) (w.heap.size + 1) [] ((w1.setCell ⟨w.heap.size, 0, none⟩ (.bool true)).setCell ⟨w.heap.size, 0, none⟩ (.bool true)) ∧ Below w.heap.size w ((w1.setCell ⟨w.heap.size, 0, none⟩ (.bool true)).setCell ⟨w.heap.size, 0, none⟩ (.bool true)) := by
    refine ⟨HK.out.keep fun g hg _ => ?_, (HB.out.setCell (Nat.le_refl _) _).setCell (Nat.le_refl _) _⟩
    exact (Below.heap_setCell _ _ _ _ (by show g ≠ w.heap.size; omega)).trans (Below.heap_setCell _ _ _ _ (by show g ≠ w.heap.size; omega))
  generalize (w1.setCell ⟨w.heap.size, 0, none⟩ (.bool true)).setCell ⟨w.heap.size, 0, none⟩ (.bool true) = W at hc3 hfin ⊢
  simp [Leaves, settle, results, Tryd.results24, go_sem, hc3, hfin]

theorem openHand_any (B bb bx n : Nat) (b : UInt8) (l : List UInt8) (w : World) (h : Built B bb l w) (hB : B ≤ bb) (hl : l.length + n ≤ 140737488355328) (hn : n ≤ 999999999)
    (hbx : w.heap[bx]? = some (.cells #[.pointer (some ⟨bb, 0, none⟩)] 41 (0, 0))) (hne : bx ≠ bb) :
    Calls Tryd.prog 25 #[.int .i64 n, .int .u8 b.toNat, .pointer (some ⟨bx, 0, none⟩)] w fun e w' => e = .returned (.tuple #[]) ∧ Built B bb (l ++ List.replicate n b) w' ∧ Below B w w' ∧ w'.heap[bx]? = some (.cells #[.pointer (some ⟨bb, 0, none⟩)] 41 (0, 0)) := by
  have HK := Lib.hid h
  have HX := Lib.hid hbx
  have hBw : B ≤ w.heap.size := Nat.le_trans hB (Nat.le_of_lt h.lt)
  clear h hbx
  go_enter Tryd.func25, Tryd.ntmps25
  go_wp2_with fail
  go_loopw [6] (fun iv wr => ∃ i : Nat, i ≤ n ∧ iv = .int .i64 (i : Int) ∧ Built B bb (l ++ List.replicate i b) wr ∧ Below B w wr ∧ wr.heap[bx]? = some (.cells #[.pointer (some ⟨bb, 0, none⟩)] 41 (0, 0))) (fun iv _ => n - (intOf iv).toNat)
  case atStart => exact ⟨0, by omega, rfl, by simpa using HK.out, Below.refl _ _, HX.out⟩
  case round =>
    obtain ⟨i, hi, rfl, hk, hb, hx⟩ := hrel
    have HK1 := Lib.hid hk
    have HB1 := Lib.hid hb
    have HX1 := Lib.hid hx
    have hc := cell_of_one hx
    clear hk hb hx
    by_cases hlt : i < n
    · have hlt' : (i : Int) < (n : Int) := by omega
      go_wp2_with fail
      refine (built_byte B bb _ b _ HK1.out (by simp; omega) (Nat.le_trans hBw HB1.out.size)).mono ?_
      rintro e w2 ⟨rfl, hk2, hb2, ho2⟩
      have HX2 := Lib.hid (ho2 bx _ HX1.out (fun e => hne (Option.some.inj e)) (fun c' fz' e => by cases e))
      have HK2 := Lib.hid hk2
      have HB2 := Lib.hid (HB1.out.trans hb2)
      clear hk2 hb2 ho2 hc
      go_wp2
      go_roundw
      case rel =>
        refine ⟨i + 1, by omega, by go_num, ?_, HB2.out, HX2.out⟩
        rw [List.replicate_succ', ← List.append_assoc]
        exact HK2.out
      case measure => simp [intOf]; omega
    · obtain rfl : i = n := by omega
      go_wp2
      go_end0
      exact ⟨rfl, HK1.out, HB1.out, HX1.out⟩

set_option maxRecDepth 100000 in
set_option maxHeartbeats 2000000 in
theorem open_any (p : Nat → Addr) (s : List UInt8) (most : Int) (w : World) (hs : s.length ≤ 1000000000) (hm : most ≤ 140737488355328) (hE : Env p w) :
    Calls Tryd.prog 8 #[.string ⟨s.toArray⟩, .int .i64 most] w fun e w' => ∃ v, e = .returned (.tuple #[.string ⟨(openS s most).1.toArray⟩, v]) ∧ ErrAt p w' v (openS s most).2.1 (openS s most).2.2 ∧ Below w.heap.size w w' := by
  have eg : ∀ args w, (callFunc 25 args).run Tryd.prog w = .ok (.enter 25 args) w := enters_of Tryd.func25 (by kernel_rfl) rfl
  have hmf : ∀ (fn : Fn) (first cap : Array Value) (w : World), (Instr.makeFunc fn first cap).run Tryd.prog w = .ok (.func fn first cap) w := fun _ _ _ _ => rfl
  have HE := Lib.hid hE
  have HE0 : Hid (∀ W, Below w.heap.size w W → Env p W) := fun _ h => hE.below h
  clear hE
  go_enter Tryd.func8, Tryd.ntmps8
  go_wp2_with fail
  refine (size_any p s _ hs HE.out).mono ?_
  rintro e w1 ⟨v, rfl, hv, hb1⟩
  have HB1 := Lib.hid hb1
  have HE1 := Lib.hid (HE.out.below hb1)
  clear hb1 HE
  cases hr : (readL s).2 with
  | some k =>
    have HO := Lib.hid (openS_some most hr)
    rw [hr] at hv
    obtain ⟨T, u, rfl⟩ := hv.some (by simp [placeE])
    have HV := Lib.hid hv
    clear hr hv
    go_wp2
    go_ret2
    exact ⟨_, by rw [HO.out]; rfl, by rw [HO.out]; exact HV.out, HB1.out⟩
  | none =>
    have HR := Lib.hid hr
    rw [runsS_none hr]
    rw [hr] at hv
    obtain rfl := hv.isNil
    clear hv
    by_cases hfull : most < (sizeL (readL s).1 : Int)
    · have HO := Lib.hid (openS_full hr hfull)
      have g7 := HE1.out.s7
      clear hr
      go_wp2_with fail
      go_quiet (fail)
      go_wp2
      go_ret2
      exact ⟨_, by rw [HO.out]; rfl, by rw [HO.out]; exact .inr (.inl ⟨7, rfl, by decide, rfl, rfl⟩), below_drewN HB1.out _⟩
    · have HO := Lib.hid (openS_fine hr hfull)
      have hfull' : ¬ most < (sizeL (readL s).1 : Int) := hfull
      clear hr
      go_wp2_with fail
      refine (room_any (sizeL (readL s).1) _ (by omega)).mono ?_
      rintro e w2 ⟨rfl, hk2, hb2⟩
      have hsz2 : w1.heap.size + 1 < w2.heap.size := hk2.lt
      have HK2 := Lib.hid hk2
      have HB2 := Lib.hid hb2
      clear hk2 hb2
      go_wp2_with fail
      obtain ⟨W0, hW0⟩ : ∃ W0, W0 = w2.alloc (.cells #[.pointer (some ⟨w1.heap.size + 1, 0, none⟩)] 41) := ⟨_, rfl⟩
      have hx0 : W0.heap[w2.heap.size]? = some (.cells #[.pointer (some ⟨w1.heap.size + 1, 0, none⟩)] 41 (0, 0)) := by rw [hW0]; exact heap_new _ _
      have hB0 : Below w2.heap.size w2 W0 := by rw [hW0]; exact (Below.refl _ _).alloc (Nat.le_refl _) _
      have hK0 := HK2.out.below hB0
      have hBw : Below w.heap.size w W0 := HB1.out.trans ((HB2.out.trans (hB0.mono HB2.out.size)).mono HB1.out.size)
      rw [← hW0]
      have hne : w2.heap.size ≠ w1.heap.size + 1 := by omega
      clear hW0 hB0 HK2 HB2
      have hws := HB1.out.size
      refine (eachPressed_any p s 25 #[.pointer (some ⟨w2.heap.size, 0, none⟩)] eg (fun d W => Built (w1.heap.size + 1) (w1.heap.size + 1) (openL d) W ∧ Below w.heap.size w W ∧ W.heap[w2.heap.size]? = some (.cells #[.pointer (some ⟨w1.heap.size + 1, 0, none⟩)] 41 (0, 0))) _ hs ⟨hK0, hBw, hx0⟩ (fun d W h => ?_) ?_).mono ?_
      · exact HE0.out _ h.2.1
      · rintro d n b tl W hp ⟨hk, hb, hx⟩
        obtain ⟨h1, h2, h3⟩ := read_prefix hp hs
        refine (openHand_any (w1.heap.size + 1) (w1.heap.size + 1) w2.heap.size n b (openL d) W hk (Nat.le_refl _) (by rw [openL_length]; omega) h2 hx hne).mono ?_
        rintro e W' ⟨rfl, hk', hb', hx'⟩
        exact ⟨rfl, by rw [openL_snoc]; exact hk', hb.trans (hb'.mono (by omega)), hx'⟩
      rintro e w3 ⟨v, w4, rfl, ⟨hk, hb, hx⟩, hb3, hv⟩
      rw [HR.out] at hv
      obtain rfl := hv.isNil
      have hx3 := (hb3.block w2.heap.size (Array.getElem?_eq_some_iff.1 hx).1).trans hx
      have HK3 := Lib.hid (hk.below hb3)
      have HB3 := Lib.hid (hb.trans (hb3.mono hb.size))
      have hc := cell_of_one hx3
      clear hk hb hx hb3 hv hx3 hx0 hK0 hBw
      go_wp2_with fail
      refine (built_string (w1.heap.size + 1) (w1.heap.size + 1) _ _ HK3.out (Nat.le_of_lt HK3.out.lt)).mono ?_
      rintro e w5 ⟨rfl, hb5⟩
      have HB5 := Lib.hid (HB3.out.trans (hb5.mono (by omega)))
      clear hb5
      go_wp2
      go_ret2
      exact ⟨_, by rw [HO.out]; rfl, by rw [HO.out]; exact ErrAt.fine p _, HB5.out⟩
end Go.Proofs.YtjdbpabniaclaaaDoor
/-
  The closed fact of pressed texts, and the law PressBack, whatever texts and number it is called with: walks over this seat's translation.
-/
namespace Go.Proofs.YtjdbpabniaclaaaDoor
open Go.RowKit Go.Shelf

theorem coded_err {p : Nat → Addr} {w : World} {v : Value} {c : Nat} (h : ErrAt p w v c (-1)) (hE : Env p w) :
    Calls Tryd.prog 9 #[v, .int .i64 c] w fun e w' => e = .returned (.bool true) ∧ Below w.heap.size w w' := coded_yes _ _ _ (code_err h hE)

theorem press_length (s : List UInt8) (h : s.length ≤ 999999999) : (pressL s).length ≤ 11 * s.length := by
  have h1 := runs_few s
  have h2 := write_bound (l := runs s) fun r hr => by have := runs_mem hr; omega
  show (writeL (runs s)).length ≤ _
  omega
theorem back_runs {s : List UInt8} (h : s.length ≤ 999999999) : (readL (pressL s)).2 = none ∧ sizeL (runsS (pressL s)) = s.length := by
  have e := read_one s h
  exact ⟨by rw [e], by rw [runsS_none (by rw [e]), e, size_runs]⟩
theorem back_open {s : List UInt8} (h : s.length ≤ 999999999) : openS (pressL s) s.length = (s, 0, -1) := by
  have e := read_one s h
  rw [openS_fine (by rw [e]) (by rw [e, size_runs]; omega), e, open_runs]
theorem back_full {s : List UInt8} {most : Int} (h : s.length ≤ 999999999) (hm : most < s.length) : openS (pressL s) most = ([], 8, -1) := by
  have e := read_one s h
  rw [openS_full (by rw [e]) (by rw [e, size_runs]; exact hm)]
theorem back_two {s t : List UInt8} (hs : s.length ≤ 999999999) (ht : t.length ≤ 999999999) : openS (pressL s ++ pressL t) ((s.length : Int) + (t.length : Int)) = (s ++ t, 0, -1) := by
  have e := read_two s t hs ht
  rw [openS_fine (by rw [e]) (by rw [e, sizeL_app, size_runs, size_runs]; omega), e, openL_app, open_runs, open_runs]
theorem const_press : pressL [97, 97, 97, 98] = [51, 58, 97, 49, 58, 98] := by
  simp [pressL, runs, putRun, writeL, runL, digits_small]
theorem const_open : openS [51, 58, 97, 49, 58, 98] 9 = ([97, 97, 97, 98], 0, -1) := by decide

theorem open_is (p : Nat → Addr) (x : ByteArray) (s : List UInt8) (most : Int) (w : World) (hx : x = ⟨s.toArray⟩) (hs : s.length ≤ 1000000000) (hm : most ≤ 140737488355328) (hE : Env p w) :
    Calls Tryd.prog 8 #[.string x, .int .i64 most] w fun e w' => ∃ v, e = .returned (.tuple #[.string ⟨(openS s most).1.toArray⟩, v]) ∧ ErrAt p w' v (openS s most).2.1 (openS s most).2.2 ∧ Below w.heap.size w w' := by
  subst hx
  exact open_any p s most w hs hm hE
theorem bytes_app (a b : List UInt8) : (⟨a.toArray⟩ : ByteArray) ++ ⟨b.toArray⟩ = ⟨(a ++ b).toArray⟩ := by
  apply ByteArray.ext
  simp

set_option maxRecDepth 100000 in
theorem pressed_any (p : Nat → Addr) (w : World) (hE : Env p w) (hT : Tab w) :
    Calls Tryd.prog 5 #[] w fun e w' => e = .returned (.bool true) ∧ Below w.heap.size w w' := by
  have HE := Lib.hid hE
  have HT := Lib.hid hT
  clear hE hT
  go_enter Tryd.func5, Tryd.ntmps5
  go_wp2_with fail
  refine (open_any p [51, 58, 97, 49, 58, 98] 9 _ (by decide) (by decide) HE.out).mono ?_
  rintro e w1 ⟨v, rfl, hv, hb1⟩
  rw [const_open] at hv ⊢
  obtain rfl := hv.isNil
  have HB1 := Lib.hid hb1
  clear hb1 hv
  go_wp2_with fail
  refine (press_any [97, 97, 97, 98] _ (by decide) (HT.out.below HB1.out)).mono ?_
  rintro e w2 ⟨rfl, hb2⟩
  rw [const_press]
  have HB2 := Lib.hid (HB1.out.trans (hb2.mono HB1.out.size))
  clear hb2
  go_wp2
  go_ret
  exact ⟨rfl, HB2.out⟩

theorem pressBack_long (p : Nat → Addr) (s t : ByteArray) (most : Int) (w : World) (hE : Env p w) (hT : Tab w) (hs : s.size ≤ maxLen) (ht : t.size ≤ maxLen) (h : 500 < s.size ∨ 500 < t.size) :
    Calls Tryd.prog 3 #[.string s, .string t, .int .i64 most] w fun e w' => e = .returned (.bool true) ∧ Below w.heap.size w w' := by
  unfold maxLen at hs ht
  have HE := Lib.hid hE
  have HT := Lib.hid hT
  clear hE hT
  have hc : (500 : Int) < s.size ∨ (¬ (500 : Int) < s.size ∧ (500 : Int) < t.size) := by omega
  clear h
  rcases hc with h | ⟨h1, h2⟩
  all_goals
    go_enter Tryd.func3, Tryd.ntmps3
    go_wp2_with fail
    refine (pressed_any p _ HE.out HT.out).mono ?_
    rintro e w1 ⟨rfl, hb1⟩
    have HB1 := Lib.hid hb1
    clear hb1
    go_wp2
    go_ret
    exact ⟨rfl, HB1.out⟩

set_option maxRecDepth 100000 in
set_option maxHeartbeats 4000000 in
theorem pressBack_main (p : Nat → Addr) (s t : List UInt8) (most : Int) (w : World) (hE : Env p w) (hT : Tab w) (hs : s.length ≤ 500) (ht : t.length ≤ 500) :
    Calls Tryd.prog 3 #[.string ⟨s.toArray⟩, .string ⟨t.toArray⟩, .int .i64 most] w fun e w' => e = .returned (.bool true) ∧ Below w.heap.size w w' := by
  have HE := Lib.hid hE
  have HT := Lib.hid hT
  have hs' : ¬ (500 : Int) < s.length := by omega
  have ht' : ¬ (500 : Int) < t.length := by omega
  have hpl := press_length s (by omega)
  have hql := press_length t (by omega)
  have K1 := Lib.hid (back_runs (s := s) (by omega))
  have K2 := Lib.hid (back_open (s := s) (by omega))
  have K3 := Lib.hid (fun h => back_full (s := s) (most := most) (by omega) h)
  have K4 := Lib.hid (back_two (s := s) (t := t) (by omega) (by omega))
  clear hE hT
  go_enter Tryd.func3, Tryd.ntmps3
  go_wp2_with fail
  refine (pressed_any p _ HE.out HT.out).mono ?_
  rintro e w1 ⟨rfl, hb1⟩
  have HB1 := Lib.hid hb1
  clear hb1
  go_wp2_with fail
  refine (press_any s _ (by omega) (HT.out.below HB1.out)).mono ?_
  rintro e w2 ⟨rfl, hb2⟩
  have HB2 := Lib.hid (HB1.out.trans (hb2.mono HB1.out.size))
  clear hb2
  generalize hP : pressL s = P at hpl K1 K2 K3 K4 ⊢
  have HP := Lib.hid hP
  clear hP
  go_wp2_with fail
  refine (size_any p P _ (by omega) (HE.out.below HB2.out)).mono ?_
  rintro e w3 ⟨v, rfl, hv, hb3⟩
  rw [K1.out.1] at hv
  obtain rfl := hv.isNil
  rw [K1.out.2]
  have HB3 := Lib.hid (HB2.out.trans (hb3.mono HB2.out.size))
  clear hb3 hv
  go_wp2_with fail
  refine (open_any p P s.length _ (by omega) (by omega) (HE.out.below HB3.out)).mono ?_
  rintro e w4 ⟨v, rfl, hv, hb4⟩
  rw [K2.out] at hv ⊢
  obtain rfl := hv.isNil
  have HB4 := Lib.hid (HB3.out.trans (hb4.mono HB3.out.size))
  clear hb4 hv
  go_wp2_with fail
  refine (press_any s _ (by omega) (HT.out.below HB4.out)).mono ?_
  rintro e w5 ⟨rfl, hb5⟩
  rw [HP.out]
  have HB5 := Lib.hid (HB4.out.trans (hb5.mono HB4.out.size))
  clear hb5
  by_cases hm : most < (s.length : Int)
  · go_wp2_with fail
    refine (open_any p P most _ (by omega) (by omega) (HE.out.below HB5.out)).mono ?_
    rintro e w6 ⟨v, rfl, hv, hb6⟩
    rw [K3.out hm] at hv ⊢
    have HB6 := Lib.hid (HB5.out.trans (hb6.mono HB5.out.size))
    have HV := Lib.hid hv
    clear hb6 hv
    go_wp2_with fail
    refine (coded_err HV.out (HE.out.below HB6.out)).mono ?_
    rintro e w7 ⟨rfl, hb7⟩
    have HB7 := Lib.hid (HB6.out.trans (hb7.mono HB6.out.size))
    clear hb7
    go_wp2_with fail
    refine (press_any t _ (by omega) (HT.out.below HB7.out)).mono ?_
    rintro e w8 ⟨rfl, hb8⟩
    have HB8 := Lib.hid (HB7.out.trans (hb8.mono HB7.out.size))
    clear hb8
    generalize pressL t = Q at hql K4 ⊢
    go_wp2_with fail
    refine (open_is p _ (P ++ Q) _ _ (bytes_app P Q) (by rw [List.length_append]; omega) (by omega) (HE.out.below HB8.out)).mono ?_
    rintro e w9 ⟨v9, rfl, hv9, hb9⟩
    rw [K4.out] at hv9 ⊢
    obtain rfl := hv9.isNil
    have HB9 := Lib.hid (HB8.out.trans (hb9.mono HB8.out.size))
    have hst := bytes_app s t
    clear hb9 hv9
    go_wp2
    go_ret
    exact ⟨rfl, HB9.out⟩
  · have hm' : decide (most < (s.length : Int)) = false := by simp; omega
    go_wp2_with fail
    refine (press_any t _ (by omega) (HT.out.below HB5.out)).mono ?_
    rintro e w8 ⟨rfl, hb8⟩
    have HB8 := Lib.hid (HB5.out.trans (hb8.mono HB5.out.size))
    clear hb8
    generalize pressL t = Q at hql K4 ⊢
    go_wp2_with fail
    refine (open_is p _ (P ++ Q) _ _ (bytes_app P Q) (by rw [List.length_append]; omega) (by omega) (HE.out.below HB8.out)).mono ?_
    rintro e w9 ⟨v9, rfl, hv9, hb9⟩
    rw [K4.out] at hv9 ⊢
    obtain rfl := hv9.isNil
    have HB9 := Lib.hid (HB8.out.trans (hb9.mono HB8.out.size))
    have hst := bytes_app s t
    clear hb9 hv9
    go_wp2
    go_ret
    exact ⟨rfl, HB9.out⟩

theorem pressBack_any (p : Nat → Addr) (s t : ByteArray) (most : Int) (w : World) (hE : Env p w) (hT : Tab w) (hs : s.size ≤ maxLen) (ht : t.size ≤ maxLen) :
    Calls Tryd.prog 3 #[.string s, .string t, .int .i64 most] w fun e w' => e = .returned (.bool true) ∧ Below w.heap.size w w' := by
  by_cases h : 500 < s.size ∨ 500 < t.size
  · exact pressBack_long p s t most w hE hT hs ht h
  · obtain ⟨s, rfl⟩ : ∃ l : List UInt8, s = ⟨l.toArray⟩ := ⟨s.data.toList, by cases s; simp⟩
    obtain ⟨t, rfl⟩ : ∃ l : List UInt8, t = ⟨l.toArray⟩ := ⟨t.data.toList, by cases t; simp⟩
    simp only [ByteArray.size, List.size_toArray] at h
    exact pressBack_main p s t most w hE hT (by omega) (by omega)
end Go.Proofs.YtjdbpabniaclaaaDoor
/-
  Errors of errors.New's make that a row lists among other variables: each holds a pointer of its own, to an unmarked block: over this seat's translation.
-/
namespace Go.Proofs.YtjdbpabniaclaaaDoor
open Go.ChangeShapes Go.WideShapes Go.RowKit

theorem Tryd.own : ownKnob Tryd.prog.godebug = none := by kernel_rfl
theorem Tryd.cells58 : Tryd.prog.cellsOf 141 = 1 := by kernel_rfl
theorem Tryd.cells9 : Tryd.prog.cellsOf 9 = 1 := by kernel_rfl

/-- Errors of errors.New's make, listed one behind the other: each variable holds a pointer, no two the same, each to an unmarked block. -/
theorem sentinels_of_laid {P : Program} {nm : String} {W : World} {ti tp te ts : TypeId} {ms : Array (String × TypeId)} {f : Field}
    (hi : P.underlying ti = some (.interface ms)) (hrow : ∀ u, P.typeName? 3 u = some nm → u = tp)
    (hp : P.underlying tp = some (.pointer te)) (he : P.underlying te = some (.struct #[f])) (hft : f.type = ts) (hfo : f.offset = 0) (hs : P.underlying ts = some .string) (hc : P.cellsOf te = 1) (hcs : P.cellsOf ts = 1) :
    ∀ (L : List (String × List UInt8)) (ps : List MemPlace),
    (∀ x ∈ L, ∃ g, P.globalNamed x.1 = some g ∧ (P.globals[g]?).map (·.type) = some ti) →
    DataW.LaidVars P W (L.map fun x => (x.1, .iface nm (.ptr (.agg [.lit (.string x.2)])))) ps → ps.Nodup →
    (∀ b off, MemPlace.cell b off ∈ ps → (∃ c t, W.heap[b]? = some (.cells c t (0, 0))) ∧ ∀ u v, W.cell? ⟨b, off, none⟩ = some (.iface u v) → Value.okWide P W .any 0 u v) →
    ∃ zs : List Addr, zs.length = L.length ∧ zs.Nodup ∧ (∀ a ∈ zs, MemPlace.cell a.block a.off ∈ ps) ∧
      ∀ (i : Nat) (x : String × List UInt8) (a : Addr), L[i]? = some x → zs[i]? = some a → W.var? P x.1 = some #[.iface tp (.pointer (some a))]
  | [], ps, _, _, _, _ => ⟨[], rfl, List.nodup_nil, (fun _ h => by cases h), (fun _ _ _ h => by simp at h)⟩
  | x :: L, ps, hg, hv, hnd, hrows => by
    obtain ⟨g', t', cs, fuel, p, q, hg', ht', hv', hd', hq, rfl⟩ := hv
    obtain ⟨g, hg0, ht0⟩ := hg x List.mem_cons_self
    obtain rfl := Option.some.inj (hg0.symm.trans hg')
    obtain rfl := Option.some.inj (ht0.symm.trans ht')
    obtain ⟨l0⟩ := cs
    have ok0 : ∀ u v, l0 = [.iface u v] → Value.okWide P W .any 0 u v := fun u v e => by
      subst e
      exact (hrows g 0 (by simp [MemPlace.row])).2 u v (by simpa using World.var?_cell hg' hv' 0)
    obtain ⟨a, s, rfl, hca, hsa, hza, rfl⟩ := errorString_of_trod hi hrow hp he hft hfo hs hc hcs hd' ok0
    have hnq : q.Nodup := List.Nodup.sublist (List.sublist_append_right _ _) hnd
    obtain ⟨zs, hl, hn, hm, hr⟩ := sentinels_of_laid hi hrow hp he hft hfo hs hc hcs L q (fun y hy => hg y (List.mem_cons_of_mem _ hy)) hq hnq (fun b off hb => hrows b off (List.mem_append_right _ hb))
    refine ⟨a :: zs, by simp [hl], ?_, ?_, ?_⟩
    · refine List.nodup_cons.2 ⟨fun ha => ?_, hn⟩
      have h1 : MemPlace.cell a.block a.off ∈ q := hm a ha
      have h2 := (List.nodup_append.1 hnd).2.2 (MemPlace.cell a.block a.off) (by simp [MemPlace.row]) _ h1
      exact h2 rfl
    · intro b hb
      rcases List.mem_cons.1 hb with rfl | hb
      · simp [MemPlace.row]
      · exact List.mem_append_right _ (hm b hb)
    · intro i y b hy hb
      cases i with
      | zero =>
        simp only [List.getElem?_cons_zero, Option.some.injEq] at hy hb
        subst hy hb
        exact hv'
      | succ i =>
        simp only [List.getElem?_cons_succ] at hy hb
        exact hr i y b hy hb

theorem Tryd.star : "*" ++ "errors.errorString" = "*errors.errorString" := by decide +kernel
theorem Tryd.row56 (u : TypeId) (h : Tryd.prog.typeName? 3 u = some "*errors.errorString") : u = 122 :=
  typeName_ptr_named (nm := "errors.errorString") (by rw [Tryd.star]; kernel_rfl) (by kernel_rfl) (by decide) u (by rw [Tryd.star]; exact h)

/-- The datum of an error as a row lists it. -/
def errData (x : String × List UInt8) : String × DataW Unit := (x.1, .iface "*errors.errorString" (.ptr (.agg [.lit (.string x.2)])))

/-- Out of a row's whole list: its errors, by their names' numbers. -/
theorem errs_of_laid {W : World} (L : List (String × DataW Unit)) (texts : List (String × List UInt8)) (nums : List Nat) (keep : String × DataW Unit → Bool)
    (hf : L.filter keep = texts.map errData)
    (hg : ((List.range texts.length).all fun i => match texts[i]? with | some x => Tryd.prog.globalNamed x.1 == some (nums.getD i 0) && (Tryd.prog.globals[nums.getD i 0]?).map (·.type) == some 25 | none => false) = true)
    (h : laidMet Tryd.prog L W) :
    ∃ z : Nat → Addr, (∀ k, k < texts.length → W.cell? ⟨nums.getD k 0, 0, none⟩ = some (.iface 122 (.pointer (some (z k))))) ∧ (∀ k, k < texts.length → ∃ c t, W.heap[(z k).block]? = some (.cells c t (0, 0))) ∧ ∀ k l, k < texts.length → l < texts.length → z k = z l → k = l := by
  have h' := h.filter keep
  rw [hf] at h'
  obtain ⟨ps, hv, hnd, hrows⟩ := h'
  have hglob : ∀ (i : Nat) (x : String × List UInt8), texts[i]? = some x → Tryd.prog.globalNamed x.1 = some (nums.getD i 0) ∧ (Tryd.prog.globals[nums.getD i 0]?).map (·.type) = some 25 := fun i x hx => by
    have hl := (List.getElem?_eq_some_iff.1 hx).1
    have := List.all_eq_true.1 hg i (List.mem_range.2 hl)
    rw [hx] at this
    simpa using this
  obtain ⟨zs, hl, hn, hm, hr⟩ := sentinels_of_laid Tryd.underlying25 Tryd.row56 Tryd.underlying122 Tryd.underlying141 rfl rfl Tryd.underlying9 Tryd.cells58 Tryd.cells9 texts ps
    (fun x hx => by
      obtain ⟨i, hi, e⟩ := List.getElem_of_mem hx
      exact ⟨nums.getD i 0, hglob i x (by rw [List.getElem?_eq_getElem hi, e])⟩) hv hnd hrows
  have hzs : ∀ k, k < texts.length → ∃ x, texts[k]? = some x ∧ zs[k]? = some (zs.getD k ⟨0, 0, none⟩) := fun k hk => by
    have h2 : k < zs.length := by omega
    exact ⟨texts[k], List.getElem?_eq_getElem hk, by rw [List.getD_eq_getElem?_getD, List.getElem?_eq_getElem h2]; rfl⟩
  refine ⟨fun k => zs.getD k ⟨0, 0, none⟩, fun k hk => ?_, fun k hk => ?_, fun k l hk hl' e => ?_⟩
  · obtain ⟨x, hx, ha⟩ := hzs k hk
    have := hr k x _ hx ha
    simpa using World.var?_cell (hglob k x hx).1 this 0
  · obtain ⟨x, hx, ha⟩ := hzs k hk
    exact (hrows _ _ (hm _ (List.mem_of_getElem? ha))).1
  · obtain ⟨x, hx, ha⟩ := hzs k hk
    obtain ⟨y, hy, hb⟩ := hzs l hl'
    have e' : zs.getD k ⟨0, 0, none⟩ = zs.getD l ⟨0, 0, none⟩ := e
    rw [← e'] at hb
    exact (List.getElem?_inj (by omega) hn).1 (ha.trans hb.symm)
end Go.Proofs.YtjdbpabniaclaaaDoor
/-
  What the rows of PressBack and PressTells list of the package-level variables gives the walks; and a world that meets the lists: the one that the program's own initialisers leave.
-/
namespace Go.Proofs.YtjdbpabniaclaaaDoor
open Go.ChangeShapes Go.WideShapes Go.RowKit

theorem Tryd.rt : (Tryd.prog.cutTypes.find? (·.1 == "internal/reflectlite.rtype")).map (·.2) = some 97 := by kernel_rfl
theorem Tryd.size : Tryd.prog.types.size = 153 := by kernel_rfl
theorem Tryd.oneRow : ((List.range 153).filter fun t => Tryd.prog.rowNamed t [101, 114, 114, 111, 114]) = [25] := by kernel_rfl
theorem Tryd.gErrType : Tryd.prog.globalNamed "errors.errorType" = some 13 := by kernel_rfl

def apiTextsP : List (String × List UInt8) := [
  ("chandlery/api.ErrText", [99, 104, 97, 110, 100, 108, 101, 114, 121, 58, 32, 116, 101, 120, 116]),
  ("chandlery/api.ErrBound", [99, 104, 97, 110, 100, 108, 101, 114, 121, 58, 32, 98, 111, 117, 110, 100]),
  ("chandlery/api.ErrShape", [99, 104, 97, 110, 100, 108, 101, 114, 121, 58, 32, 115, 104, 97, 112, 101]),
  ("chandlery/api.ErrKind", [99, 104, 97, 110, 100, 108, 101, 114, 121, 58, 32, 107, 105, 110, 100]),
  ("chandlery/api.ErrName", [99, 104, 97, 110, 100, 108, 101, 114, 121, 58, 32, 110, 97, 109, 101]),
  ("chandlery/api.ErrNone", [99, 104, 97, 110, 100, 108, 101, 114, 121, 58, 32, 110, 111, 110, 101]),
  ("chandlery/api.ErrExist", [99, 104, 97, 110, 100, 108, 101, 114, 121, 58, 32, 101, 120, 105, 115, 116]),
  ("chandlery/api.ErrFull", [99, 104, 97, 110, 100, 108, 101, 114, 121, 58, 32, 102, 117, 108, 108]),
  ("chandlery/api.ErrOrder", [99, 104, 97, 110, 100, 108, 101, 114, 121, 58, 32, 111, 114, 100, 101, 114]),
  ("chandlery/api.ErrOut", [99, 104, 97, 110, 100, 108, 101, 114, 121, 58, 32, 111, 117, 116]),
  ("chandlery/api.ErrClash", [99, 104, 97, 110, 100, 108, 101, 114, 121, 58, 32, 99, 108, 97, 115, 104]),
  ("chandlery/api.ErrSum", [99, 104, 97, 110, 100, 108, 101, 114, 121, 58, 32, 115, 117, 109]),
  ("chandlery/api.ErrOff", [99, 104, 97, 110, 100, 108, 101, 114, 121, 58, 32, 111, 102, 102])]
def isApiP (x : String × DataW Unit) : Bool := apiTextsP.any (·.1 == x.1)
def isPowP (x : String × DataW Unit) : Bool := x.1 == "internal/strconv.uint64pow10"
def apiNumsP : List Nat := [1, 2, 3, 4, 5, 6, 7, 0, 8, 9, 10, 11, 12]
def handleP : List (String × DataW Unit) := [("errors.errorType", Rows.laid_errors_errorType)]

theorem tabP_of_laid {W : World} {L : List (String × DataW Unit)} (hf : L.filter isPowP = [("internal/strconv.uint64pow10", Lib.tabData .u64 Lib.pow10Tab)]) (h : laidMet Tryd.prog L W) : Tab W := by
  have h' := h.filter isPowP
  rw [hf] at h'
  exact Lib.tabIs_of_head (g := 14) (t := 113) (e := 90) (n := 20) Tryd.gPowT (by kernel_rfl) Tryd.underlying113 Tryd.underlying90 (by kernel_rfl) (by kernel_rfl) h'

/-- Out of a list like those of these rows. -/
theorem press_envs {L : List (String × DataW Unit)} {W : World} (hh : (L.filter fun x => x.2.handleName?.isSome) = handleP) (ha : ((L.filter fun x => x.2.handleName?.isNone).filter isApiP) = apiTextsP.map errData)
    (hw : ((L.filter fun x => x.2.handleName?.isNone).filter isPowP) = [("internal/strconv.uint64pow10", Lib.tabData .u64 Lib.pow10Tab)]) (h : laidMetH Tryd.prog L W) : ∃ p, Env p W ∧ Tab W := by
  obtain ⟨hl, hk⟩ := laidMetH_iff.1 h
  rw [hh] at hk
  obtain ⟨p, h1, h2, h3⟩ := errs_of_laid _ apiTextsP apiNumsP isApiP ha (by kernel_rfl) hl
  refine ⟨p, ⟨h1 0 (by decide), h1 1 (by decide), h1 2 (by decide), h1 3 (by decide), h1 4 (by decide), h1 5 (by decide), h1 6 (by decide), h1 7 (by decide), h1 8 (by decide), h1 9 (by decide), h1 10 (by decide), h1 11 (by decide), h1 12 (by decide), ?_, h2, h3⟩, tabP_of_laid hw hl⟩
  obtain ⟨name, u, ty, e1, e2, e3, e4, e5⟩ := hk _ (List.mem_singleton.2 rfl)
  have en : name = [101, 114, 114, 111, 114] := (Option.some.inj e1).symm
  subst en
  obtain rfl := Option.some.inj (Tryd.rt.symm.trans e2)
  have hm : ty ∈ (List.range 153).filter fun t => Tryd.prog.rowNamed t [101, 114, 114, 111, 114] := List.mem_filter.2 ⟨List.mem_range.2 (by rw [← Tryd.size]; exact e3), e4⟩
  rw [Tryd.oneRow] at hm
  obtain rfl := List.mem_singleton.1 hm
  have hh : typeHandle Tryd.prog 25 = .pointer (some ⟨18, 25, none⟩) := by kernel_rfl
  rw [hh] at e5
  simpa using World.var?_cell Tryd.gErrType e5 0

theorem back_envs {W : World} (h : laidMetH Tryd.prog Rows.pressBackRow.laid W) : ∃ p, Env p W ∧ Tab W := press_envs (by kernel_rfl) (by kernel_rfl) (by kernel_rfl) h
theorem tells_envs {W : World} (h : laidMetH Tryd.prog Rows.pressTellsRow.laid W) : ∃ p, Env p W ∧ Tab W := press_envs (by kernel_rfl) (by kernel_rfl) (by kernel_rfl) h
/-- The heap that the program's own initialisers leave meets the lists. -/
theorem back_met (os : Os) (args : Array Value) : laidMetH Tryd.prog Rows.pressBackRow.laid ((World.doorLaid Tryd.prog 278 os).forCall (fun _ _ => 0) ⟨#[], args, []⟩).memory :=
  laidMetH_of_parts3 (fuel := 8) (laidMet_of_run' 8 (by kernel_rfl) (by kernel_rfl)) (by kernel_rfl) (by kernel_rfl)
theorem tells_met (os : Os) (args : Array Value) : laidMetH Tryd.prog Rows.pressTellsRow.laid ((World.doorLaid Tryd.prog 278 os).forCall (fun _ _ => 0) ⟨#[], args, []⟩).memory :=
  laidMetH_of_parts3 (fuel := 8) (laidMet_of_run' 8 (by kernel_rfl) (by kernel_rfl)) (by kernel_rfl) (by kernel_rfl)
end Go.Proofs.YtjdbpabniaclaaaDoor
