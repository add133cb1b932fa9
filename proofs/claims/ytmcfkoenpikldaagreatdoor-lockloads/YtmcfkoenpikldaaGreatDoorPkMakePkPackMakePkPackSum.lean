/-
  Own texts of the proof, joined by program: PkMake, PkPackMake, PkPackSum.
-/
import Derived.Test.YtmcfkoenpikldaaGreatDoorToldPkPackRead
import Derived.Test.YtmcfkoenpikldaaGreatDoorWritten
import Derived.Deep.RegionHeld3
import Derived.Test.YtmcfkoenpikldaaGreatDoorPackPurePackFactsWantPure
import Derived.Test.YtmcfkoenpikldaaGreatDoorSumTreeHeldPureHeldFacts
/-
  Package pack: head: a contract, over this seat's translation.
-/
namespace Go.Proofs.YtmcfkoenpikldaaGreatDoor
open Go.RowKit Go.Shelf

theorem line_of (f : F) : lineL f = f.p ++ [32] ++ (if f.r = true then [120] else [102]) ++ [32] ++ digitsL f.t.length := by
  unfold lineL
  cases f.r <;> simp

/-- Four texts behind a first one, one after another. -/
theorem adds (a m d : List UInt8) (ha : a.length ≤ 100000) (hm : m.length ≤ 1) (hd : d.length ≤ 6) : ∃ x1 x2 x3 x4 : List UInt8,
    (∀ W, (Op.stringOp .add ⟨a.toArray⟩ ⟨#[32]⟩).run Tryz.prog W = .ok (.string ⟨x1.toArray⟩) W) ∧ (∀ W, (Op.stringOp .add ⟨x1.toArray⟩ ⟨m.toArray⟩).run Tryz.prog W = .ok (.string ⟨x2.toArray⟩) W) ∧
    (∀ W, (Op.stringOp .add ⟨x2.toArray⟩ ⟨#[32]⟩).run Tryz.prog W = .ok (.string ⟨x3.toArray⟩) W) ∧ (∀ W, (Op.stringOp .add ⟨x3.toArray⟩ ⟨d.toArray⟩).run Tryz.prog W = .ok (.string ⟨x4.toArray⟩) W) ∧ x4 = a ++ [32] ++ m ++ [32] ++ d :=
  ⟨a ++ [32], a ++ [32] ++ m, a ++ [32] ++ m ++ [32], a ++ [32] ++ m ++ [32] ++ d, fun W => run_string_add_lists (P := Tryz.prog) W a [32] (by omega) (by simp), fun W => run_string_add_lists (P := Tryz.prog) W _ m (by simp; omega) (by omega),
    fun W => run_string_add_lists (P := Tryz.prog) W _ [32] (by simp; omega) (by simp), fun W => run_string_add_lists (P := Tryz.prog) W _ d (by simp; omega) (by omega), rfl⟩

set_option maxRecDepth 100000 in
set_option maxHeartbeats 2000000 in
theorem packHead_any (p : Nat → Addr) (f : F) (w : World) (hS : SEnv p w) (hp : f.p.length ≤ 100000) (ht : f.t.length ≤ 500000) :
    Calls Tryz.prog 163 #[fv f] w fun e w' => e = .returned (.string ⟨(lineL f).toArray⟩) ∧ Below w.heap.size w w' := by
  obtain ⟨W, hW⟩ : ∃ W, W = w.alloc (.cells #[sv f.p, .bool f.r, sv f.t] 103) := ⟨_, rfl⟩
  obtain ⟨g0, g1, g2, hBW⟩ := box_three (w := w) (w' := W) (x := sv f.p) (y := .bool f.r) (z := sv f.t) (T := 103) (by rw [hW]; exact Below.refl _ _)
  have HW := Lib.hid hBW
  have HI : Calls Tryz.prog 140 #[.int .i64 f.t.length] W.drew fun e w' => e = .returned (.string ⟨(digitsL f.t.length).toArray⟩) ∧ Below W.drew.heap.size W.drew w' := itoa_any f.t.length W.drew (by omega) (hS.below hBW.drew).tab
  have HL := Lib.hid (line_of f)
  have hdl : (digitsL f.t.length).length ≤ 6 := digits_length 5 _ (by omega)
  have hbl : w.heap.size < W.heap.size := by rw [hW]; simp
  obtain ⟨fp, fr, ft⟩ := f
  simp only at hp ht HI HL hdl g0 g1 g2 hW
  generalize digitsL ft.length = ds at HI HL hdl
  clear hS hBW
  cases fr with
  | true =>
    obtain ⟨x1, x2, x3, x4, A1, A2, A3, A4, hx⟩ := adds fp [120] ds hp (by simp) hdl
    have HX : Hid (lineL ⟨fp, true, ft⟩ = x4) := by
      show lineL ⟨fp, true, ft⟩ = x4
      rw [HL.out, hx]
      rfl
    clear hx HL
    go_enter Tryz.func163, Tryz.ntmps163
    go_wp2_with fail
    rw [← hW]
    clear hW
    go_region_held3 (fun w' => w'.cell? ⟨w.heap.size, 0, none⟩ = some (sv fp) ∧ w'.cell? ⟨w.heap.size, 2, none⟩ = some (sv ft)) (go_keep) (first
      | (go_at_call 140; (with_reducible refine HI.mono ?_); rintro e w1 ⟨rfl, hb1⟩; have d0 := (hb1.cell (p := ⟨w.heap.size, 0, none⟩) hbl).trans g0; have d2 := (hb1.cell (p := ⟨w.heap.size, 2, none⟩) hbl).trans g2; have HB1 := Lib.hid (HW.out.drew.trans (hb1.mono HW.out.size)); clear hb1))
    all_goals go_wp2
    all_goals go_ret
    all_goals exact ⟨by rw [HX.out]; rfl, HB1.out⟩
  | false =>
    obtain ⟨x1, x2, x3, x4, A1, A2, A3, A4, hx⟩ := adds fp [102] ds hp (by simp) hdl
    have HX : Hid (lineL ⟨fp, false, ft⟩ = x4) := by
      show lineL ⟨fp, false, ft⟩ = x4
      rw [HL.out, hx]
      rfl
    clear hx HL
    go_enter Tryz.func163, Tryz.ntmps163
    go_wp2_with fail
    rw [← hW]
    clear hW
    go_region_held3 (fun w' => w'.cell? ⟨w.heap.size, 0, none⟩ = some (sv fp) ∧ w'.cell? ⟨w.heap.size, 2, none⟩ = some (sv ft)) (go_keep) (first
      | (go_at_call 140; (with_reducible refine HI.mono ?_); rintro e w1 ⟨rfl, hb1⟩; have d0 := (hb1.cell (p := ⟨w.heap.size, 0, none⟩) hbl).trans g0; have d2 := (hb1.cell (p := ⟨w.heap.size, 2, none⟩) hbl).trans g2; have HB1 := Lib.hid (HW.out.drew.trans (hb1.mono HW.out.size)); clear hb1))
    all_goals go_wp2
    all_goals go_ret
    all_goals exact ⟨by rw [HX.out]; rfl, HB1.out⟩
end Go.Proofs.YtmcfkoenpikldaaGreatDoor
/-
  Package pack: Make: a contract, over this seat's translation.
-/
namespace Go.Proofs.YtmcfkoenpikldaaGreatDoor
open Go.RowKit Go.Shelf

theorem pack_bound {l : List F} (h1 : ∀ f ∈ l, f.p.length ≤ 40000) (h2 : ∀ f ∈ l, f.t.length ≤ 500000) : (packL l).length ≤ 540020 * l.length := by
  induction l with
  | nil => simp [packL]
  | cons f l ih =>
    have i := ih (fun g hg => h1 g (by simp [hg])) (fun g hg => h2 g (by simp [hg]))
    have a := h1 f (by simp)
    have b := h2 f (by simp)
    have c := digits_length 5 f.t.length (by omega)
    have d := fileL_length f
    rw [packL_cons, List.length_append, List.length_cons]
    omega
theorem pack_take {l : List F} {q : Nat} (h : q < l.length) : packL (l.take (q + 1)) = packL (l.take q) ++ fileL l[q] := by
  rw [List.take_succ_eq_append_getElem h, packL_snoc]

/-- What Make answers. -/
def makeL (l : List F) : List UInt8 := if (treeFault l).1 = 0 then packL l else []
theorem make_yes {l : List F} (h : (treeFault l).1 = 0) : makeL l = packL l := by unfold makeL; rw [if_pos h]
theorem make_no {l : List F} (h : (treeFault l).1 ≠ 0) : makeL l = [] := by unfold makeL; rw [if_neg h]

/-- A file's box, behind what a builder writes. -/
theorem box_kept {w w' : World} {k b : Nat} {c : Array Value} {fz : Nat × Nat} (h : Lib.OthersKept 5 (some b) w w') (hk : w.heap[k]? = some (.cells c 103 fz)) (hb : k ≠ b) : w'.heap[k]? = some (.cells c 103 fz) :=
  h k _ hk (fun e => hb (Option.some.inj e)) (fun c' fz' e => by cases e)
theorem box_cell {w : World} {k : Nat} {x y z : Value} {T : TypeId} {fz : Nat × Nat} (h : w.heap[k]? = some (.cells #[x, y, z] T fz)) : w.cell? ⟨k, 0, none⟩ = some x ∧ w.cell? ⟨k, 1, none⟩ = some y ∧ w.cell? ⟨k, 2, none⟩ = some z := by
  refine ⟨?_, ?_, ?_⟩ <;> simp [World.cell?, h]

set_option maxRecDepth 100000 in
set_option maxHeartbeats 4000000 in
theorem packMake_any (p : Nat → Addr) (l : List F) (a : Option Addr) (ca : Nat) (w : World) (hE : Env p w) (hS : SEnv p w) (hl : LiesAt w a l) (hca : l.length ≤ ca) (hs : Small l) :
    Calls Tryz.prog 108 #[.slice a l.length ca] w fun e w' => (∃ v, e = .returned (.tuple #[.string ⟨(makeL l).toArray⟩, v]) ∧ ErrAt p w' v (treeFault l).1 (treeFault l).2) ∧ Below w.heap.size w w' := by
  have HE := Lib.hid hE
  have HS := Lib.hid hS
  have HL := Lib.hid hl
  have HSM := Lib.hid hs
  have hfew := hs.few
  clear hE hS hl hs
  go_enter Tryz.func108, Tryz.ntmps108
  go_wp2_with fail
  refine (checkTree_any p l a ca _ HE.out HL.out hca HSM.out).mono ?_
  rintro e w1 ⟨⟨v, rfl, hv⟩, hb1⟩
  have HB1 := Lib.hid hb1
  clear hb1
  by_cases hz : (treeFault l).1 = 0
  · have HM := Lib.hid (make_yes hz)
    have HF := Lib.hid (treeFault_zero hz)
    rw [hz] at hv
    have := hv.isNil
    subst this
    have HBD := Lib.hid (built_fresh w1)
    have hB1s := HB1.out.size
    clear hv hz
    go_wp2_with fail
    obtain ⟨W0, hW0⟩ : ∃ W0, W0 = w1.alloc (.cells #[.pointer none, .slice none 0 0] 148) := ⟨_, rfl⟩
    have HB0 : Hid (Below w.heap.size w W0) := by
      show Below _ _ _
      rw [hW0]
      exact HB1.out.alloc HB1.out.size _
    rw [← hW0] at HBD ⊢
    clear hW0 HB1
    generalize w1.heap.size = b at HBD hB1s ⊢
    clear w1
    go_loopw [15] (fun i wr => ∃ q : Nat, q ≤ l.length ∧ i = .int .i64 q ∧ Built b b (packL (l.take q)) wr ∧ Below w.heap.size w wr) (fun i _ => l.length - (intOf i).toNat)
    case atStart => exact ⟨0, by omega, rfl, by simpa [packL] using HBD.out, HB0.out⟩
    case round =>
      obtain ⟨q, hq, rfl, hbd, hb⟩ := hrel
      have HBQ := Lib.hid hbd
      have HB := Lib.hid hb
      clear hbd hb
      by_cases hlt : q < l.length
      · have hlt' : (q : Int) < (l.length : Int) := by omega
        obtain ⟨bb, o, rfl, c0, c1, c2⟩ := (HL.out.below HB.out).at hlt
        have hpl := HSM.out.path _ (List.getElem_mem hlt)
        have htl := HSM.out.text _ (List.getElem_mem hlt)
        have hlen := pack_bound (l := l.take q) (fun f hf => HSM.out.path f (List.mem_of_mem_take hf)) (fun f hf => HSM.out.text f (List.mem_of_mem_take hf))
        have htk : (l.take q).length ≤ q := by rw [List.length_take]; omega
        have HPK := Lib.hid (pack_take hlt)
        generalize l[q] = f at c0 c1 c2 hpl htl HPK
        generalize packL (l.take q) = pk at HBQ HPK hlen
        have hpk : pk.length ≤ 60000000000 := by omega
        clear hlen htk
        have hln : (lineL f).length ≤ 40010 := by
          have c := digits_length 5 f.t.length (by omega)
          unfold lineL
          simp
          omega
        go_wp2_with fail
        obtain ⟨W, hW⟩ : ∃ W, W = wr.alloc (.cells #[sv f.p, .bool f.r, sv f.t] 103) := ⟨_, rfl⟩
        have hBW : Below wr.heap.size wr W := by rw [hW]; exact (Below.refl _ _).alloc (Nat.le_refl _) _
        have hbx : W.heap[wr.heap.size]? = some (.cells #[sv f.p, .bool f.r, sv f.t] 103) := by rw [hW]; exact heap_new _ _
        have HBW := Lib.hid (HB.out.trans (hBW.mono HB.out.size))
        have HQ1 := Lib.hid (HBQ.out.below hBW)
        have hne : wr.heap.size ≠ b := by have := HBQ.out.lt; omega
        rw [← hW]
        clear hW hBW
        generalize wr.heap.size = k at hbx hne ⊢
        clear HBQ c0 c1 c2
        refine (packHead_any p f _ (HS.out.below HBW.out) (by omega) htl).mono ?_
        rintro e w2 ⟨rfl, hb2⟩
        have hbx2 := (hb2.block k (Array.getElem?_eq_some_iff.1 hbx).1).trans hbx
        have HB2 := Lib.hid (HBW.out.trans (hb2.mono HBW.out.size))
        have HQ2 := Lib.hid (HQ1.out.below hb2)
        clear hb2 hbx HQ1
        go_wp2_with fail
        refine (built_write b b pk (lineL f) _ HQ2.out (by omega) (Nat.le_of_lt HQ2.out.lt)).mono ?_
        rintro e w3 ⟨rfl, hq3, hb3, ho3⟩
        have hbx3 := box_kept ho3 hbx2 hne
        have HB3 := Lib.hid (HB2.out.trans (hb3.mono hB1s))
        have HQ3 := Lib.hid hq3
        clear hq3 hb3 ho3 hbx2 HQ2
        go_wp2_with fail
        refine (built_write b b (pk ++ lineL f) [10] _ HQ3.out (by simp; omega) (Nat.le_of_lt HQ3.out.lt)).mono ?_
        rintro e w4 ⟨rfl, hq4, hb4, ho4⟩
        have hbx4 := box_kept ho4 hbx3 hne
        have HB4 := Lib.hid (HB3.out.trans (hb4.mono hB1s))
        have HQ4 := Lib.hid hq4
        obtain ⟨_, _, k2⟩ := box_cell hbx4
        clear hq4 hb4 ho4 hbx3 HQ3 hbx4
        go_wp2_with fail
        refine (built_write b b (pk ++ lineL f ++ [10]) f.t _ HQ4.out (by simp; omega) (Nat.le_of_lt HQ4.out.lt)).mono ?_
        rintro e w5 ⟨rfl, hq5, hb5, _⟩
        have HB5 := Lib.hid (HB4.out.trans (hb5.mono hB1s))
        have HQ5 := Lib.hid hq5
        clear hq5 hb5 k2 HQ4
        go_wp2_with fail
        refine (built_write b b (pk ++ lineL f ++ [10] ++ f.t) [10] _ HQ5.out (by simp; omega) (Nat.le_of_lt HQ5.out.lt)).mono ?_
        rintro e w6 ⟨rfl, hq6, hb6, _⟩
        have HB6 := Lib.hid (HB5.out.trans (hb6.mono hB1s))
        have HQ6 := Lib.hid hq6
        clear hq6 hb6 HQ5
        go_wp2
        go_roundw
        case rel =>
          refine ⟨q + 1, by omega, by go_num, ?_, HB6.out⟩
          rw [HPK.out]
          have e : pk ++ fileL f = pk ++ lineL f ++ [10] ++ f.t ++ [10] := by simp [fileL]
          rw [e]
          exact HQ6.out
        case measure => simp [intOf]; omega
      · obtain rfl : q = l.length := by omega
        rw [List.take_length] at HBQ
        go_wp2_with fail
        refine (built_string b b _ _ HBQ.out (Nat.le_of_lt HBQ.out.lt)).mono ?_
        rintro e w2 ⟨rfl, hb2⟩
        have HB2 := Lib.hid (HB.out.trans (hb2.mono hB1s))
        clear hb2
        go_wp2
        go_ret2
        exact ⟨⟨_, by rw [HM.out]; rfl, by rw [HF.out]; exact ErrAt.fine p _⟩, HB2.out⟩
  · have HM := Lib.hid (make_no hz)
    obtain ⟨T, u, rfl⟩ := hv.some hz
    have HV := Lib.hid hv
    clear hv hz
    go_wp2
    go_ret2
    exact ⟨⟨_, by rw [HM.out]; rfl, HV.out⟩, HB1.out⟩
end Go.Proofs.YtmcfkoenpikldaaGreatDoor
/-
  Package pack: Sum: a contract, over this seat's translation.
-/
namespace Go.Proofs.YtmcfkoenpikldaaGreatDoor
open Go.RowKit Go.Shelf

set_option maxRecDepth 100000 in
set_option maxHeartbeats 2000000 in
theorem packSum_any (p : Nat → Addr) (l : List F) (a : Option Addr) (ca : Nat) (w : World) (hE : Env p w) (hS : SEnv p w) (hl : LiesAt w a l) (hca : l.length ≤ ca) (hs : Small l) :
    Calls Tryz.prog 56 #[.slice a l.length ca] w fun e w' => (∃ v, e = .returned (.tuple #[.int .i64 (sumT l), v]) ∧ ErrAt p w' v (treeFault l).1 (treeFault l).2) ∧ Below w.heap.size w w' := by
  have HM := Lib.hid (packMake_any p l a ca w hE hS hl hca hs)
  clear hE hS hl hca hs
  go_enter Tryz.func56, Tryz.ntmps56
  go_wp2_with fail
  refine HM.out.mono ?_
  rintro e w1 ⟨⟨v, rfl, hv⟩, hb1⟩
  have HB1 := Lib.hid hb1
  by_cases hz : (treeFault l).1 = 0
  · have HF := Lib.hid (treeFault_zero hz)
    have HU := Lib.hid (sum_yes hz)
    have hps := pack_small hz
    rw [hz] at hv
    have := hv.isNil
    subst this
    rw [make_yes hz]
    clear hv hz hb1 HM
    go_wp2_with fail
    refine (pkOf_any (packL l) _ (by omega)).mono ?_
    rintro e w2 ⟨rfl, rfl⟩
    go_wp2
    go_ret2
    exact ⟨⟨_, by rw [HU.out]; rfl, by rw [HF.out]; exact ErrAt.fine p _⟩, HB1.out⟩
  · have HU := Lib.hid (sum_no hz)
    obtain ⟨T, u, rfl⟩ := hv.some hz
    have HV := Lib.hid hv
    clear hv hz hb1 HM
    go_wp2
    go_ret2
    exact ⟨⟨_, by rw [HU.out]; rfl, HV.out⟩, HB1.out⟩
end Go.Proofs.YtmcfkoenpikldaaGreatDoor
