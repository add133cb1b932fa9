/-
  Own texts of the proof, joined by program: PkLockFind, PkLockDrop.
-/
import Derived.Test.YtmeipangcgdinaaGreatDoorPkLockSetPkLockText
import Derived.Test.YtmeipangcgdinaaGreatDoorShelf3
import Derived.Test.YtmeipangcgdinaaGreatDoorWtRowWtInsertWtInsertGrowWtDelete
/-
  Package lock: Find, by slices.IndexFunc over wants: contracts, over this seat's translation.
-/
namespace Go.Proofs.YtmeipangcgdinaaGreatDoor
open Go.RowKit Go.Shelf

/-- Where a name stands; -1: nowhere. -/
def findL (l : List Wt) (t : List UInt8) : Int := match l.findIdx? (fun y => y.n == t) with | some i => (i : Int) | none => -1
theorem idx_is (q : Wt → Bool) (x : Wt) : ∀ (l : List Wt) (i : Nat), Lib.idxByFrom (fun _ y => q y) x l i = match l.findIdx? q with | some k => ((i + k : Nat) : Int) | none => -1
  | [], _ => rfl
  | y :: r, i => by
    have ih := idx_is q x r (i + 1)
    rw [List.findIdx?_cons]
    unfold Lib.idxByFrom
    cases h : q y with
    | true => simp
    | false =>
      simp only [Bool.false_eq_true, if_false]
      rw [ih]
      cases r.findIdx? q with
      | none => rfl
      | some k =>
      show ((i + 1 + k : Nat) : Int) = ((i + (k + 1) : Nat) : Int)
      congr 1; omega
theorem find_nowhere {l : List Wt} {t : List UInt8} (h : ∀ x ∈ l, x.n ≠ t) : findL l t = -1 := by
  unfold findL
  rw [List.findIdx?_eq_none_iff.2 (fun x hx => by simpa using h x hx)]
theorem find_there {l : List Wt} (h : Lock l) {i : Nat} (hi : i < l.length) : findL l l[i].n = i := by
  have : l.findIdx? (fun y => y.n == l[i].n) = some i := by
    rw [List.findIdx?_eq_some_iff_getElem]
    refine ⟨hi, by simp, fun j hj => ?_⟩
    have := h.le (by omega) hi hj
    simp only [beq_iff_eq]
    intro e
    rw [e, less_irrefl] at this
    cases this
  unfold findL
  rw [this]

theorem findEq_any (n u k : List UInt8) (s m : Int) (t : List UInt8) (fb : Nat) (w : World) (h0 : w.cell? ⟨fb, 0, none⟩ = some (sv t)) :
    Calls Tryz.prog 30 #[wv ⟨n, u, k, s, m⟩, .pointer (some ⟨fb, 0, none⟩)] w fun e w' => e = .returned (.bool (n == t)) ∧ Below w.heap.size w w' := by
  have h1 : (w.alloc (wo n u k s m)).cell? ⟨fb, 0, none⟩ = some (sv t) := by
    rw [World.cell?_alloc_lt _ _ ⟨fb, 0, none⟩ (block_lt_of_cell h0)]; exact h0
  clear h0
  go_enter Tryz.func30, Tryz.ntmps30
  go_wp2
  go_ret
  exact ⟨rfl, (Below.refl _ _).alloc (Nat.le_refl _) _⟩

theorem indexW_any (l : List Wt) (a : Option Addr) (ca : Nat) (t : List UInt8) (fb : Nat) (w : World) (hl : WLies w a l) (hn : l.length ≤ 100000) (h0 : w.cell? ⟨fb, 0, none⟩ = some (sv t)) :
    Calls Tryz.prog 29 #[.slice a l.length ca, .func (.func 30) #[] #[.pointer (some ⟨fb, 0, none⟩)]] w fun e w' => e = .returned (.int .i64 (findL l t)) ∧ Below w.heap.size w w' := by
  rcases a with _ | ⟨b, o, tt⟩
  · obtain rfl := lies_none_w hl
    go_enter Tryz.func29, Tryz.ntmps29
    go_wp2
    refine wp_loop_rounds 1 ?_
    rw [rounds_succ]
    go_wp2
    go_ret
    exact ⟨rfl, Below.refl _ _⟩
  · cases l with
    | nil =>
      go_enter Tryz.func29, Tryz.ntmps29
      go_wp2
      refine wp_loop_rounds 1 ?_
      rw [rounds_succ]
      go_wp2
      go_ret
      exact ⟨rfl, Below.refl _ _⟩
    | cons y r =>
      obtain ⟨l, hll⟩ : ∃ l, l = y :: r := ⟨_, rfl⟩
      rw [← hll] at hl hn ⊢
      have hne : 0 < l.length := by rw [hll]; simp
      clear hll
      obtain ⟨b', o', e', d0, _⟩ := hl.at hne
      cases e'
      have hb : b < w.heap.size := block_lt_of_cell d0
      haveI : Inhabited Wt := ⟨⟨[], [], [], 0, 0⟩⟩
      have hp : PredBelow Tryz.prog 30 #[.pointer (some ⟨fb, 0, none⟩)] (fun x : Wt => .agg (wcells x).toArray) (fun x => x.n == t) w := fun W x hW => by
        obtain ⟨n, u, k, s, m⟩ := x
        refine (findEq_any n u k s m t fb W ((hW.cell (p := ⟨fb, 0, none⟩) (block_lt_of_cell h0)).trans h0)).mono ?_
        rintro e w' ⟨rfl, hb'⟩
        exact ⟨rfl, hW.trans (hb'.mono hW.size)⟩
      have := AnyQ.slices_IndexFunc Tryz.laysIndexW 5 Tryz.isAgg41 Tryz.sizeOf41 (fun x : Wt => wcells x) (fun _ => rfl) (fun x => x.n == t) 30 #[.pointer (some ⟨fb, 0, none⟩)]
        (enters_of Tryz.func30 (by kernel_rfl) rfl) b o l.length ca l w hp (by omega) (by omega) hb (fun j hj i v hi => by
          obtain ⟨b', o', e', c0, c1, c2, c3, c4⟩ := hl.at (k := j) hj
          cases e'
          rw [getElem!_pos l j hj] at hi
          rcases i with _ | _ | _ | _ | _ | i
          · simp [wcells] at hi; subst hi; simpa using c0
          · simp [wcells] at hi; subst hi; simpa using c1
          · simp [wcells] at hi; subst hi; simpa using c2
          · simp [wcells] at hi; subst hi; simpa using c3
          · simp [wcells] at hi; subst hi; simpa using c4
          · simp [wcells] at hi)
      refine this.mono ?_
      rintro e w' ⟨rfl, hb'⟩
      refine ⟨?_, hb'⟩
      rw [List.take_length]
      unfold Lib.idxBy
      rw [idx_is (fun y : Wt => y.n == t)]
      unfold findL
      cases l.findIdx? fun y => y.n == t with
      | none => rfl
      | some k => simp

theorem boxed_name (w : World) (x : Value) (T : TypeId) : (w.alloc (.cells #[x] T)).cell? ⟨w.heap.size, 0, none⟩ = some x := by
  have e := heap_new w (.cells #[x] T)
  unfold World.cell?
  rw [e]
  rfl
theorem lockFind_any (l : List Wt) (a : Option Addr) (ca : Nat) (t : List UInt8) (w : World) (hl : WLies w a l) (hn : l.length ≤ 100000) :
    Calls Tryz.prog 13 #[.slice a l.length ca, .string ⟨t.toArray⟩] w fun e w' => e = .returned (.int .i64 (findL l t)) ∧ Below w.heap.size w w' := by
  have HL := Lib.hid hl
  clear hl
  go_enter Tryz.func13, Tryz.ntmps13
  go_wp2_with fail
  refine (indexW_any l a ca t w.heap.size _ (HL.out.below ((Below.refl _ _).alloc (Nat.le_refl _) _)) hn (boxed_name _ _ _)).mono ?_
  rintro e w1 ⟨rfl, hb1⟩
  go_wp2
  go_ret
  exact ⟨rfl, ((Below.refl _ _).alloc (Nat.le_refl _) _).trans (hb1.mono (by simp))⟩
end Go.Proofs.YtmeipangcgdinaaGreatDoor
/-
  Package lock: Drop: its contract, over this seat's translation.
-/
namespace Go.Proofs.YtmeipangcgdinaaGreatDoor
open Go.RowKit Go.Shelf

/-- A lock without a name: what is answered, an error's number and place. -/
def dropL (l : List Wt) (t : List UInt8) : List Wt × Nat × Int :=
  if (lockFault l).1 ≠ 0 then ([], lockFault l) else match l.findIdx? (fun y => y.n == t) with | some j => (l.take j ++ l.drop (j + 1), 0, -1) | none => ([], 6, -1)

set_option maxRecDepth 100000 in
set_option maxHeartbeats 8000000 in
theorem lockDrop_new (p : Nat → Addr) (l : List Wt) (a : Option Addr) (ca : Nat) (t : List UInt8) (w : World) (hE : WEnv p w) (hl : WLies w a l) (hca : l.length ≤ ca) (hs : SmallW l) :
    Calls Tryz.prog 12 #[.slice a l.length ca, .string ⟨t.toArray⟩] w fun e w' => ToldWN p w.heap.size w' e (dropL l t) ∧ Below w.heap.size w w' := by
  have hfew := hs.1
  have HE := Lib.hid hE
  have HL := Lib.hid hl
  have HS := Lib.hid hs
  clear hE hl hs
  by_cases hz : (lockFault l).1 = 0
  · have HF := Lib.hid (lock_zero (lock_iff.1 hz))
    have HD : Hid (dropL l t = match l.findIdx? (fun y => y.n == t) with | some j => (l.take j ++ l.drop (j + 1), 0, -1) | none => ([], 6, -1)) := by
      show dropL l t = _
      unfold dropL
      rw [if_neg (by omega)]
    clear hz
    go_enter Tryz.func12, Tryz.ntmps12
    go_wp2_with fail
    refine (lockCheck_any p l a ca _ HE.out HL.out hca HS.out).mono ?_
    rintro e w0 ⟨⟨v, rfl, hv⟩, hb0⟩
    rw [HF.out] at hv
    have := hv.isNil
    subst this
    have HB0 := Lib.hid hb0
    clear hv hb0
    go_wp2_with fail
    refine (lockFind_any l a ca t _ (HL.out.below HB0.out) hfew).mono ?_
    rintro e w1 ⟨rfl, hb1⟩
    have HB1 := Lib.hid (HB0.out.trans (hb1.mono HB0.out.size))
    clear hb1 HB0
    cases hf : l.findIdx? (fun y => y.n == t) with
    | none =>
      have HT : Hid (dropL l t = ([], 6, -1)) := by show dropL l t = _; rw [HD.out, hf]
      have hfl : findL l t = -1 := by unfold findL; rw [hf]
      have s5 := (HE.out.below HB1.out).env.s5
      rw [hfl]
      clear hf hfl HD
      go_wp2_with fail
      go_quiet (fail)
      go_wp2
      go_ret2
      exact ⟨by rw [HT.out]; exact toldWN_none (.inr (.inl ⟨5, rfl, by omega, rfl, rfl⟩)), below_drewN HB1.out _⟩
    | some j =>
      have HT : Hid (dropL l t = (l.take j ++ l.drop (j + 1), 0, -1)) := by show dropL l t = _; rw [HD.out, hf]
      have hfl : findL l t = (j : Int) := by unfold findL; rw [hf]
      obtain ⟨hj, _⟩ := List.findIdx?_eq_some_iff_getElem.1 hf
      rw [hfl]
      clear hf hfl HD
      go_wp2_with fail
      refine (clone_any_w l a ca _ (HL.out.below HB1.out) hfew).mono ?_
      rintro e w2 ⟨⟨v, rfl, hown⟩, hb2⟩
      obtain ⟨g, cap, rfl, hcap⟩ : ∃ g cap, v = .slice (some ⟨g, 0, none⟩) l.length cap ∧ l.length ≤ cap := by
        rcases hown.2 with ⟨_, h0⟩ | ⟨g, cap, cur, h', _, _, hn, _⟩
        · omega
        · exact ⟨g, cap, h', hn⟩
      have HG : Hid (w.heap.size ≤ g) := Nat.le_trans HB1.out.size (hown.lt g rfl).1
      have HOWN := Lib.hid (hown.mono HB1.out.size)
      have HB2 := Lib.hid (HB1.out.trans (hb2.mono HB1.out.size))
      clear hown hb2 HB1
      go_wp2_with fail
      refine (delete_any_w l g cap j w.heap.size w2 HOWN.out hj hfew).mono ?_
      rintro e w3 ⟨⟨rfl, hlies⟩, hb3⟩
      have HLI := Lib.hid hlies
      have HLEN : Hid ((l.take j ++ l.drop (j + 1)).length = l.length - 1) := by
        show _ = _
        rw [List.length_append, List.length_take, List.length_drop]; omega
      clear hlies
      go_wp2
      go_ret2
      refine ⟨?_, HB2.out.trans hb3⟩
      rw [HT.out]
      exact ⟨some ⟨g, 0, none⟩, cap, _, by rw [HLEN.out] <;> rfl, HLI.out, by rw [HLEN.out]; omega, ErrAt.fine p _, fun b o t e => by cases e; exact HG.out⟩
  · have HT : Hid (dropL l t = ([], lockFault l)) := by show dropL l t = _; unfold dropL; rw [if_pos hz]
    have HZ := Lib.hid hz
    clear hz
    go_enter Tryz.func12, Tryz.ntmps12
    go_wp2_with fail
    refine (lockCheck_any p l a ca _ HE.out HL.out hca HS.out).mono ?_
    rintro e w1 ⟨⟨v, rfl, hv⟩, hb1⟩
    obtain ⟨T, u, rfl⟩ := hv.some HZ.out
    have HV := Lib.hid hv
    have HB1 := Lib.hid hb1
    clear hv hb1
    go_wp2
    go_ret2
    exact ⟨by rw [HT.out]; exact toldWN_none HV.out, HB1.out⟩
end Go.Proofs.YtmeipangcgdinaaGreatDoor
