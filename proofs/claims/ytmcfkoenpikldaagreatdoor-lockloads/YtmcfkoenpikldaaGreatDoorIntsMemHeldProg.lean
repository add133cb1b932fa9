/-
  Own texts of the proof, joined by program: IntsMem, HeldProg.
-/
import Derived.Test.YtmcfkoenpikldaaGreatDoorCodedKept
import Derived.Deep.QuietTactic
import Derived.BigQuiet
import Derived.Lib.Hide
import Derived.Test.YtmcfkoenpikldaaGreatDoorSumTreeHeldPureHeldFacts
import Derived.Test.YtmcfkoenpikldaaGreatDoorOpenedHeldMem
import Derived.Test.YtmcfkoenpikldaaGreatDoorSlotsFaultedErrAt
import Derived.Test.YtmcfkoenpikldaaGreatDoorRefDigitsRefSumPkSumSumEnv
/-
  Numbers in memory, a cell each; two such rows compared, a number among them: over this seat's translation.
-/
namespace Go.Proofs.YtmcfkoenpikldaaGreatDoor
open Go.RowKit

theorem Tryz.infoInt : (Tryz.prog.info? 3).map (fun i => (i.zero, i.size, i.bytes)) = some (some (.int .i64 0), 1, 8) := by kernel_rfl
abbrev iv (n : Int) : Value := .int .i64 n
def IntsAt (w : World) (a : Option Addr) (l : List Int) : Prop := l ≠ [] → ∃ b o, a = some ⟨b, o, none⟩ ∧ ∀ k (h : k < l.length), w.cell? ⟨b, o + k, none⟩ = some (iv l[k])
theorem IntsAt.at {w : World} {a : Option Addr} {l : List Int} (h : IntsAt w a l) {k : Nat} (hk : k < l.length) : ∃ b o, a = some ⟨b, o, none⟩ ∧ w.cell? ⟨b, o + k, none⟩ = some (iv l[k]) := by
  obtain ⟨b, o, e, hc⟩ := h (fun e => by simp [e] at hk)
  exact ⟨b, o, e, hc k hk⟩
theorem IntsAt.below {w w' : World} {a : Option Addr} {l : List Int} (h : IntsAt w a l) (hb : Below w.heap.size w w') : IntsAt w' a l := fun hl => by
  obtain ⟨b, o, e, hc⟩ := h hl
  refine ⟨b, o, e, fun k hk => ?_⟩
  have h0 := hc k hk
  exact (hb.cell (p := ⟨b, o + k, none⟩) (by have := block_lt_of_cell h0; simpa using this)).trans h0
theorem IntsAt.take {w : World} {a : Option Addr} {l : List Int} (h : IntsAt w a l) (k : Nat) : IntsAt w a (l.take k) := fun hl => by
  obtain ⟨b, o, e, hc⟩ := h (fun e => by simp [e] at hl)
  refine ⟨b, o, e, fun j hj => ?_⟩
  rw [List.getElem_take]
  exact hc j (by simp at hj; omega)
theorem IntsAt.drop {w : World} {b o : Nat} {l : List Int} (h : IntsAt w (some ⟨b, o, none⟩) l) (k : Nat) : IntsAt w (some ⟨b, o + k, none⟩) (l.drop k) := fun hl => by
  obtain ⟨b', o', e, hc⟩ := h (fun e => by simp [e] at hl)
  cases e
  refine ⟨b, o + k, rfl, fun j hj => ?_⟩
  rw [List.getElem_drop, Nat.add_assoc]
  exact hc (k + j) (by simp at hj; omega)
/-- A row of one's own, as numbers. -/
theorem ints_of_row {w : World} {base : Nat} {v : Value} {l : List Int} (h : w.ownsRow base 3 1 v l.length (l.map iv)) : ∃ a c, v = .slice a l.length c ∧ IntsAt w a l ∧ l.length ≤ c ∧ (a = none → c = 0 ∧ l = []) ∧ (∀ b o, a = some ⟨b, o, none⟩ → o = 0 ∧ base ≤ b ∧ b < w.heap.size) := by
  rcases h.2 with ⟨rfl, hn⟩ | ⟨g, cap, cur, rfl, hb, hg, hcap, _⟩
  · have e : l = [] := List.length_eq_zero_iff.1 hn
    subst e
    exact ⟨none, 0, rfl, fun h => absurd rfl h, Nat.le_refl _, fun _ => ⟨rfl, rfl⟩, fun _ _ e => (by cases e)⟩
  · refine ⟨some ⟨g, 0, none⟩, cap, rfl, fun _ => ⟨g, 0, rfl, fun k hk => ?_⟩, hcap, fun e => (by cases e), fun b o e => ?_⟩
    · rw [Nat.zero_add, h.cellAt k (by omega), List.getElem?_map, List.getElem?_eq_getElem hk]
      rfl
    · cases e
      exact ⟨rfl, h.lt g rfl⟩

set_option maxRecDepth 100000 in
set_option maxHeartbeats 1000000 in
theorem sameInts_any (l m : List Int) (a b : Option Addr) (ca cb : Nat) (w : World) (hl : IntsAt w a l) (hm : IntsAt w b m) (hll : l.length ≤ 100000) (hml : m.length ≤ 100000) :
    Calls Tryz.prog 23 #[.slice a l.length ca, .slice b m.length cb] w fun e w' => e = .returned (.bool (decide (l = m))) ∧ Below w.heap.size w w' := by
  by_cases hlen : l.length = m.length
  · have HL := Lib.hid hl
    have HM := Lib.hid hm
    have hlen' : ((l.length : Int) == (m.length : Int)) = true := by simp; omega
    have HLEN := Lib.hid hlen
    clear hl hm hlen
    go_enter Tryz.func23, Tryz.ntmps23
    go_wp2_with fail
    go_loopw [5] (fun i wr => ∃ q : Nat, q ≤ l.length ∧ i = .int .i64 q ∧ l.take q = m.take q ∧ Below w.heap.size w wr) (fun i _ => l.length - (intOf i).toNat)
    case atStart => exact ⟨0, by omega, rfl, by simp, Below.refl _ _⟩
    case round =>
      obtain ⟨q, hq, rfl, htk, hb⟩ := hrel
      have HT := Lib.hid htk
      have HB := Lib.hid hb
      clear htk hb
      by_cases hlt : q < l.length
      · have hlt' : (q : Int) < (l.length : Int) := by omega
        have hltm : (q : Int) < (m.length : Int) := by have := HLEN.out; omega
        have hqm : q < m.length := by have := HLEN.out; omega
        obtain ⟨ba, oa, ea, k0⟩ := (HL.out.below HB.out).at hlt
        obtain ⟨bm, om, em, k1⟩ := (HM.out.below HB.out).at hqm
        subst ea em
        by_cases hx : l[q] = m[q]
        · have HT2 : Hid (l.take (q + 1) = m.take (q + 1)) := by
            show l.take (q + 1) = m.take (q + 1)
            rw [List.take_succ_eq_append_getElem hlt, List.take_succ_eq_append_getElem hqm, HT.out, hx]
          have hx' : (l[q] == m[q]) = true := by simpa using hx
          clear hx
          generalize l[q] = x at k0 hx'
          generalize m[q] = y at k1 hx'
          go_wp2_with fail
          go_quiet (fail)
          go_wp2
          go_roundw
          case rel => exact ⟨q + 1, by omega, by go_num, HT2.out, below_drewN HB.out _⟩
          case measure => simp [intOf]; omega
        · have HF : Hid (decide (l = m) = false) := decide_eq_false fun e => hx (by subst e; rfl)
          have hx' : (l[q] == m[q]) = false := by simpa using hx
          clear hx
          generalize l[q] = x at k0 hx'
          generalize m[q] = y at k1 hx'
          go_wp2_with fail
          go_quiet (fail)
          go_wp2
          go_ret
          exact ⟨by rw [HF.out]; rfl, below_drewN HB.out _⟩
      · have hql : q = l.length := by omega
        have HF : Hid (decide (l = m) = true) := decide_eq_true (by
          have := HT.out
          rwa [hql, List.take_length, HLEN.out, List.take_length] at this)
        clear hql
        go_wp2
        go_ret
        exact ⟨by rw [HF.out]; rfl, HB.out⟩
  · have hlen' : ((l.length : Int) == (m.length : Int)) = false := by simp; omega
    have HF : Hid (decide (l = m) = false) := decide_eq_false fun e => hlen (by rw [e])
    clear hl hm hlen
    go_enter Tryz.func23, Tryz.ntmps23
    go_wp2
    go_ret
    exact ⟨by rw [HF.out]; rfl, Below.refl _ _⟩

theorem sameInts_len (l m : List Int) (a b : Option Addr) (na nb ca cb : Nat) (w : World) (ha : l.length = na) (hb : m.length = nb) (hl : IntsAt w a l) (hm : IntsAt w b m) (hll : na ≤ 100000) (hml : nb ≤ 100000) :
    Calls Tryz.prog 23 #[.slice a na ca, .slice b nb cb] w fun e w' => e = .returned (.bool (decide (l = m))) ∧ Below w.heap.size w w' := by
  subst ha hb
  exact sameInts_any l m a b ca cb w hl hm hll hml

end Go.Proofs.YtmcfkoenpikldaaGreatDoor
/-
  What the laws' walks ask of what is held, the program's: its contracts as one hypothesis, over whatever it is in memory; this seat's translation.
-/
namespace Go.Proofs.YtmcfkoenpikldaaGreatDoor
open Go.RowKit Go.Shelf

/-- What package held wants of the listed variables. -/
structure HEnv (p : Nat → Addr) (w : World) : Prop where
  env : Env p w
  sum : SEnv p w
theorem HEnv.below {p : Nat → Addr} {w w' : World} (E : HEnv p w) (hb : Below w.heap.size w w') : HEnv p w' := ⟨E.env.below hb, E.sum.below hb⟩

/-- A sum is a number of 64 bits. -/
theorem sumT_fit (l : List F) : (Lit.int .i64 (sumT l : Int)).wf = true := by
  have h : sumT l < 1000000007 := by
    unfold sumT
    split
    · exact sumL_lt _
    · decide
  have h1 : IntKind.i64.min = -9223372036854775808 := by decide
  have h2 : IntKind.i64.max = 9223372036854775807 := by decide
  simp only [Lit.wf, h1, h2, Bool.and_eq_true, decide_eq_true_eq]
  omega
theorem OkH.fit {s : Hs} (h : OkH s) {x : Tr} (hx : x ∈ s.l) : (Lit.int .i64 (x.n : Int)).wf = true := by
  rw [(h.right x hx).2]
  exact sumT_fit _

/-- What is held, in memory: at a block, with blocks that it may write (S) and blocks that it only reads (R). -/
abbrev HeldIs := World → Nat → (Nat → Prop) → (Nat → Prop) → Hs → Prop
/-- What a call that writes leaves. -/
structure HeldLeft (At : HeldIs) (w : World) (nb : Nat) (S R : Nat → Prop) (s' : Hs) (w' : World) (S' R' : Nat → Prop) : Prop where
  held : At w' nb S' R' s'
  below : ∀ B, B ≤ w.heap.size → (∀ b, S b → B ≤ b) → Below B w w'
  kept : Kept S w w'
  own : ∀ b, S' b → S b ∨ w.heap.size ≤ b
  ownR : ∀ b, R' b → S b ∨ R b ∨ w.heap.size ≤ b
/-- Files in memory that is new. -/
structure NewFiles (w w' : World) (a : Option Addr) (ca : Nat) (l : List F) : Prop where
  lies : LiesAt w' a l
  cap : l.length ≤ ca
  nil : a = none → ca = 0 ∧ l = []
  new : ∀ b o s, a = some ⟨b, o, s⟩ → w.heap.size ≤ b ∧ b < w'.heap.size
/-- The same without a word on what is dropped. -/
structure HeldCore (p : Nat → Addr) (At : HeldIs) : Prop where
  lt : ∀ {w nb S R s}, At w nb S R s → ∀ b, S b ∨ R b → b < w.heap.size
  keep : ∀ {w w' nb S R s} {T : Nat → Prop}, At w nb S R s → Kept T w w' → (∀ b, S b ∨ R b → ¬ T b) → At w' nb S R s
  new : ∀ w (m : Int), Calls Tryz.prog 12 #[.int .i64 m] w fun e w' => ∃ nb S R, e = .returned (.pointer (some ⟨nb, 0, none⟩)) ∧ At w' nb S R (Hs.none (mostH m)) ∧ (∀ b, S b ∨ R b → w.heap.size ≤ b) ∧ Below w.heap.size w w'
  put : ∀ w nb S R s l a ca, At w nb S R s → HEnv p w → OkH s → LiesAt w a l → l.length ≤ ca → (a = none → ca = 0 ∧ l = []) → Small l → (l ≠ [] → ∀ b o t, a = some ⟨b, o, t⟩ → ¬ S b) →
    Calls Tryz.prog 48 #[.pointer (some ⟨nb, 0, none⟩), .slice a l.length ca] w fun e w' => (∃ v, e = .returned (.tuple #[.int .i64 (putH s l).2.1, v]) ∧ ErrAt p w' v (putH s l).2.2.1 (putH s l).2.2.2) ∧ ∃ S' R', HeldLeft At w nb S R (putH s l).1 w' S' R'
  get : ∀ w nb S R s (n : Int), At w nb S R s → HEnv p w → OkH s → (Lit.int .i64 n).wf = true → Calls Tryz.prog 51 #[.pointer (some ⟨nb, 0, none⟩), .int .i64 n] w fun e w' => (∃ a ca, e = .returned (.tuple #[.slice a (getH s n).1.length ca, errV p (getH s n).2]) ∧ NewFiles w w' a ca (getH s n).1) ∧ Below w.heap.size w w'
  sums : ∀ w nb S R s, At w nb S R s → OkH s → Calls Tryz.prog 24 #[.pointer (some ⟨nb, 0, none⟩)] w fun e w' => (∃ v, e = .returned v ∧ w'.ownsRow w.heap.size 3 1 v (s.l.map fun x => (x.n : Int)).length ((s.l.map fun x => (x.n : Int)).map iv)) ∧ Below w.heap.size w w'
/-- What is held, apart from what lies below. -/
structure InH (At : HeldIs) (w0 W : World) (nb : Nat) (S R : Nat → Prop) (s : Hs) : Prop where
  below : Below w0.heap.size w0 W
  held : At W nb S R s
  base : ∀ b, S b ∨ R b → w0.heap.size ≤ b
  ok : OkH s
theorem InH.step {At : HeldIs} {w0 W W' : World} {nb : Nat} {S R S' R' : Nat → Prop} {s s' : Hs} (h : InH At w0 W nb S R s) (l : HeldLeft At W nb S R s' W' S' R') (hs : OkH s') : InH At w0 W' nb S' R' s' :=
  ⟨h.below.trans (l.below _ h.below.size fun b hb => h.base b (.inl hb)), l.held, fun b hb => by
    rcases hb with hb | hb
    · exact (l.own b hb).elim (fun e => h.base b (.inl e)) (Nat.le_trans h.below.size)
    · rcases l.ownR b hb with e | e | e
      · exact h.base b (.inl e)
      · exact h.base b (.inr e)
      · exact Nat.le_trans h.below.size e, hs⟩
theorem InH.quiet {p : Nat → Addr} {At : HeldIs} {w0 W W' : World} {nb : Nat} {S R : Nat → Prop} {s : Hs} (P : HeldCore p At) (h : InH At w0 W nb S R s) (hb : Below W.heap.size W W') : InH At w0 W' nb S R s :=
  ⟨h.below.trans (hb.mono h.below.size), P.keep (T := fun _ => False) h.held (Kept.of_below hb) (fun _ _ f => f), h.base, h.ok⟩
/-- What is new is apart from it. -/
theorem InH.apart {p : Nat → Addr} {At : HeldIs} {w0 W : World} {nb : Nat} {S R : Nat → Prop} {s : Hs} (P : HeldCore p At) (h : InH At w0 W nb S R s) {w' : World} {a : Option Addr} {ca : Nat} {l : List F} (n : NewFiles W w' a ca l) : ∀ b o t, a = some ⟨b, o, t⟩ → ¬ S b := fun b o t e hS => by
  have := (n.new b o t e).1
  have := P.lt h.held b (.inl hS)
  omega
/-- What came in is apart from it. -/
theorem InH.came {At : HeldIs} {w0 W : World} {nb : Nat} {S R : Nat → Prop} {s : Hs} (h : InH At w0 W nb S R s) {a : Option Addr} {l : List F} (hl : LiesAt w0 a l) (hn : l ≠ []) : ∀ b o t, a = some ⟨b, o, t⟩ → ¬ S b := fun b o t e hS => by
  obtain ⟨b', o', e', hc⟩ := hl hn
  have hlt := block_lt_of_cell (hc 0 (List.length_pos_iff.2 hn)).1
  rw [e'] at e
  cases e
  have := h.base _ (.inl hS)
  simp at hlt
  omega
/-- Files of one's own, as files in new memory. -/
theorem new_files {w w' : World} {v : Value} {l : List F} (h : w'.ownsRow w.heap.size 103 3 v l.length (lcells l)) : ∃ a c, v = .slice a l.length c ∧ NewFiles w w' a c l := by
  obtain ⟨a, c, hv, hl, hn⟩ := owns_lies h
  refine ⟨a, c, hv, hl, ?_, hn, fun b o s e => ?_⟩
  · rcases h.2 with ⟨e, e2⟩ | ⟨g, cap, cur, e, _, _, hcap, _⟩
    · omega
    · rw [hv] at e
      simp only [Value.slice.injEq] at e
      omega
  · subst e
    rcases h.2 with ⟨e, _⟩ | ⟨g, cap, cur, e, _⟩
    · rw [hv] at e; simp at e
    · rw [hv] at e
      simp only [Value.slice.injEq, Option.some.injEq] at e
      have := h.lt g (by rw [hv, e.1]; rfl)
      have hb : b = g := congrArg Addr.block e.1
      omega
theorem lies_kept {w w' : World} {a : Option Addr} {l : List F} (h : LiesAt w a l) (k : ∀ b o t, l ≠ [] → a = some ⟨b, o, t⟩ → w'.heap[b]? = w.heap[b]?) : LiesAt w' a l := fun hl => by
  obtain ⟨b, o, e, hc⟩ := h hl
  have hb := k b o none hl e
  have hcell : ∀ j, w'.cell? ⟨b, j, none⟩ = w.cell? ⟨b, j, none⟩ := fun j => by simp [World.cell?, hb]
  exact ⟨b, o, e, fun j hj => ⟨(hcell _).trans (hc j hj).1, (hcell _).trans (hc j hj).2.1, (hcell _).trans (hc j hj).2.2⟩⟩
/-- Files' own block. -/
theorem lies_cell {w : World} {a : Option Addr} {l : List F} (h : LiesAt w a l) (hl : l ≠ []) {b o : Nat} {t : Option Nat} (e : a = some ⟨b, o, t⟩) : ∃ j v, w.cell? ⟨b, j, none⟩ = some v := by
  obtain ⟨b', o', e', hc⟩ := h hl
  rw [e] at e'
  cases e'
  exact ⟨_, _, (hc 0 (List.length_pos_iff.2 hl)).1⟩
/-- Files stay where only other blocks are written. -/
theorem lies_left {w w' : World} {S : Nat → Prop} {a : Option Addr} {l : List F} (h : LiesAt w a l) (k : Kept S w w') (hS : l ≠ [] → ∀ b o t, a = some ⟨b, o, t⟩ → ¬ S b) : LiesAt w' a l :=
  lies_kept h fun b o t hl e => by
    obtain ⟨j, u, hc⟩ := lies_cell h hl e
    exact k.block b (block_lt_of_cell hc) (hS hl b o t e)
end Go.Proofs.YtmcfkoenpikldaaGreatDoor
