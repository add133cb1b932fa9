/-
  Package net: Get: a contract, over this seat's translation; and so the program's net keeps what NetProg asks.
-/
import Derived.Test.YtkokdpidgikdkaaDoorPkNetCut
namespace Go.Proofs.YtkokdpidgikdkaaDoor
open Go.RowKit Go.Shelf Go.Maps

theorem read_host {u : List UInt8} (h : checkK u = 0) : (readK u).1 = (linkL u).1 := by
  obtain ⟨⟨a, q, c⟩, hl⟩ : ∃ r, linkL u = r := ⟨_, rfl⟩
  have h' : (readK u).2.2 = 0 := h
  cases c with
  | succ k => rw [readK_link hl] at h'; cases h'
  | zero =>
    cases hc : checkCode q with
    | succ k => rw [readK_path hl hc] at h'; cases h'
    | zero => rw [readK_ok hl hc, hl]
theorem comes_take (x : Si) : x.t.take (comesN x).length = comesN x := by
  unfold comesN
  split
  · rename_i h
    obtain ⟨h1, h2⟩ := h
    rw [List.length_take, Nat.min_eq_left (by omega)]
  · exact List.take_length
theorem comes_le (x : Si) : (comesN x).length ≤ x.t.length := by
  unfold comesN
  split
  · exact List.length_take_le' _ _
  · exact Nat.le_refl _

/-- A variable, where a net's count is written. -/
theorem var_far {w : World} {g : Nat} {y : Value} (e : w.cell? ⟨g, 0, none⟩ = some y) (nb : Nat) (v : Value) : (w.setCell ⟨nb, 2, none⟩ v).cell? ⟨g, 0, none⟩ = some y := by
  rw [World.cell?_setCell_other (h := by simp)]
  exact e

set_option maxRecDepth 100000 in
set_option maxHeartbeats 4000000 in
theorem netGet_any (p : Nat → Addr) (w : World) (nb : Nat) (S : Nat → Prop) (s : Ns) (u : List UInt8) (h : ProgAt w nb S s) (hE : NEnv p w) (hc : s.calls ≤ 1000) (hu : u.length ≤ 90000) :
    Calls Tryd.prog 11 #[.pointer (some ⟨nb, 0, none⟩), .string ⟨u.toArray⟩] w fun e w' => e = .returned (.tuple #[.string ⟨(getN s u).2.1.toArray⟩, errV p (getN s u).2.2]) ∧ ∃ S', ProgLeft ProgAt w nb S (getN s u).1 w' S' := by
  obtain ⟨bt, bo, h, rfl⟩ := h
  have H := Lib.hid h
  have HE := Lib.hid hE
  clear h hE
  go_enter Tryd.func11, Tryd.ntmps11
  cases hck : checkK u with
  | succ k =>
    have HC := Lib.hid (getN_bad (s := s) hck)
    go_wp2_with fail
    refine (hostOf_any p u _ HE.out.link hu).mono ?_
    rintro e w1 ⟨rfl, hb1⟩
    have HB1 := Lib.hid hb1
    clear hb1
    rw [hck, errV_some p (Nat.succ_ne_zero k)]
    clear hck
    go_wp2
    go_ret2
    exact ⟨by rw [HC.out]; rfl, _, by rw [HC.out]; exact left_quiet H.out HB1.out⟩
  | zero =>
    have HK := Lib.hid hck
    have HH := Lib.hid (read_host hck)
    go_wp2_with fail
    refine (hostOf_any p u _ HE.out.link hu).mono ?_
    rintro e w1 ⟨rfl, hb1⟩
    have H1 := Lib.hid (H.out.below hb1)
    have HB1 := Lib.hid hb1
    have HE1 := Lib.hid (HE.out.below hb1)
    rw [hck, errV_zero, HH.out]
    clear hb1 hck
    have c2 := H1.out.c2
    have z2 := H1.out.live 2
    have hhl : (linkL u).1.length ≤ 100000 := by have := link_short u; omega
    have HL : Hid (ProgLeft ProgAt w nb (fun b => b = nb ∨ b = bt ∨ b = bo) { s with calls := s.calls + 1 } (w1.setCell ⟨nb, 2, none⟩ (.int .i64 ((s.calls : Int) + 1))) (fun b => b = nb ∨ b = bt ∨ b = bo) ∧ NetIn (w1.setCell ⟨nb, 2, none⟩ (.int .i64 ((s.calls : Int) + 1))) nb bt bo { s with calls := s.calls + 1 }) := left_count H.out HB1.out (s.calls + 1)
    have g12 := cell_new (var_far HE1.out.env.s12 nb (.int .i64 ((s.calls : Int) + 1)))
    have g5 := cell_new (var_far HE1.out.env.s5 nb (.int .i64 ((s.calls : Int) + 1)))
    have k0 := HL.out.2.c0
    have k1 := HL.out.2.c1
    obtain ⟨no, _, ho⟩ := HL.out.2.off
    have HO := Lib.hid ho
    clear ho
    generalize hhd : (linkL u).1 = hh at *
    by_cases hin : hh ∈ s.off
    · have HF : Hid (offF s.off hh = some (.agg #[])) := by show (if hh ∈ s.off then _ else _) = _; rw [if_pos hin]
      go_wp2_with (at_lookup; refine wpList_look rfl _ _ 48 rfl 9 55 Tryd.underlying9 Tryd.underlying48 (zero_unit _) bo _ _ rfl HO.out hh rfl (by omega) (.agg #[]) true (by rw [HF.out]; rfl) (by rw [HF.out]; rfl) ?_)
      have HB4 := Lib.hid (left_then HL.out.1 ((Below.refl _ _).alloc (Nat.le_refl _) (.cells #[] 55)))
      have g12' := g12 (.cells #[] 55)
      clear c2 z2 k0 k1 g12 g5 HF HO HL
      generalize (w1.setCell ⟨nb, 2, none⟩ (.int .i64 ((s.calls : Int) + 1))).alloc (.cells #[] 55) = w4 at g12' HB4 ⊢
      generalize w1.heap.size = X
      have HC : Hid (getN s u = ({ s with calls := s.calls + 1 }, [], 13)) := getN_off HK.out (by rw [hhd]; exact hin)
      go_region
      all_goals go_wp2
      all_goals go_ret2
      all_goals exact ⟨by rw [HC.out]; rfl, _, by rw [HC.out]; exact left_then HB4.out (Below.refl _ _).drew⟩
    · have HF : Hid (offF s.off hh = none) := by show (if hh ∈ s.off then _ else _) = _; rw [if_neg hin]
      have HNI : Hid (¬ (linkL u).1 ∈ s.off) := by show ¬ (linkL u).1 ∈ s.off; rw [hhd]; exact hin
      have k0' := cell_new k0
      have HT := Lib.hid HL.out.2.texts
      cases hs : spotN s.l u with
      | none =>
        have HC := Lib.hid (getN_none HK.out HNI.out hs)
        have HX := Lib.hid (texts_none hs)
        clear hin hs hhd
        go_wp2_with (at_lookup; first
          | (refine wpList_look rfl _ _ 48 rfl 9 55 Tryd.underlying9 Tryd.underlying48 (zero_unit _) bo _ _ rfl HO.out hh rfl (by omega) (.agg #[]) false (by rw [HF.out]; rfl) (by rw [HF.out]; rfl) ?_)
          | (refine wpList_look rfl _ _ 47 rfl 9 52 Tryd.underlying9 Tryd.underlying47 (zero_text _) bt _ _ rfl (HT.out.alloc _) u rfl (by omega) (.agg #[.string ⟨#[]⟩, .int .i64 0]) false (by rw [HX.out]; rfl) (by rw [HX.out]; rfl) ?_))
        have HB4 := Lib.hid (left_then (left_then HL.out.1 ((Below.refl _ _).alloc (Nat.le_refl _) (.cells #[] 55))) ((Below.refl _ _).alloc (Nat.le_refl _) (.cells #[.string ⟨#[]⟩, .int .i64 0] 52)))
        have g5' := cell_new (g5 (.cells #[] 55)) (.cells #[.string ⟨#[]⟩, .int .i64 0] 52)
        clear c2 z2 k0 k1 g12 g5 HF HO HL HT k0'
        generalize ((w1.setCell ⟨nb, 2, none⟩ (.int .i64 ((s.calls : Int) + 1))).alloc (.cells #[] 55)).alloc (.cells #[.string ⟨#[]⟩, .int .i64 0] 52) = w4 at g5' HB4 ⊢
        generalize w1.heap.size = X
        go_region
        all_goals go_wp2
        all_goals go_ret2
        all_goals exact ⟨by rw [HC.out]; rfl, _, by rw [HC.out]; exact left_then HB4.out (Below.refl _ _).drew⟩
      | some k =>
        obtain ⟨hk, _⟩ := spot_some hs
        have HC := Lib.hid (getN_good HK.out HNI.out hs hk)
        have HX := Lib.hid (texts_some hs hk)
        have hxl := H.out.short _ (List.getElem_mem hk)
        clear hin hs hhd
        generalize s.l[k] = x at HC HX hxl
        have HTK := Lib.hid (comes_take x)
        have hle := comes_le x
        have HV : Hid (textV x = .agg #[.string ⟨x.t.toArray⟩, .int .i64 (comesN x).length]) := rfl
        generalize comesN x = y at HC HTK hle HV
        generalize textV x = tv at HX HV
        obtain ⟨xu, xt, xc⟩ := x
        simp only at hxl hle
        have e1 : ({ data := xt.toArray } : ByteArray).extract 0 y.length = ⟨y.toArray⟩ := by rw [extract_to xt y.length]; exact congrArg (fun l : List UInt8 => (⟨l.toArray⟩ : ByteArray)) HTK.out
        have hle' : (y.length : Int) ≤ (xt.length : Int) := by omega
        go_wp2_with (at_lookup; first
          | (refine wpList_look rfl _ _ 48 rfl 9 55 Tryd.underlying9 Tryd.underlying48 (zero_unit _) bo _ _ rfl HO.out hh rfl (by omega) (.agg #[]) false (by rw [HF.out]; rfl) (by rw [HF.out]; rfl) ?_)
          | (refine wpList_look rfl _ _ 47 rfl 9 52 Tryd.underlying9 Tryd.underlying47 (zero_text _) bt _ _ rfl (HT.out.alloc _) u rfl (by omega) (.agg #[.string ⟨xt.toArray⟩, .int .i64 y.length]) true (by rw [HX.out, HV.out]; rfl) (by rw [HX.out]; rfl) ?_))
        go_ret2
        exact ⟨by rw [HC.out]; rfl, _, by rw [HC.out]; exact left_then (left_then HL.out.1 ((Below.refl _ _).alloc (Nat.le_refl _) _)) ((Below.refl _ _).alloc (Nat.le_refl _) _)⟩

/-- The program's net keeps what the laws' walks ask of one. -/
theorem netProg (p : Nat → Addr) : NetProg p ProgAt where
  lt := ProgAt.lt
  keep := ProgAt.keep
  new := netNew_any
  put := fun w nb S s u t h hE _ hu ht => netPut_any p w nb S s u t h hE hu ht
  host := fun w nb S s u on h hE ho hu => netHost_any p w nb S s u on h hE ho hu
  cut := fun w nb S s u k h hE hu => netCut_any p w nb S s u k h hE hu
  get := fun w nb S s u h hE hc hu => netGet_any p w nb S s u h hE hc hu
  calls := netCalls_any
end Go.Proofs.YtkokdpidgikdkaaDoor
