/-
  Package net: Cut: a contract, over this seat's translation.
-/
import Derived.Test.YtkokdpidgikdkaaDoorPkNet
namespace Go.Proofs.YtkokdpidgikdkaaDoor
open Go.RowKit Go.Shelf Go.Maps

theorem comes_min (u t : List UInt8) (m : Nat) : (((comesN ⟨u, t, (m : Int)⟩).length : Nat) : Int) = min (m : Int) (t.length : Int) := by
  unfold comesN
  split
  · rename_i h
    have h2 : (m : Int) < (t.length : Int) := h.2
    simp only [Int.toNat_natCast, List.length_take]
    omega
  · rename_i h
    have h2 : ¬ (m : Int) < (t.length : Int) := fun h' => h ⟨Int.natCast_nonneg m, h'⟩
    show (t.length : Int) = _
    omega
theorem cells_new (w : World) (a b : Value) (t : TypeId) : (w.alloc (.cells #[a, b] t)).cell? ⟨w.heap.size, 0, none⟩ = some a ∧ (w.alloc (.cells #[a, b] t)).cell? ⟨w.heap.size, 1, none⟩ = some b := by
  have e := heap_new w (.cells #[a, b] t)
  generalize w.alloc (.cells #[a, b] t) = V at e ⊢
  exact ⟨by simp [World.cell?, e], by simp [World.cell?, e]⟩

set_option maxRecDepth 100000 in
set_option maxHeartbeats 2000000 in
theorem netCut_any (p : Nat → Addr) (w : World) (nb : Nat) (S : Nat → Prop) (s : Ns) (u : List UInt8) (c : Int) (h : ProgAt w nb S s) (hE : NEnv p w) (hu : u.length ≤ 90000) :
    Calls Tryd.prog 13 #[.pointer (some ⟨nb, 0, none⟩), .string ⟨u.toArray⟩, .int .i64 c] w fun e w' => e = .returned (errV p (cutN s u c).2) ∧ ∃ S', ProgLeft ProgAt w nb S (cutN s u c).1 w' S' := by
  obtain ⟨bt, bo, h, rfl⟩ := h
  have H := Lib.hid h
  have HE := Lib.hid hE
  have c0 := h.c0
  have hl := h.few
  have c0' := cell_new c0
  have g5 := cell_new hE.env.s5
  have g1 := cell_new hE.env.s1
  clear h hE
  go_enter Tryd.func13, Tryd.ntmps13
  cases hs : spotN s.l u with
  | none =>
    have HC := Lib.hid (cutN_none (k := c) hs)
    have HT := Lib.hid (texts_none hs)
    clear hs
    go_wp2_with (at_lookup; refine wpList_look rfl _ _ 47 rfl 9 52 Tryd.underlying9 Tryd.underlying47 (zero_text _) bt _ _ rfl H.out.texts u rfl (by omega) (.agg #[.string ⟨#[]⟩, .int .i64 0]) false (by rw [HT.out]; rfl) (by rw [HT.out]; rfl) ?_)
    go_ret
    exact ⟨by rw [HC.out]; rfl, _, by rw [HC.out]; exact left_quiet H.out ((Below.refl _ _).alloc (Nat.le_refl _) _)⟩
  | some k =>
    obtain ⟨hk, hku⟩ := spot_some hs
    have HT := Lib.hid (texts_some hs hk)
    by_cases hneg : c < 0
    · have HC := Lib.hid (cutN_neg hs hneg)
      clear hs hku
      generalize s.l[k] = x at HT
      go_wp2_with (at_lookup; refine wpList_look rfl _ _ 47 rfl 9 52 Tryd.underlying9 Tryd.underlying47 (zero_text _) bt _ _ rfl H.out.texts u rfl (by omega) (.agg #[.string ⟨x.t.toArray⟩, .int .i64 (comesN x).length]) true (by rw [HT.out]; rfl) (by rw [HT.out]; rfl) ?_)
      go_ret
      exact ⟨by rw [HC.out]; rfl, _, by rw [HC.out]; exact left_quiet H.out ((Below.refl _ _).alloc (Nat.le_refl _) _)⟩
    · have HC := Lib.hid (cutN_good hs hneg)
      have HU := Lib.hid (texts_set hs { s.l[k] with c := c } hku)
      have HS := Lib.hid (H.out.short _ (List.getElem_mem hk))
      have HM := Lib.hid (modify_set hk fun x => { x with c := c })
      have htl := HS.out
      clear hs hku
      generalize s.l[k] = x at HT HU HS HM htl
      obtain ⟨xu, xt, xc⟩ := x
      simp only at htl
      have hc0 : 0 ≤ c := by omega
      clear hneg
      obtain ⟨m, rfl⟩ := Int.eq_ofNat_of_zero_le hc0
      go_wp2_with (at_lookup; refine wpList_look rfl _ _ 47 rfl 9 52 Tryd.underlying9 Tryd.underlying47 (zero_text _) bt _ _ rfl H.out.texts u rfl (by omega) (.agg #[.string ⟨xt.toArray⟩, .int .i64 (comesN ⟨xu, xt, xc⟩).length]) true (by rw [HT.out]; rfl) (by rw [HT.out]; rfl) ?_)
      obtain ⟨d0, d1⟩ := cells_new w (.string ⟨xt.toArray⟩) (.int .i64 (min (m : Int) (xt.length : Int))) 52
      have HB := Lib.hid ((Below.refl w.heap.size w).alloc (Nat.le_refl _) (.cells #[.string ⟨xt.toArray⟩, .int .i64 (min (m : Int) (xt.length : Int))] 52))
      have k0 := c0' (.cells #[.string ⟨xt.toArray⟩, .int .i64 (min (m : Int) (xt.length : Int))] 52)
      clear c0 c0' g5 g1
      generalize w.alloc (.cells #[.string ⟨xt.toArray⟩, .int .i64 (min (m : Int) (xt.length : Int))] 52) = w2 at d0 d1 HB k0 ⊢
      generalize w.heap.size = X at d0 d1 ⊢
      obtain ⟨w3, hrun, hm, ht⟩ := ((H.out.below HB.out).texts.drew).store (e := 52) (t := 47) Tryd.underlying9 Tryd.underlying47 (by unfold maxLen; omega) u (by omega) (.agg #[.string ⟨xt.toArray⟩, .int .i64 (min (m : Int) (xt.length : Int))])
      have HM2 := Lib.hid hm
      have HT2 := Lib.hid ht
      clear hm ht
      go_region
      all_goals go_wp2
      all_goals go_ret
      all_goals
        refine ⟨by rw [HC.out]; rfl, (fun b => b = nb ∨ b = bt ∨ b = bo), ?_⟩
        rw [HC.out, HM.out]
        refine left_texts H.out HB.out.drew HT2.out HM2.out _ ?_ ?_ ?_ (by rw [List.length_set]; exact hl)
        · rw [HT.out]; simp
        · rw [HU.out]
          show _ = fun q => if q = u then some (.agg #[.string ⟨xt.toArray⟩, .int .i64 ((comesN ⟨xu, xt, (m : Int)⟩).length : Nat)]) else textsF s.l q
          rw [comes_min]
        · intro y hy
          rcases List.mem_or_eq_of_mem_set hy with hy | rfl
          · exact H.out.short y hy
          · exact HS.out
end Go.Proofs.YtkokdpidgikdkaaDoor
