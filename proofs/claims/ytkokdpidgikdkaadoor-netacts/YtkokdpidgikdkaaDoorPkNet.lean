/-
  Package net: New, Put, Host, Cut, Get, Calls: contracts, over this seat's translation; so the program's net keeps what NetProg asks.
-/
import Derived.Test.YtkokdpidgikdkaaDoorNetMem
namespace Go.Proofs.YtkokdpidgikdkaaDoor
open Go.RowKit Go.Shelf Go.Maps

theorem zero_text (w : World) : (zeroValue 52).run Tryd.prog w = .ok (.agg #[.string ⟨#[]⟩, .int .i64 0]) w := by kernel_rfl
theorem zero_unit (w : World) : (zeroValue 55).run Tryd.prog w = .ok (.agg #[]) w := by kernel_rfl

theorem netCalls_any (w : World) (nb : Nat) (S : Nat → Prop) (s : Ns) (h : ProgAt w nb S s) : Calls Tryd.prog 16 #[.pointer (some ⟨nb, 0, none⟩)] w fun e w' => e = .returned (.int .i64 s.calls) ∧ Below w.heap.size w w' := by
  obtain ⟨bt, bo, h, rfl⟩ := h
  have c2 := h.c2
  go_enter Tryd.func16, Tryd.ntmps16
  go_wp2
  go_ret
  exact ⟨rfl, Below.refl _ _⟩

theorem netNew_any (w : World) : Calls Tryd.prog 7 #[] w fun e w' => ∃ nb S, e = .returned (.pointer (some ⟨nb, 0, none⟩)) ∧ ProgAt w' nb S Ns.none ∧ (∀ b, S b → w.heap.size ≤ b) ∧ Below w.heap.size w w' := by
  have hmm := @run_makeMap Tryd.prog
  go_enter Tryd.func7, Tryd.ntmps7
  go_wp2
  go_ret
  refine ⟨_, _, rfl, ⟨_, _, net_new w, rfl⟩, ?_, ?_⟩
  · rintro b (rfl | rfl | rfl) <;> omega
  · exact (((Below.refl _ _).alloc (Nat.le_refl _) _).alloc (by simp) _).alloc (by simp; omega) _

set_option maxRecDepth 100000 in
set_option maxHeartbeats 2000000 in
theorem netHost_any (p : Nat → Addr) (w : World) (nb : Nat) (S : Nat → Prop) (s : Ns) (u : List UInt8) (on : Bool) (h : ProgAt w nb S s) (hE : NEnv p w) (ho : s.off.length ≤ 1000) (hu : u.length ≤ 90000) :
    Calls Tryd.prog 9 #[.pointer (some ⟨nb, 0, none⟩), .string ⟨u.toArray⟩, .bool on] w fun e w' => e = .returned (errV p (hostN s u on).2) ∧ ∃ S', ProgLeft ProgAt w nb S (hostN s u on).1 w' S' := by
  obtain ⟨bt, bo, h, rfl⟩ := h
  have H := Lib.hid h
  obtain ⟨n, hn, ho2⟩ := h.off
  have HO := Lib.hid ho2
  have c1 := h.c1
  have g4 := hE.env.s4
  clear h hE ho2
  go_enter Tryd.func9, Tryd.ntmps9
  cases hp : isPart u with
  | false =>
    have HC := Lib.hid (hostN_bad (s := s) (on := on) hp)
    go_wp2_with fail
    refine (isPart_is u false _ (by omega) hp).mono ?_
    rintro e w' ⟨rfl, hw'⟩
    obtain rfl : w = w' := hw'
    go_wp2
    go_ret
    exact ⟨by rw [HC.out]; rfl, _, by rw [HC.out]; exact left_quiet H.out (Below.refl _ _)⟩
  | true =>
    cases on with
    | true =>
      have HC := Lib.hid (host_good_on (s := s) hp)
      go_wp2_with fail
      refine (isPart_is u true _ (by omega) hp).mono ?_
      rintro e w' ⟨rfl, hw'⟩
      obtain rfl : w = w' := hw'
      clear hp
      go_wp2_with (at_delete; refine wpList_strike rfl _ _ 48 9 rfl 55 Tryd.underlying9 Tryd.underlying48 bo n _ rfl HO.out u rfl (by omega) ?_; intro w2 hm ht)
      go_ret
      refine ⟨by rw [HC.out]; rfl, (fun b => b = nb ∨ b = bt ∨ b = bo), ?_⟩
      rw [HC.out]
      exact left_hosts H.out ht hm _ (off_less H.out.nodup hn u) (off_on s.off u).symm (H.out.nodup.filter _)
    | false =>
      have HC := Lib.hid (host_good_off (s := s) hp)
      go_wp2_with fail
      refine (isPart_is u true _ (by omega) hp).mono ?_
      rintro e w' ⟨rfl, hw'⟩
      obtain rfl : w = w' := hw'
      clear hp
      go_wp2_with (at_mapUpdate; refine wpList_put rfl _ _ _ 48 rfl 9 55 Tryd.underlying9 Tryd.underlying48 bo n _ rfl HO.out (by unfold maxLen; omega) u rfl (by omega) (.agg #[]) rfl ?_; intro w2 hm ht)
      go_ret
      refine ⟨by rw [HC.out]; rfl, (fun b => b = nb ∨ b = bt ∨ b = bo), ?_⟩
      rw [HC.out]
      exact left_hosts H.out ht hm _ (off_more H.out.nodup hn u) (off_off s.off u).symm (off_nodup H.out.nodup u)

theorem putN_short {s : Ns} {u t : List UInt8} (h : ∀ x ∈ s.l, x.t.length ≤ 20000) : ∀ x ∈ (putN s u t).1.l, x.t.length ≤ 20000 := by
  intro x hx
  unfold putN at hx
  split at hx
  · exact h x hx
  split at hx
  · exact h x hx
  split at hx
  · rcases List.mem_or_eq_of_mem_set hx with hx | rfl
    · exact h x hx
    · show t.length ≤ _; omega
  · split at hx
    · exact h x hx
    · rcases List.mem_append.1 hx with hx | hx
      · exact h x hx
      · simp at hx; subst hx; show t.length ≤ _; omega
theorem text_put (u t : List UInt8) : textV ⟨u, t, -1⟩ = .agg #[.string ⟨t.toArray⟩, .int .i64 t.length] := rfl

set_option maxRecDepth 100000 in
set_option maxHeartbeats 2000000 in
theorem netPut_any (p : Nat → Addr) (w : World) (nb : Nat) (S : Nat → Prop) (s : Ns) (u t : List UInt8) (h : ProgAt w nb S s) (hE : NEnv p w) (hu : u.length ≤ 90000) (ht : t.length ≤ 100000) :
    Calls Tryd.prog 8 #[.pointer (some ⟨nb, 0, none⟩), .string ⟨u.toArray⟩, .string ⟨t.toArray⟩] w fun e w' => e = .returned (errV p (putN s u t).2) ∧ ∃ S', ProgLeft ProgAt w nb S (putN s u t).1 w' S' := by
  obtain ⟨bt, bo, h, rfl⟩ := h
  have H := Lib.hid h
  have HE := Lib.hid hE
  have HS := Lib.hid (putN_short (u := u) (t := t) h.short)
  have hl := h.few
  clear h hE
  go_enter Tryd.func8, Tryd.ntmps8
  cases hc : checkK u with
  | succ k =>
    have HC := Lib.hid (putN_bad (s := s) (t := t) hc)
    go_wp2_with fail
    refine (linkCheck_is p u _ _ HE.out.link hu hc).mono ?_
    rintro e w1 ⟨rfl, hb1⟩
    have HB1 := Lib.hid hb1
    clear hb1 hc
    rw [errV_some p (Nat.succ_ne_zero k)]
    go_wp2
    go_ret
    exact ⟨by rw [HC.out]; rfl, _, by rw [HC.out]; exact left_quiet H.out HB1.out⟩
  | zero =>
    have HK := Lib.hid hc
    clear hc
    go_wp2_with fail
    refine (linkCheck_is p u _ _ HE.out.link hu HK.out).mono ?_
    rintro e w1 ⟨rfl, hb1⟩
    have HB1 := Lib.hid hb1
    have H1 := Lib.hid (H.out.below hb1)
    have HE1 := Lib.hid (HE.out.below hb1)
    clear hb1
    rw [errV_zero]
    have g1 := HE1.out.env.s1
    have g7 := HE1.out.env.s7
    have c0 := H1.out.c0
    have c0' := cell_new c0
    have g7' := cell_new g7
    by_cases hlong : 20000 < t.length
    · have HC := Lib.hid (putN_long (s := s) HK.out hlong)
      have hlong' : (t.length : Int) > 20000 := by omega
      clear hlong
      go_wp2
      go_ret
      exact ⟨by rw [HC.out]; rfl, _, by rw [HC.out]; exact left_quiet H.out HB1.out⟩
    · have hlong' : ¬ (t.length : Int) > 20000 := by omega
      cases hs : spotN s.l u with
      | some k =>
        obtain ⟨hk, hku⟩ := spot_some hs
        have HC := Lib.hid (putN_there HK.out hlong hs)
        have HT := Lib.hid (texts_some hs hk)
        have HU := Lib.hid (texts_set hs ⟨u, t, -1⟩ rfl)
        clear hs hlong hku
        rw [HC.out] at HS
        generalize s.l[k] = x at HT
        go_wp2_with (first
          | (at_lookup; refine wpList_look rfl _ _ 47 rfl 9 52 Tryd.underlying9 Tryd.underlying47 (zero_text _) bt _ _ rfl H1.out.texts u rfl (by omega) (.agg #[.string ⟨x.t.toArray⟩, .int .i64 (comesN x).length]) true (by rw [HT.out]; rfl) (by rw [HT.out]; rfl) ?_)
          | (at_mapUpdate; refine wpList_put rfl _ _ _ 47 rfl 9 52 Tryd.underlying9 Tryd.underlying47 bt _ _ rfl (H1.out.texts.alloc _) (by unfold maxLen; omega) u rfl (by omega) (.agg #[.string ⟨t.toArray⟩, .int .i64 t.length]) rfl ?_; intro w2 hm ht))
        go_ret
        refine ⟨by rw [HC.out]; rfl, (fun b => b = nb ∨ b = bt ∨ b = bo), ?_⟩
        rw [HC.out]
        refine left_texts H.out (HB1.out.alloc HB1.out.size _) ht hm _ ?_ ?_ HS.out (by rw [List.length_set]; exact hl)
        · rw [HT.out]; simp
        · rw [HU.out, text_put]
      | none =>
        have HT := Lib.hid (texts_none hs)
        by_cases hfull : 60 ≤ s.l.length
        · have HC := Lib.hid (putN_full HK.out hlong hs hfull)
          have hfull' : (s.l.length : Int) ≥ 60 := by omega
          clear hs hlong hfull
          go_wp2_with (first
            | (at_lookup; refine wpList_look rfl _ _ 47 rfl 9 52 Tryd.underlying9 Tryd.underlying47 (zero_text _) bt _ _ rfl H1.out.texts u rfl (by omega) (.agg #[.string ⟨#[]⟩, .int .i64 0]) false (by rw [HT.out]; rfl) (by rw [HT.out]; rfl) ?_)
            | (at_len; refine wpList_count_wanted rfl _ 47 rfl 9 52 Tryd.underlying47 bt _ _ rfl (H1.out.texts.alloc _) ?_))
          go_ret
          exact ⟨by rw [HC.out]; rfl, _, by rw [HC.out]; exact left_quiet H.out (HB1.out.alloc HB1.out.size _)⟩
        · have HC := Lib.hid (putN_new HK.out hlong hs hfull)
          have HU := Lib.hid (texts_app hs ⟨u, t, -1⟩ rfl)
          have hfull' : ¬ (s.l.length : Int) ≥ 60 := by omega
          clear hs hlong hfull
          rw [HC.out] at HS
          go_wp2_with (first
            | (at_lookup; refine wpList_look rfl _ _ 47 rfl 9 52 Tryd.underlying9 Tryd.underlying47 (zero_text _) bt _ _ rfl H1.out.texts u rfl (by omega) (.agg #[.string ⟨#[]⟩, .int .i64 0]) false (by rw [HT.out]; rfl) (by rw [HT.out]; rfl) ?_)
            | (at_len; refine wpList_count_wanted rfl _ 47 rfl 9 52 Tryd.underlying47 bt _ _ rfl (H1.out.texts.alloc _) ?_)
            | (at_mapUpdate; refine wpList_put rfl _ _ _ 47 rfl 9 52 Tryd.underlying9 Tryd.underlying47 bt _ _ rfl (H1.out.texts.alloc _) (by unfold maxLen; omega) u rfl (by omega) (.agg #[.string ⟨t.toArray⟩, .int .i64 t.length]) rfl ?_; intro w2 hm ht))
          go_ret
          refine ⟨by rw [HC.out]; rfl, (fun b => b = nb ∨ b = bt ∨ b = bo), ?_⟩
          rw [HC.out]
          refine left_texts H.out (HB1.out.alloc HB1.out.size _) ht hm _ ?_ ?_ HS.out (by rw [List.length_append]; show s.l.length + 1 ≤ 60; omega)
          · rw [HT.out]; simp
          · rw [HU.out, text_put]
end Go.Proofs.YtkokdpidgikdkaaDoor
