/-
  Own texts of the proof, joined by program: PkWant, PkWantText.
-/
import Derived.Test.YtmeipangcgdinaaGreatDoorPackPurePackFactsWantPure
import Derived.Test.YtmeipangcgdinaaGreatDoorParts
import Derived.Test.YtmeipangcgdinaaGreatDoorPkLinkPkLinks
import Derived.Test.YtmeipangcgdinaaGreatDoorPkReadPkWords
import Derived.Test.YtmeipangcgdinaaGreatDoorRefDigitsRefSumPkSumSumEnv
import Derived.Test.YtmeipangcgdinaaGreatDoorSlotsErrAt
import Derived.Deep.RegionHeld3
/-
  Package want: isKind, isSum, isDigit, Check: contracts, over this seat's translation.
-/
namespace Go.Proofs.YtmeipangcgdinaaGreatDoor
open Go.RowKit Go.Shelf

/-- What package want wants of the listed variables. -/
structure WEnv (p : Nat → Addr) (w : World) : Prop where
  env : Env p w
  sum : SEnv p w
  link : LEnv p w
theorem WEnv.below {p : Nat → Addr} {w w' : World} (E : WEnv p w) (hb : Below w.heap.size w w') : WEnv p w' := ⟨E.env.below hb, E.sum.below hb, E.link.below hb⟩

/-- What is wanted, as a value. -/
abbrev wv (x : Wt) : Value := .agg #[.string ⟨x.n.toArray⟩, .string ⟨x.u.toArray⟩, .string ⟨x.k.toArray⟩, .int .i64 x.s, .int .i64 x.m]
/-- Its block. -/
abbrev wo (n u k : List UInt8) (s m : Int) : Obj := .cells #[.string ⟨n.toArray⟩, .string ⟨u.toArray⟩, .string ⟨k.toArray⟩, .int .i64 s, .int .i64 m] 41
/-- What is wanted, in memory. -/
structure WantAt (w : World) (b : Nat) (n u k : List UInt8) (s m : Int) : Prop where
  c0 : w.cell? ⟨b, 0, none⟩ = some (.string ⟨n.toArray⟩)
  c1 : w.cell? ⟨b, 1, none⟩ = some (.string ⟨u.toArray⟩)
  c2 : w.cell? ⟨b, 2, none⟩ = some (.string ⟨k.toArray⟩)
  c3 : w.cell? ⟨b, 3, none⟩ = some (.int .i64 s)
  c4 : w.cell? ⟨b, 4, none⟩ = some (.int .i64 m)
theorem WantAt.lt {w : World} {b : Nat} {n u k : List UInt8} {s m : Int} (h : WantAt w b n u k s m) : b < w.heap.size := block_lt_of_cell h.c0
theorem WantAt.below {w w' : World} {b : Nat} {n u k : List UInt8} {s m : Int} (h : WantAt w b n u k s m) (hb : Below w.heap.size w w') : WantAt w' b n u k s m :=
  ⟨(hb.cell (p := ⟨b, 0, none⟩) h.lt).trans h.c0, (hb.cell (p := ⟨b, 1, none⟩) h.lt).trans h.c1, (hb.cell (p := ⟨b, 2, none⟩) h.lt).trans h.c2, (hb.cell (p := ⟨b, 3, none⟩) h.lt).trans h.c3, (hb.cell (p := ⟨b, 4, none⟩) h.lt).trans h.c4⟩
theorem WantAt.new (w : World) (n u k : List UInt8) (s m : Int) : WantAt (w.alloc (wo n u k s m)) w.heap.size n u k s m := by
  have e := heap_new w (wo n u k s m)
  generalize w.alloc (wo n u k s m) = W at e ⊢
  exact ⟨by simp [World.cell?, e], by simp [World.cell?, e], by simp [World.cell?, e], by simp [World.cell?, e], by simp [World.cell?, e]⟩
/-- Behind a first call. -/
theorem want_box {w w' : World} {n u k : List UInt8} {s m : Int} (hb : Below (w.alloc (wo n u k s m)).heap.size (w.alloc (wo n u k s m)) w') : WantAt w' w.heap.size n u k s m ∧ Below w.heap.size w w' :=
  ⟨(WantAt.new w n u k s m).below hb, ((Below.refl _ w).alloc (Nat.le_refl _) _).trans (hb.mono (by simp))⟩

/-- Package path's own question, for a name. -/
theorem wantPart_any (p : Nat → Addr) (s : List UInt8) (w : World) (_hE : Env p w) (hs : s.length ≤ 90000) :
    Calls Tryz.prog 46 #[.string ⟨s.toArray⟩] w fun e w' => e = .returned (.bool (isPart s)) ∧ Below w.heap.size w w' :=
  (isPart_any s w (by omega)).mono fun e w' h => ⟨h.1, by rw [h.2]; exact Below.refl _ _⟩

theorem wantKind_any (k : List UInt8) (w : World) : Calls Tryz.prog 48 #[.string ⟨k.toArray⟩] w fun e w' => e = .returned (.bool (kindW k)) ∧ w' = w := by
  by_cases h1 : k = [112, 108, 97, 105, 110]
  · subst h1
    go_enter Tryz.func48, Tryz.ntmps48
    go_wp2
    go_ret
    exact ⟨rfl, rfl⟩
  by_cases h2 : k = [112, 97, 99, 107]
  · subst h2
    go_enter Tryz.func48, Tryz.ntmps48
    go_wp2
    go_ret
    exact ⟨rfl, rfl⟩
  by_cases h3 : k = [112, 114, 101, 115, 115]
  · subst h3
    go_enter Tryz.func48, Tryz.ntmps48
    go_wp2
    go_ret
    exact ⟨rfl, rfl⟩
  have b1 : (k == [112, 108, 97, 105, 110]) = false := by simpa using h1
  have b2 : (k == [112, 97, 99, 107]) = false := by simpa using h2
  have b3 : (k == [112, 114, 101, 115, 115]) = false := by simpa using h3
  have HK : Hid (kindW k = false) := by show kindW k = false; simp [kindW, b1, b2, b3]
  clear h1 h2 h3
  go_enter Tryz.func48, Tryz.ntmps48
  go_wp2
  go_ret
  exact ⟨by rw [HK.out]; rfl, rfl⟩

theorem wantSum_any (p : Nat → Addr) (m : Int) (w : World) (hE : SEnv p w) :
    Calls Tryz.prog 49 #[.int .i64 m] w fun e w' => e = .returned (.bool (isS m)) ∧ Below w.heap.size w w' := by
  have HE := Lib.hid hE
  clear hE
  go_enter Tryz.func49, Tryz.ntmps49
  go_wp2_with fail
  refine (pkText_any p m _ HE.out).mono ?_
  rintro e w1 ⟨rfl, hb⟩
  have HB := Lib.hid hb
  clear hb
  cases hs : isS m with
  | true =>
    have HR := Lib.hid hs
    rw [text_is hs]
    clear hs
    generalize digitsL m.toNat = d
    have h1 : ((115 :: d : List UInt8) == []) = false := by simp
    go_wp2
    go_ret
    exact ⟨by rw [HR.out]; rfl, HB.out⟩
  | false =>
    have HR := Lib.hid hs
    have ht : textS m = [] := by unfold textS; rw [if_neg (by simp [hs])]
    rw [ht]
    clear hs ht
    go_wp2
    go_ret
    exact ⟨by rw [HR.out]; rfl, HB.out⟩

theorem wantDigit_any (d : List UInt8) (w : World) : Calls Tryz.prog 60 #[.string ⟨d.toArray⟩] w fun e w' => e = .returned (.bool (digitW d)) ∧ w' = w := by
  by_cases hl : d.length = 1
  · obtain ⟨b, rfl⟩ := List.length_eq_one_iff.1 hl
    have HD : Hid (digitW [b] = isDigit b) := by show digitW [b] = isDigit b; simp [digitW]
    have hb : (({ data := #[b] } : ByteArray)[0]'(by simp [ByteArray.size])) = b := rfl
    clear hl
    by_cases h1 : 48 ≤ b.toNat
    · by_cases h2 : b.toNat ≤ 57
      · have HR : Hid (isDigit b = true) := by show isDigit b = true; simp [isDigit, h1, h2]
        have h1' : (48 : Int) ≤ (b.toNat : Int) := by omega
        have h2' : (b.toNat : Int) ≤ 57 := by omega
        go_enter Tryz.func60, Tryz.ntmps60
        go_wp2
        go_ret
        exact ⟨by rw [HD.out, HR.out]; rfl, rfl⟩
      · have HR : Hid (isDigit b = false) := by show isDigit b = false; simp [isDigit]; omega
        have h1' : (48 : Int) ≤ (b.toNat : Int) := by omega
        have h2' : ¬ (b.toNat : Int) ≤ 57 := by omega
        go_enter Tryz.func60, Tryz.ntmps60
        go_wp2
        go_ret
        exact ⟨by rw [HD.out, HR.out]; rfl, rfl⟩
    · have HR : Hid (isDigit b = false) := by show isDigit b = false; simp [isDigit]; omega
      have h1' : ¬ (48 : Int) ≤ (b.toNat : Int) := by omega
      go_enter Tryz.func60, Tryz.ntmps60
      go_wp2
      go_ret
      exact ⟨by rw [HD.out, HR.out]; rfl, rfl⟩
  · have HR : Hid (digitW d = false) := by show digitW d = false; simp [digitW, hl]
    have hl' : ((d.length : Int) == 1) = false := by simp; omega
    clear hl
    go_enter Tryz.func60, Tryz.ntmps60
    go_wp2
    go_ret
    exact ⟨by rw [HR.out]; rfl, rfl⟩

set_option maxRecDepth 100000 in
set_option maxHeartbeats 4000000 in
theorem wantCheck_any (p : Nat → Addr) (n u k : List UInt8) (s m : Int) (w : World) (hE : WEnv p w) (hn : n.length ≤ 90000) (hu : u.length ≤ 90000) :
    Calls Tryz.prog 31 #[wv ⟨n, u, k, s, m⟩] w fun e w' => e = .returned (errV p (wantCode ⟨n, u, k, s, m⟩)) ∧ Below w.heap.size w w' := by
  have HE := Lib.hid hE
  have HE0 : Hid (WEnv p (w.alloc (wo n u k s m))) := hE.below ((Below.refl _ _).alloc (Nat.le_refl _) _)
  clear hE
  go_enter Tryz.func31, Tryz.ntmps31
  go_wp2_with fail
  refine (wantPart_any p n _ HE0.out.env hn).mono ?_
  rintro e w1 ⟨rfl, hb1⟩
  obtain ⟨hw1, hB1⟩ := want_box hb1
  have HW1 := Lib.hid hw1
  have HB1 := Lib.hid hB1
  have HE1 := Lib.hid (HE.out.below hB1)
  clear hb1 hw1 hB1 HE0
  cases hp : isPart n with
  | false =>
    have HC : Hid (wantCode ⟨n, u, k, s, m⟩ = 5) := want_name hp
    have hg := HE1.out.env.s4
    clear hp
    go_wp2
    go_ret
    exact ⟨by rw [HC.out]; rfl, HB1.out⟩
  | true =>
    have HP := Lib.hid hp
    clear hp
    obtain ⟨c0, c1, c2, c3, c4⟩ := HW1.out
    go_wp2_with fail
    refine (linkCheck_any p u _ HE1.out.link hu).mono ?_
    rintro e w2 ⟨rfl, hb2⟩
    have HW2 := Lib.hid (HW1.out.below hb2)
    have HB2 := Lib.hid (HB1.out.trans (hb2.mono HB1.out.size))
    have HE2 := Lib.hid (HE1.out.below hb2)
    clear hb2 c0 c1 c2 c3 c4 HW1 HB1 HE1
    cases hk : checkK u with
    | succ j =>
      have HC : Hid (wantCode ⟨n, u, k, s, m⟩ = j + 1) := want_link HP.out hk
      rw [errV_some p (Nat.succ_ne_zero j)]
      clear hk
      go_wp2
      go_ret
      exact ⟨by rw [HC.out]; rfl, HB2.out⟩
    | zero =>
      have HK := Lib.hid hk
      rw [errV_zero]
      clear hk
      obtain ⟨c0, c1, c2, c3, c4⟩ := HW2.out
      go_wp2_with fail
      refine (wantKind_any k _).mono ?_
      rintro e w' ⟨rfl, rfl⟩
      cases hkk : kindW k with
      | false =>
        have HC : Hid (wantCode ⟨n, u, k, s, m⟩ = 4) := want_kind HP.out HK.out hkk
        have hg := HE2.out.env.s3
        clear hkk
        go_wp2
        go_ret
        exact ⟨by rw [HC.out]; rfl, HB2.out⟩
      | true =>
        have HKK := Lib.hid hkk
        clear hkk
        by_cases hs0 : s < 0
        · have HC : Hid (wantCode ⟨n, u, k, s, m⟩ = 2) := want_strip HP.out HK.out HKK.out (.inl hs0)
          have hg := HE2.out.env.s1
          go_wp2
          go_ret
          exact ⟨by rw [HC.out]; rfl, HB2.out⟩
        · have hs0' : decide (s < 0) = false := by simp; omega
          by_cases hs6 : 6 < s
          · have HC : Hid (wantCode ⟨n, u, k, s, m⟩ = 2) := want_strip HP.out HK.out HKK.out (.inr hs6)
            have hg := HE2.out.env.s1
            clear hs0
            go_wp2
            go_ret
            exact ⟨by rw [HC.out]; rfl, HB2.out⟩
          · have hs6' : decide (6 < s) = false := by simp; omega
            have HS : Hid (¬ (s < 0 ∨ 6 < s)) := fun h => h.elim hs0 hs6
            clear hs0 hs6
            by_cases hsh : s ≠ 0 ∧ k = kPlain
            · have HC : Hid (wantCode ⟨n, u, k, s, m⟩ = 3) := want_shape HP.out HK.out HKK.out HS.out hsh
              have hg := HE2.out.env.s2
              obtain ⟨h0, h1⟩ := hsh
              subst h1
              unfold kPlain at c2
              have h0' : ¬ s = 0 := h0
              clear h0
              go_wp2
              go_ret
              exact ⟨by rw [HC.out]; rfl, HB2.out⟩
            · have HC : Hid (wantCode ⟨n, u, k, s, m⟩ = if isS m = false then 2 else 0) := want_sum HP.out HK.out HKK.out HS.out hsh
              by_cases h0 : s = 0
              · subst h0
                clear hsh hs0' hs6'
                go_wp2_with fail
                refine (wantSum_any p m _ HE2.out.sum).mono ?_
                rintro e w3 ⟨rfl, hb3⟩
                have HB3 := Lib.hid (HB2.out.trans (hb3.mono HB2.out.size))
                have hg := (HE2.out.below hb3).env.s1
                clear hb3
                cases hm : isS m with
                | false =>
                  have HM : Hid ((if isS m = false then 2 else 0) = 2) := by show (if isS m = false then 2 else 0) = 2; rw [if_pos hm]
                  clear hm
                  go_wp2
                  go_ret
                  exact ⟨by rw [HC.out, HM.out]; rfl, HB3.out⟩
                | true =>
                  have HM : Hid ((if isS m = false then 2 else 0) = 0) := by show (if isS m = false then 2 else 0) = 0; rw [if_neg (by simp [hm])]
                  clear hm
                  go_wp2
                  go_ret
                  exact ⟨by rw [HC.out, HM.out]; rfl, HB3.out⟩
              · have h0' : ¬ s = 0 := h0
                have hk1 : (k == [112, 108, 97, 105, 110]) = false := by
                  rw [beq_eq_false_iff_ne]
                  exact fun e => hsh ⟨h0, e⟩
                clear hsh h0
                go_wp2_with fail
                refine (wantSum_any p m _ HE2.out.sum).mono ?_
                rintro e w3 ⟨rfl, hb3⟩
                have HB3 := Lib.hid (HB2.out.trans (hb3.mono HB2.out.size))
                have hg := (HE2.out.below hb3).env.s1
                clear hb3
                cases hm : isS m with
                | false =>
                  have HM : Hid ((if isS m = false then 2 else 0) = 2) := by show (if isS m = false then 2 else 0) = 2; rw [if_pos hm]
                  clear hm
                  go_wp2
                  go_ret
                  exact ⟨by rw [HC.out, HM.out]; rfl, HB3.out⟩
                | true =>
                  have HM : Hid ((if isS m = false then 2 else 0) = 0) := by show (if isS m = false then 2 else 0) = 0; rw [if_neg (by simp [hm])]
                  clear hm
                  go_wp2
                  go_ret
                  exact ⟨by rw [HC.out, HM.out]; rfl, HB3.out⟩
theorem wantCheck_is (p : Nat → Addr) (n u k : List UInt8) (s m : Int) (c : Nat) (w : World) (hE : WEnv p w) (hn : n.length ≤ 90000) (hu : u.length ≤ 90000) (h : wantCode ⟨n, u, k, s, m⟩ = c) :
    Calls Tryz.prog 31 #[wv ⟨n, u, k, s, m⟩] w fun e w' => e = .returned (errV p c) ∧ Below w.heap.size w w' := by
  have := wantCheck_any p n u k s m w hE hn hu
  rwa [h] at this
end Go.Proofs.YtmeipangcgdinaaGreatDoor
/-
  Package want: Text: a contract, over this seat's translation.
-/
namespace Go.Proofs.YtmeipangcgdinaaGreatDoor
open Go.RowKit Go.Shelf

theorem join_words (a b c d e : List UInt8) : Lib.join [a, b, c, d, e] [32] = a ++ 32 :: (b ++ 32 :: (c ++ 32 :: (d ++ 32 :: e))) := by simp [Lib.join_cons, Lib.joinTail]

/-- strings.Join of five texts in a new block. -/
theorem join_five (a b c d e : List UInt8) (W : World) (ha : a.length ≤ 100000) (hb : b.length ≤ 100000) (hc : c.length ≤ 100000) (hd : d.length ≤ 100000) (he : e.length ≤ 100000) :
    Calls Tryz.prog 36 #[.slice (some ⟨W.heap.size, 0, none⟩) 5 5, .string ⟨#[32]⟩] (W.alloc (.cells #[.string ⟨a.toArray⟩, .string ⟨b.toArray⟩, .string ⟨c.toArray⟩, .string ⟨d.toArray⟩, .string ⟨e.toArray⟩] 9))
      fun x w' => x = .returned (.string ⟨(Lib.join [a, b, c, d, e] [32]).toArray⟩) ∧ Below W.heap.size W w' := by
  have hn := heap_new W (.cells #[.string ⟨a.toArray⟩, .string ⟨b.toArray⟩, .string ⟨c.toArray⟩, .string ⟨d.toArray⟩, .string ⟨e.toArray⟩] 9)
  have hB : Below W.heap.size W (W.alloc (.cells #[.string ⟨a.toArray⟩, .string ⟨b.toArray⟩, .string ⟨c.toArray⟩, .string ⟨d.toArray⟩, .string ⟨e.toArray⟩] 9)) := (Below.refl _ _).alloc (Nat.le_refl _) _
  have hlt : W.heap.size < (W.alloc (.cells #[.string ⟨a.toArray⟩, .string ⟨b.toArray⟩, .string ⟨c.toArray⟩, .string ⟨d.toArray⟩, .string ⟨e.toArray⟩] 9)).heap.size := by simp
  generalize W.alloc (.cells #[.string ⟨a.toArray⟩, .string ⟨b.toArray⟩, .string ⟨c.toArray⟩, .string ⟨d.toArray⟩, .string ⟨e.toArray⟩] 9) = V at hn hB hlt ⊢
  have hjl : (Lib.join [a, b, c, d, e] [32]).length ≤ 140737488355328 := by
    rw [join_words]
    simp only [List.length_append, List.length_cons]
    omega
  refine (Tryz.strings_Join W.heap.size 0 5 [⟨a.toArray⟩, ⟨b.toArray⟩, ⟨c.toArray⟩, ⟨d.toArray⟩, ⟨e.toArray⟩] ⟨#[32]⟩ V ?_ hlt (by simp) (by simp) ?_).mono ?_
  · intro j x hx
    rcases j with _ | _ | _ | _ | _ | j
    · simp at hx; subst hx; simp [World.cell?, hn]
    · simp at hx; subst hx; simp [World.cell?, hn]
    · simp at hx; subst hx; simp [World.cell?, hn]
    · simp at hx; subst hx; simp [World.cell?, hn]
    · simp at hx; subst hx; simp [World.cell?, hn]
    · simp at hx
  · simpa using hjl
  · rintro x w' ⟨rfl, hb⟩
    exact ⟨by simp, hB.trans (hb.mono hB.size)⟩

set_option maxRecDepth 100000 in
set_option maxHeartbeats 4000000 in
theorem wantText_any (p : Nat → Addr) (n u k : List UInt8) (s m : Int) (w : World) (hE : WEnv p w) (hn : n.length ≤ 90000) (hu : u.length ≤ 90000) :
    Calls Tryz.prog 18 #[wv ⟨n, u, k, s, m⟩] w fun e w' => e = .returned (.string ⟨(textW ⟨n, u, k, s, m⟩).toArray⟩) ∧ Below w.heap.size w w' := by
  have HE := Lib.hid hE
  have HE0 : Hid (WEnv p (w.alloc (wo n u k s m))) := hE.below ((Below.refl _ _).alloc (Nat.le_refl _) _)
  clear hE
  go_enter Tryz.func18, Tryz.ntmps18
  go_wp2_with fail
  refine (wantCheck_any p n u k s m _ HE0.out hn hu).mono ?_
  rintro e w1 ⟨rfl, hb1⟩
  obtain ⟨hw1, hB1⟩ := want_box hb1
  have HW1 := Lib.hid hw1
  have HB1 := Lib.hid hB1
  have HE1 := Lib.hid (HE.out.below hB1)
  clear hb1 hw1 hB1 HE0
  cases hc : wantCode ⟨n, u, k, s, m⟩ with
  | succ j =>
    have HT : Hid (textW ⟨n, u, k, s, m⟩ = []) := textW_no (by omega)
    rw [errV_some p (Nat.succ_ne_zero j)]
    clear hc
    go_wp2
    go_ret
    exact ⟨by rw [HT.out]; rfl, HB1.out⟩
  | zero =>
    obtain ⟨_, _, hk, ⟨h0, h6⟩, _, hm⟩ := want_zero hc
    simp only at hk h0 h6 hm
    obtain ⟨z, rfl⟩ : ∃ z : Nat, s = z := ⟨s.toNat, by omega⟩
    have hT : textW ⟨n, u, k, (z : Int), m⟩ = Lib.join [n, u, k, digitsL z, textS m] [32] := by
      rw [textW_yes hc]
      simp only [wordsW, Int.toNat_natCast]
    have hkl : k.length ≤ 100000 := by
      rcases kind_cases hk with h | h | h
      · rw [h]; decide
      · rw [h]; decide
      · rw [h]; decide
    have hdl : (digitsL z).length ≤ 6 := digits_length 5 _ (by omega)
    have hml : (textS m).length ≤ 11 := by
      rw [text_is hm]
      have hmb := isS_bounds hm
      have := digits_length 9 m.toNat (by omega)
      simp only [List.length_cons]
      omega
    have HI : Hid (∀ W, Below w1.heap.size w1 W → Calls Tryz.prog 37 #[.int .i64 (z : Int)] W fun e w' => e = .returned (.string ⟨(digitsL z).toArray⟩) ∧ Below W.heap.size W w') := fun W hW => itoa_any z W (by omega) (HE1.out.below hW).sum.tab
    have HM : Hid (∀ W, Below w1.heap.size w1 W → Calls Tryz.prog 38 #[.int .i64 m] W fun e w' => e = .returned (.string ⟨(textS m).toArray⟩) ∧ Below W.heap.size W w') := fun W hW => pkText_any p m W (HE1.out.below hW).sum
    have HX : Hid (∀ W, Below w1.heap.size w1 W → WantAt W w.heap.size n u k z m) := fun W hW => HW1.out.below hW
    generalize digitsL z = ds at hT hdl HI
    generalize textS m = ts at hT hml HM
    have HJ : Hid (∀ W, Calls Tryz.prog 36 #[.slice (some ⟨W.heap.size, 0, none⟩) 5 5, .string ⟨#[32]⟩] (W.alloc (.cells #[.string ⟨n.toArray⟩, .string ⟨u.toArray⟩, .string ⟨k.toArray⟩, .string ⟨ds.toArray⟩, .string ⟨ts.toArray⟩] 9)) fun x w' => x = .returned (.string ⟨(Lib.join [n, u, k, ds, ts] [32]).toArray⟩) ∧ Below W.heap.size W w') := fun W => join_five n u k ds ts W (by omega) (by omega) hkl (by omega) (by omega)
    have HT := Lib.hid hT
    have HB0 : Hid (Below w1.heap.size w1 w1.drew) := (Below.refl _ _).drew
    obtain ⟨c0, c1, c2, c3, c4⟩ := HW1.out
    rw [errV_zero]
    clear hc hk hm hT hkl hdl hml h0 h6
    go_wp2_with fail
    go_region_held3 (fun w' => w'.cell? ⟨w.heap.size, 0, none⟩ = some (.string ⟨n.toArray⟩) ∧ w'.cell? ⟨w.heap.size, 1, none⟩ = some (.string ⟨u.toArray⟩) ∧ w'.cell? ⟨w.heap.size, 2, none⟩ = some (.string ⟨k.toArray⟩) ∧ w'.cell? ⟨w.heap.size, 3, none⟩ = some (.int .i64 (z : Int)) ∧ w'.cell? ⟨w.heap.size, 4, none⟩ = some (.int .i64 m)) (go_keep) (first
      | (go_at_call 37; (with_reducible refine (HI.out _ HB0.out).mono ?_); rintro e w2 ⟨rfl, hb2⟩; have HB2 : Hid (Below w1.heap.size w1 w2) := HB0.out.trans (hb2.mono HB0.out.size); have d0 := (HX.out _ HB2.out).c0; have d1 := (HX.out _ HB2.out).c1; have d2 := (HX.out _ HB2.out).c2; have d3 := (HX.out _ HB2.out).c3; have d4 := (HX.out _ HB2.out).c4; clear hb2)
      | (go_at_call 38; (with_reducible refine (HM.out _ HB2.out).mono ?_); rintro e w3 ⟨rfl, hb3⟩; have HB3 : Hid (Below w1.heap.size w1 w3) := HB2.out.trans (hb3.mono HB2.out.size); have q0 := (HX.out _ HB3.out).c0; have q1 := (HX.out _ HB3.out).c1; have q2 := (HX.out _ HB3.out).c2; have q3 := (HX.out _ HB3.out).c3; have q4 := (HX.out _ HB3.out).c4; clear hb3)
      | (go_at_call 36; (with_reducible refine (HJ.out _).mono ?_); rintro e w4 ⟨rfl, hb4⟩; have HB4 : Hid (Below w1.heap.size w1 w4) := HB3.out.trans (hb4.mono HB3.out.size); have t0 := (HX.out _ HB4.out).c0; have t1 := (HX.out _ HB4.out).c1; have t2 := (HX.out _ HB4.out).c2; have t3 := (HX.out _ HB4.out).c3; have t4 := (HX.out _ HB4.out).c4; clear hb4))
    all_goals go_wp2
    all_goals go_ret
    all_goals exact ⟨by rw [HT.out]; rfl, HB1.out.trans (HB4.out.mono HB1.out.size)⟩
end Go.Proofs.YtmeipangcgdinaaGreatDoor
