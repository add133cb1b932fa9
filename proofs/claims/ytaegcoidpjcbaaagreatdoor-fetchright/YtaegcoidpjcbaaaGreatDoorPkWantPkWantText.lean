/-
  Own texts of the proof, joined by program: PkWant, PkWantText.
-/
import Derived.Test.YtaegcoidpjcbaaaGreatDoorWantPure
import Derived.Test.YtaegcoidpjcbaaaGreatDoorRefCutPartsRefRefBeginsRefMore
import Derived.Test.YtaegcoidpjcbaaaGreatDoorPkLinkPkLinks
import Derived.Test.YtaegcoidpjcbaaaGreatDoorPkReadPkWords
import Derived.Test.YtaegcoidpjcbaaaGreatDoorRefDigitsRefSumPkSumSumEnv
import Derived.Test.YtaegcoidpjcbaaaGreatDoorSlotsFaultedErrAt
import Derived.Deep.RegionHeld3
/-
  Package want: isKind, isSum, isDigit, Check: contracts, over this seat's translation.
-/
namespace Go.Proofs.YtaegcoidpjcbaaaGreatDoor
open Go.RowKit Go.Shelf

/-- What package want wants of the listed variables. -/
structure WEnv (p : Nat → Addr) (w : World) : Prop where
  env : Env p w
  sum : SEnv p w
  link : LEnv p w
theorem WEnv.below {p : Nat → Addr} {w w' : World} (E : WEnv p w) (hb : Below w.heap.size w w') : WEnv p w' := ⟨E.env.below hb, E.sum.below hb, E.link.below hb⟩

/-- What is wanted, as a value. -/
abbrev wv (x : Wt) : Value := .agg #[.string ⟨x.n.toArray⟩, .string ⟨x.u.toArray⟩, .string ⟨x.k.toArray⟩, .int .i64 x.s, .int .i64 x.m]
/-- Its block. -/
abbrev wo (n u k : List UInt8) (s m : Int) : Obj := .cells #[.string ⟨n.toArray⟩, .string ⟨u.toArray⟩, .string ⟨k.toArray⟩, .int .i64 s, .int .i64 m] 25
/-- What is wanted, in memory. -/
structure WantAt (w : World) (b : Nat) (n u k : List UInt8) (s m : Int) : Prop where
  c0 : w.cell? ⟨b, 0, none⟩ = some (.string ⟨n.toArray⟩)
  c1 : w.cell? ⟨b, 1, none⟩ = some (.string ⟨u.toArray⟩)
  c2 : w.cell? ⟨b, 2, none⟩ = some (.string ⟨k.toArray⟩)
  c3 : w.cell? ⟨b, 3, none⟩ = some (.int .i64 s)
  c4 : w.cell? ⟨b, 4, none⟩ = some (.int .i64 m)
theorem WantAt.lt {w : World} {b : Nat} {n u k : List UInt8} {s m : Int} (h : WantAt w b n u k s m) : b < w.heap.size := block_lt_of_cell h.c0
theorem WantAt.below {w w' : World} {b : Nat} {n u k : List UInt8} {s m : Int} (h : WantAt w b n u k s m) (hb : Below w.heap.size w w') : WantAt w' b n u k s m :=
  ⟨(hb.cell (p := ⟨b, 0, none⟩) h.lt).trans h.c0, (hb.cell (p := ⟨b, 1, none⟩) h.lt).trans h.c1, (hb.cell (p := ⟨b, 2, none⟩) h.lt).trans h.c2, (hb.cell (p := ⟨b, 3, none⟩) h.lt).trans h.c3, (hb.cell (p := ⟨b, 4, none⟩) h.lt).trans h.c4⟩
theorem WantAt.new (w : World) (n u k : List UInt8) (s m : Int) : WantAt (w.alloc (wo n u k s m)) w.heap.size n u k s m := by
  have e := heap_new w (wo n u k s m)
  generalize w.alloc (wo n u k s m) = W at e ⊢
  exact ⟨by simp [World.cell?, e], by simp [World.cell?, e], by simp [World.cell?, e], by simp [World.cell?, e], by simp [World.cell?, e]⟩
/-- Behind a first call. -/
theorem want_box {w w' : World} {n u k : List UInt8} {s m : Int} (hb : Below (w.alloc (wo n u k s m)).heap.size (w.alloc (wo n u k s m)) w') : WantAt w' w.heap.size n u k s m ∧ Below w.heap.size w w' :=
  ⟨(WantAt.new w n u k s m).below hb, ((Below.refl _ w).alloc (Nat.le_refl _) _).trans (hb.mono (by simp))⟩

/-- Package path's own question, for a name. -/
theorem wantPart_any (p : Nat → Addr) (s : List UInt8) (w : World) (_hE : Env p w) (hs : s.length ≤ 90000) :
    Calls Tryz.prog 57 #[.string ⟨s.toArray⟩] w fun e w' => e = .returned (.bool (isPart s)) ∧ Below w.heap.size w w' :=
  (isPart_any s w (by omega)).mono fun e w' h => ⟨h.1, by rw [h.2]; exact Below.refl _ _⟩

theorem wantKind_any (k : List UInt8) (w : World) : Calls Tryz.prog 87 #[.string ⟨k.toArray⟩] w fun e w' => e = .returned (.bool (kindW k)) ∧ w' = w := by
  by_cases h1 : k = [112, 108, 97, 105, 110]
  · subst h1
    go_enter Tryz.func87, Tryz.ntmps87
    go_wp2
    go_ret
    exact ⟨rfl, rfl⟩
  by_cases h2 : k = [112, 97, 99, 107]
  · subst h2
    go_enter Tryz.func87, Tryz.ntmps87
    go_wp2
    go_ret
    exact ⟨rfl, rfl⟩
  by_cases h3 : k = [112, 114, 101, 115, 115]
  · subst h3
    go_enter Tryz.func87, Tryz.ntmps87
    go_wp2
    go_ret
    exact ⟨rfl, rfl⟩
  have b1 : (k == [112, 108, 97, 105, 110]) = false := by simpa using h1
  have b2 : (k == [112, 97, 99, 107]) = false := by simpa using h2
  have b3 : (k == [112, 114, 101, 115, 115]) = false := by simpa using h3
  have HK : Hid (kindW k = false) := by show kindW k = false; simp [kindW, b1, b2, b3]
  clear h1 h2 h3
  go_enter Tryz.func87, Tryz.ntmps87
  go_wp2
  go_ret
  exact ⟨by rw [HK.out]; rfl, rfl⟩

theorem wantSum_any (p : Nat → Addr) (m : Int) (w : World) (hE : SEnv p w) :
    Calls Tryz.prog 88 #[.int .i64 m] w fun e w' => e = .returned (.bool (isS m)) ∧ Below w.heap.size w w' := by
  have HE := Lib.hid hE
  clear hE
  go_enter Tryz.func88, Tryz.ntmps88
  go_wp2_with fail
  refine (pkText_any p m _ HE.out).mono ?_
  rintro e w1 ⟨rfl, hb⟩
  have HB := Lib.hid hb
  clear hb
  cases hs : isS m with
  | true =>
    have HR := Lib.hid hs
    rw [text_is hs]
    clear hs
    generalize digitsL m.toNat = d
    have h1 : ((115 :: d : List UInt8) == []) = false := by simp
    go_wp2
    go_ret
    exact ⟨by rw [HR.out]; rfl, HB.out⟩
  | false =>
    have HR := Lib.hid hs
    have ht : textS m = [] := by unfold textS; rw [if_neg (by simp [hs])]
    rw [ht]
    clear hs ht
    go_wp2
    go_ret
    exact ⟨by rw [HR.out]; rfl, HB.out⟩

set_option maxRecDepth 100000 in
set_option maxHeartbeats 4000000 in
theorem wantCheck_any (p : Nat → Addr) (n u k : List UInt8) (s m : Int) (w : World) (hE : WEnv p w) (hn : n.length ≤ 90000) (hu : u.length ≤ 90000) :
    Calls Tryz.prog 63 #[wv ⟨n, u, k, s, m⟩] w fun e w' => e = .returned (errV p (wantCode ⟨n, u, k, s, m⟩)) ∧ Below w.heap.size w w' := by
  have HE := Lib.hid hE
  have HE0 : Hid (WEnv p (w.alloc (wo n u k s m))) := hE.below ((Below.refl _ _).alloc (Nat.le_refl _) _)
  clear hE
  go_enter Tryz.func63, Tryz.ntmps63
  go_wp2_with fail
  refine (wantPart_any p n _ HE0.out.env hn).mono ?_
  rintro e w1 ⟨rfl, hb1⟩
  obtain ⟨hw1, hB1⟩ := want_box hb1
  have HW1 := Lib.hid hw1
  have HB1 := Lib.hid hB1
  have HE1 := Lib.hid (HE.out.below hB1)
  clear hb1 hw1 hB1 HE0
  cases hp : isPart n with
  | false =>
    have HC : Hid (wantCode ⟨n, u, k, s, m⟩ = 5) := want_name hp
    have hg := HE1.out.env.s4
    clear hp
    go_wp2
    go_ret
    exact ⟨by rw [HC.out]; rfl, HB1.out⟩
  | true =>
    have HP := Lib.hid hp
    clear hp
    obtain ⟨c0, c1, c2, c3, c4⟩ := HW1.out
    go_wp2_with fail
    refine (linkCheck_any p u _ HE1.out.link hu).mono ?_
    rintro e w2 ⟨rfl, hb2⟩
    have HW2 := Lib.hid (HW1.out.below hb2)
    have HB2 := Lib.hid (HB1.out.trans (hb2.mono HB1.out.size))
    have HE2 := Lib.hid (HE1.out.below hb2)
    clear hb2 c0 c1 c2 c3 c4 HW1 HB1 HE1
    cases hk : checkK u with
    | succ j =>
      have HC : Hid (wantCode ⟨n, u, k, s, m⟩ = j + 1) := want_link HP.out hk
      rw [errV_some p (Nat.succ_ne_zero j)]
      clear hk
      go_wp2
      go_ret
      exact ⟨by rw [HC.out]; rfl, HB2.out⟩
    | zero =>
      have HK := Lib.hid hk
      rw [errV_zero]
      clear hk
      obtain ⟨c0, c1, c2, c3, c4⟩ := HW2.out
      go_wp2_with fail
      refine (wantKind_any k _).mono ?_
      rintro e w' ⟨rfl, rfl⟩
      cases hkk : kindW k with
      | false =>
        have HC : Hid (wantCode ⟨n, u, k, s, m⟩ = 4) := want_kind HP.out HK.out hkk
        have hg := HE2.out.env.s3
        clear hkk
        go_wp2
        go_ret
        exact ⟨by rw [HC.out]; rfl, HB2.out⟩
      | true =>
        have HKK := Lib.hid hkk
        clear hkk
        by_cases hs0 : s < 0
        · have HC : Hid (wantCode ⟨n, u, k, s, m⟩ = 2) := want_strip HP.out HK.out HKK.out (.inl hs0)
          have hg := HE2.out.env.s1
          go_wp2
          go_ret
          exact ⟨by rw [HC.out]; rfl, HB2.out⟩
        · have hs0' : decide (s < 0) = false := by simp; omega
          by_cases hs6 : 6 < s
          · have HC : Hid (wantCode ⟨n, u, k, s, m⟩ = 2) := want_strip HP.out HK.out HKK.out (.inr hs6)
            have hg := HE2.out.env.s1
            clear hs0
            go_wp2
            go_ret
            exact ⟨by rw [HC.out]; rfl, HB2.out⟩
          · have hs6' : decide (6 < s) = false := by simp; omega
            have HS : Hid (¬ (s < 0 ∨ 6 < s)) := fun h => h.elim hs0 hs6
            clear hs0 hs6
            by_cases hsh : s ≠ 0 ∧ k = kPlain
            · have HC : Hid (wantCode ⟨n, u, k, s, m⟩ = 3) := want_shape HP.out HK.out HKK.out HS.out hsh
              have hg := HE2.out.env.s2
              obtain ⟨h0, h1⟩ := hsh
              subst h1
              unfold kPlain at c2
              have h0' : ¬ s = 0 := h0
              clear h0
              go_wp2
              go_ret
              exact ⟨by rw [HC.out]; rfl, HB2.out⟩
            · have HC : Hid (wantCode ⟨n, u, k, s, m⟩ = if isS m = false then 2 else 0) := want_sum HP.out HK.out HKK.out HS.out hsh
              by_cases h0 : s = 0
              · subst h0
                clear hsh hs0' hs6'
                go_wp2_with fail
                refine (wantSum_any p m _ HE2.out.sum).mono ?_
                rintro e w3 ⟨rfl, hb3⟩
                have HB3 := Lib.hid (HB2.out.trans (hb3.mono HB2.out.size))
                have hg := (HE2.out.below hb3).env.s1
                clear hb3
                cases hm : isS m with
                | false =>
                  have HM : Hid ((if isS m = false then 2 else 0) = 2) := by show (if isS m = false then 2 else 0) = 2; rw [if_pos hm]
                  clear hm
                  go_wp2
                  go_ret
                  exact ⟨by rw [HC.out, HM.out]; rfl, HB3.out⟩
                | true =>
                  have HM : Hid ((if isS m = false then 2 else 0) = 0) := by show (if isS m = false then 2 else 0) = 0; rw [if_neg (by simp [hm])]
                  clear hm
                  go_wp2
                  go_ret
                  exact ⟨by rw [HC.out, HM.out]; rfl, HB3.out⟩
              · have h0' : ¬ s = 0 := h0
                have hk1 : (k == [112, 108, 97, 105, 110]) = false := by
                  rw [beq_eq_false_iff_ne]
                  exact fun e => hsh ⟨h0, e⟩
                clear hsh h0
                go_wp2_with fail
                refine (wantSum_any p m _ HE2.out.sum).mono ?_
                rintro e w3 ⟨rfl, hb3⟩
                have HB3 := Lib.hid (HB2.out.trans (hb3.mono HB2.out.size))
                have hg := (HE2.out.below hb3).env.s1
                clear hb3
                cases hm : isS m with
                | false =>
                  have HM : Hid ((if isS m = false then 2 else 0) = 2) := by show (if isS m = false then 2 else 0) = 2; rw [if_pos hm]
                  clear hm
                  go_wp2
                  go_ret
                  exact ⟨by rw [HC.out, HM.out]; rfl, HB3.out⟩
                | true =>
                  have HM : Hid ((if isS m = false then 2 else 0) = 0) := by show (if isS m = false then 2 else 0) = 0; rw [if_neg (by simp [hm])]
                  clear hm
                  go_wp2
                  go_ret
                  exact ⟨by rw [HC.out, HM.out]; rfl, HB3.out⟩
theorem wantCheck_is (p : Nat → Addr) (n u k : List UInt8) (s m : Int) (c : Nat) (w : World) (hE : WEnv p w) (hn : n.length ≤ 90000) (hu : u.length ≤ 90000) (h : wantCode ⟨n, u, k, s, m⟩ = c) :
    Calls Tryz.prog 63 #[wv ⟨n, u, k, s, m⟩] w fun e w' => e = .returned (errV p c) ∧ Below w.heap.size w w' := by
  have := wantCheck_any p n u k s m w hE hn hu
  rwa [h] at this
end Go.Proofs.YtaegcoidpjcbaaaGreatDoor
/-
  Package want: Text: a contract, over this seat's translation.
-/
namespace Go.Proofs.YtaegcoidpjcbaaaGreatDoor
open Go.RowKit Go.Shelf

theorem join_words (a b c d e : List UInt8) : Lib.join [a, b, c, d, e] [32] = a ++ 32 :: (b ++ 32 :: (c ++ 32 :: (d ++ 32 :: e))) := by simp [Lib.join_cons, Lib.joinTail]

/-- strings.Join of five texts in a new block. -/
theorem join_five (a b c d e : List UInt8) (W : World) (ha : a.length ≤ 100000) (hb : b.length ≤ 100000) (hc : c.length ≤ 100000) (hd : d.length ≤ 100000) (he : e.length ≤ 100000) :
    Calls Tryz.prog 183 #[.slice (some ⟨W.heap.size, 0, none⟩) 5 5, .string ⟨#[32]⟩] (W.alloc (.cells #[.string ⟨a.toArray⟩, .string ⟨b.toArray⟩, .string ⟨c.toArray⟩, .string ⟨d.toArray⟩, .string ⟨e.toArray⟩] 9))
      fun x w' => x = .returned (.string ⟨(Lib.join [a, b, c, d, e] [32]).toArray⟩) ∧ Below W.heap.size W w' := by
  have hn := heap_new W (.cells #[.string ⟨a.toArray⟩, .string ⟨b.toArray⟩, .string ⟨c.toArray⟩, .string ⟨d.toArray⟩, .string ⟨e.toArray⟩] 9)
  have hB : Below W.heap.size W (W.alloc (.cells #[.string ⟨a.toArray⟩, .string ⟨b.toArray⟩, .string ⟨c.toArray⟩, .string ⟨d.toArray⟩, .string ⟨e.toArray⟩] 9)) := (Below.refl _ _).alloc (Nat.le_refl _) _
  have hlt : W.heap.size < (W.alloc (.cells #[.string ⟨a.toArray⟩, .string ⟨b.toArray⟩, .string ⟨c.toArray⟩, .string ⟨d.toArray⟩, .string ⟨e.toArray⟩] 9)).heap.size := by simp
  generalize W.alloc (.cells #[.string ⟨a.toArray⟩, .string ⟨b.toArray⟩, .string ⟨c.toArray⟩, .string ⟨d.toArray⟩, .string ⟨e.toArray⟩] 9) = V at hn hB hlt ⊢
  have hjl : (Lib.join [a, b, c, d, e] [32]).length ≤ 140737488355328 := by
    rw [join_words]
    simp only [List.length_append, List.length_cons]
    omega
  refine (Tryz.strings_Join W.heap.size 0 5 [⟨a.toArray⟩, ⟨b.toArray⟩, ⟨c.toArray⟩, ⟨d.toArray⟩, ⟨e.toArray⟩] ⟨#[32]⟩ V ?_ hlt (by simp) (by simp) ?_).mono ?_
  · intro j x hx
    rcases j with _ | _ | _ | _ | _ | j
    · simp at hx; subst hx; simp [World.cell?, hn]
    · simp at hx; subst hx; simp [World.cell?, hn]
    · simp at hx; subst hx; simp [World.cell?, hn]
    · simp at hx; subst hx; simp [World.cell?, hn]
    · simp at hx; subst hx; simp [World.cell?, hn]
    · simp at hx
  · simpa using hjl
  · rintro x w' ⟨rfl, hb⟩
    exact ⟨by simp, hB.trans (hb.mono hB.size)⟩

end Go.Proofs.YtaegcoidpjcbaaaGreatDoor
