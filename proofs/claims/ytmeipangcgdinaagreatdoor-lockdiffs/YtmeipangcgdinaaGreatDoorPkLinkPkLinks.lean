/-
  Own texts of the proof, joined by program: PkLink, PkLinks.
-/
import Derived.Test.YtmeipangcgdinaaGreatDoorCutCheckCleanPaths
import Derived.Test.YtmeipangcgdinaaGreatDoorLinkPureMirrorPureNetPure
import Derived.Deep.RegionWith
import Derived.Lib.Hide
/-
  Package link: isKind, cut, read, Check, Host, Begins, Swap: contracts, over this seat's translation.
-/
namespace Go.Proofs.YtmeipangcgdinaaGreatDoor
open Go.RowKit Go.Shelf

/-- What package link wants of the listed variables: five errors; and of one of the library's: that it holds some number. -/
structure LEnv (p : Nat → Addr) (w : World) : Prop where
  s0 : w.cell? ⟨3, 0, none⟩ = some (.iface 156 (.pointer (some (p 0))))
  s3 : w.cell? ⟨5, 0, none⟩ = some (.iface 156 (.pointer (some (p 3))))
  s4 : w.cell? ⟨4, 0, none⟩ = some (.iface 156 (.pointer (some (p 4))))
  s5 : w.cell? ⟨1, 0, none⟩ = some (.iface 156 (.pointer (some (p 5))))
  s7 : w.cell? ⟨0, 0, none⟩ = some (.iface 156 (.pointer (some (p 7))))
  mx : ∃ m, w.cell? ⟨8, 0, none⟩ = some (.int .i64 m)
theorem LEnv.below {p : Nat → Addr} {w w' : World} (E : LEnv p w) (hb : Below w.heap.size w w') : LEnv p w' where
  s0 := (hb.cell (p := ⟨3, 0, none⟩) (block_lt_of_cell E.s0)).trans E.s0
  s3 := (hb.cell (p := ⟨5, 0, none⟩) (block_lt_of_cell E.s3)).trans E.s3
  s4 := (hb.cell (p := ⟨4, 0, none⟩) (block_lt_of_cell E.s4)).trans E.s4
  s5 := (hb.cell (p := ⟨1, 0, none⟩) (block_lt_of_cell E.s5)).trans E.s5
  s7 := (hb.cell (p := ⟨0, 0, none⟩) (block_lt_of_cell E.s7)).trans E.s7
  mx := by
    obtain ⟨m, h⟩ := E.mx
    exact ⟨m, (hb.cell (p := ⟨8, 0, none⟩) (block_lt_of_cell h)).trans h⟩
theorem LEnv.path {p : Nat → Addr} {w : World} (E : LEnv p w) : PEnv p w := ⟨E.s4, E.s7⟩

theorem drawn_below (w : World) (n : Nat) : Below w.heap.size w (w.drewN n) := ⟨rfl, rfl, rfl, Nat.le_refl _, fun _ _ => rfl⟩

/-- strings.Cut at the end of a kind. -/
theorem cutKind_no (p : Nat → Addr) (s : List UInt8) (w : World) (hE : LEnv p w) (hs : s.length ≤ 90000) (h : cutM s = none) :
    Calls Tryz.prog 104 #[.string ⟨s.toArray⟩, .string ⟨#[58, 47, 47]⟩] w fun e w' => e = .returned (.tuple #[.string ⟨s.toArray⟩, .string ⟨#[]⟩, .bool false]) ∧ Below w.heap.size w w' := by
  obtain ⟨m, hm⟩ := hE.mx
  refine (Tryz.strings_Cut ⟨s.toArray⟩ ⟨#[58, 47, 47]⟩ m w (by simp [ByteArray.size]; omega) hm).mono ?_
  rintro e w' ⟨rfl, n, rfl⟩
  have e0 : Lib.cut (({ data := s.toArray } : ByteArray).data.toList) (({ data := #[58, 47, 47] } : ByteArray).data.toList) = (s, [], false) := by
    show Lib.cut s [58, 47, 47] = _
    rw [cut_cutM, h]
  rw [e0]
  exact ⟨rfl, drawn_below w n⟩
theorem cutKind_yes (p : Nat → Addr) (s a b : List UInt8) (w : World) (hE : LEnv p w) (hs : s.length ≤ 90000) (h : cutM s = some (a, b)) :
    Calls Tryz.prog 104 #[.string ⟨s.toArray⟩, .string ⟨#[58, 47, 47]⟩] w fun e w' => e = .returned (.tuple #[.string ⟨a.toArray⟩, .string ⟨b.toArray⟩, .bool true]) ∧ Below w.heap.size w w' := by
  obtain ⟨m, hm⟩ := hE.mx
  refine (Tryz.strings_Cut ⟨s.toArray⟩ ⟨#[58, 47, 47]⟩ m w (by simp [ByteArray.size]; omega) hm).mono ?_
  rintro e w' ⟨rfl, n, rfl⟩
  have e0 : Lib.cut (({ data := s.toArray } : ByteArray).data.toList) (({ data := #[58, 47, 47] } : ByteArray).data.toList) = (a, b, true) := by
    show Lib.cut s [58, 47, 47] = _
    rw [cut_cutM, h]
  rw [e0]
  exact ⟨rfl, drawn_below w n⟩
theorem cutSlash_no (l : List UInt8) (w : World) (h : cutL l = none) : Calls Tryz.prog 104 #[.string ⟨l.toArray⟩, .string ⟨#[47]⟩] w fun e w' => e = .returned (.tuple #[.string ⟨l.toArray⟩, .string ⟨#[]⟩, .bool false]) ∧ Below w.heap.size w w' :=
  (cut_none l w h).mono fun _ _ ⟨h1, h2⟩ => ⟨h1, by rw [h2]; exact Below.refl _ _⟩
theorem cutSlash_yes (l a b : List UInt8) (w : World) (hl : l.length ≤ 100000) (h : cutL l = some (a, b)) : Calls Tryz.prog 104 #[.string ⟨l.toArray⟩, .string ⟨#[47]⟩] w fun e w' => e = .returned (.tuple #[.string ⟨a.toArray⟩, .string ⟨b.toArray⟩, .bool true]) ∧ Below w.heap.size w w' :=
  (cut_some l a b w hl h).mono fun _ _ ⟨h1, n, h2⟩ => ⟨h1, by rw [h2]; exact drawn_below w n⟩

theorem isKind_any (k : List UInt8) (w : World) : Calls Tryz.prog 105 #[.string ⟨k.toArray⟩] w fun e w' => e = .returned (.bool (kindL k)) ∧ w' = w := by
  by_cases h1 : k = [104, 116, 116, 112]
  · subst h1
    go_enter Tryz.func105, Tryz.ntmps105
    go_wp2
    go_ret
    exact ⟨rfl, rfl⟩
  by_cases h2 : k = [102, 116, 112]
  · subst h2
    go_enter Tryz.func105, Tryz.ntmps105
    go_wp2
    go_ret
    exact ⟨rfl, rfl⟩
  by_cases h3 : k = [102, 105, 108, 101]
  · subst h3
    go_enter Tryz.func105, Tryz.ntmps105
    go_wp2
    go_ret
    exact ⟨rfl, rfl⟩
  have b1 : (k == [104, 116, 116, 112]) = false := by simpa using h1
  have b2 : (k == [102, 116, 112]) = false := by simpa using h2
  have b3 : (k == [102, 105, 108, 101]) = false := by simpa using h3
  have HK : Hid (kindL k = false) := by show kindL k = false; simp [kindL, b1, b2, b3]
  clear h1 h2 h3
  go_enter Tryz.func105, Tryz.ntmps105
  go_wp2
  go_ret
  exact ⟨by rw [HK.out]; rfl, rfl⟩
theorem isKind_is (k : List UInt8) (r : Bool) (w : World) (h : kindL k = r) : Calls Tryz.prog 105 #[.string ⟨k.toArray⟩] w fun e w' => e = .returned (.bool r) ∧ w' = w := by
  have := isKind_any k w
  rwa [h] at this

/-- path.Check of a host: it has no slash. -/
theorem host_code {b x y : List UInt8} (h : cutL b = some (x, y)) : checkCode x = if isPart x then 0 else 5 := by
  have hn : 47 ∉ x := by
    intro hm
    have : ∀ {l a c : List UInt8}, cutL l = some (a, c) → 47 ∉ a := by
      intro l
      induction l with
      | nil => intro a c h; simp [cutL] at h
      | cons d r ih =>
        intro a c h
        by_cases hd : d = 47
        · subst hd
          simp [cutL] at h
          rw [h.1]; simp
        · rw [cutL_miss hd] at h
          cases hr : cutL r with
          | none => rw [hr] at h; cases h
          | some ab =>
            rw [hr] at h
            simp at h
            obtain ⟨rfl, rfl⟩ := h
            simp only [List.mem_cons, not_or]
            exact ⟨fun e => hd e.symm, ih hr⟩
    exact this h hm
  unfold checkCode
  rw [pieces_part hn]
  by_cases hx : isPart x = true
  · simp [hx]
  · simp [hx]

set_option maxRecDepth 100000 in
set_option maxHeartbeats 2000000 in
theorem linkCut_any (p : Nat → Addr) (s : List UInt8) (w : World) (hE : LEnv p w) (hs : s.length ≤ 90000) :
    Calls Tryz.prog 89 #[.string ⟨s.toArray⟩] w fun e w' => e = .returned (.tuple #[.string ⟨(linkL s).1.toArray⟩, .string ⟨(linkL s).2.1.toArray⟩, errV p (linkL s).2.2]) ∧ Below w.heap.size w w' := by
  have HE := Lib.hid hE
  clear hE
  cases hm : cutM s with
  | none =>
    have HR := Lib.hid (link_no hm)
    have HM := Lib.hid hm
    clear hm
    go_enter Tryz.func89, Tryz.ntmps89
    go_wp2_with fail
    refine (cutKind_no p s _ HE.out hs HM.out).mono ?_
    rintro e w1 ⟨rfl, hb1⟩
    have HB1 := Lib.hid hb1
    clear hb1
    go_wp2_with fail
    refine (cutSlash_no [] _ rfl).mono ?_
    rintro e w2 ⟨rfl, hb2⟩
    have HB2 := Lib.hid (HB1.out.trans (hb2.mono HB1.out.size))
    have hg := (HE.out.below HB2.out).s0
    clear hb2
    go_wp2_with fail
    go_region
    go_wp2
    go_ret3
    exact ⟨by rw [HR.out]; rfl, HB2.out.drew⟩
  | some kb =>
    obtain ⟨k, b⟩ := kb
    have hlen := congrArg List.length (cutM_some hm)
    simp only [List.length_append, List.length_cons] at hlen
    cases hc : cutL b with
    | none =>
      have HR := Lib.hid (link_end hm hc)
      have HM := Lib.hid hm
      have HC := Lib.hid hc
      clear hm hc
      go_enter Tryz.func89, Tryz.ntmps89
      go_wp2_with fail
      refine (cutKind_yes p s k b _ HE.out hs HM.out).mono ?_
      rintro e w1 ⟨rfl, hb1⟩
      have HB1 := Lib.hid hb1
      clear hb1
      go_wp2_with fail
      refine (cutSlash_no b _ HC.out).mono ?_
      rintro e w2 ⟨rfl, hb2⟩
      have HB2 := Lib.hid (HB1.out.trans (hb2.mono HB1.out.size))
      have hg := (HE.out.below HB2.out).s0
      clear hb2
      go_wp2_with fail
      go_region
      go_wp2
      go_ret3
      exact ⟨by rw [HR.out]; rfl, HB2.out.drew⟩
    | some xy =>
      obtain ⟨x, y⟩ := xy
      have hlen2 := congrArg List.length (cutL_some hc)
      simp only [List.length_append, List.length_cons] at hlen2
      have HM := Lib.hid hm
      have HC := Lib.hid hc
      cases hk : kindL k with
      | false =>
        have HR := Lib.hid (link_kind hm hc hk)
        have HK := Lib.hid hk
        clear hm hc hk
        go_enter Tryz.func89, Tryz.ntmps89
        go_wp2_with fail
        refine (cutKind_yes p s k b _ HE.out hs HM.out).mono ?_
        rintro e w1 ⟨rfl, hb1⟩
        have HB1 := Lib.hid hb1
        clear hb1
        go_wp2_with fail
        refine (cutSlash_yes b x y _ (by omega) HC.out).mono ?_
        rintro e w2 ⟨rfl, hb2⟩
        have HB2 := Lib.hid (HB1.out.trans (hb2.mono HB1.out.size))
        have hg := (HE.out.below HB2.out).s3
        clear hb2
        go_wp2_with fail
        refine (isKind_is k false _ HK.out).mono ?_
        rintro e w' ⟨rfl, rfl⟩
        go_wp2_with fail
        go_region
        go_wp2
        go_ret3
        exact ⟨by rw [HR.out]; rfl, HB2.out.drew⟩
      | true =>
        have HK := Lib.hid hk
        cases hp : isPart x with
        | false =>
          have HR := Lib.hid (link_host hm hc hk hp)
          have HX : Hid (checkCode x = 5) := by show checkCode x = 5; rw [host_code hc, hp]; rfl
          clear hm hc hk hp
          go_enter Tryz.func89, Tryz.ntmps89
          go_wp2_with fail
          refine (cutKind_yes p s k b _ HE.out hs HM.out).mono ?_
          rintro e w1 ⟨rfl, hb1⟩
          have HB1 := Lib.hid hb1
          clear hb1
          go_wp2_with fail
          refine (cutSlash_yes b x y _ (by omega) HC.out).mono ?_
          rintro e w2 ⟨rfl, hb2⟩
          have HB2 := Lib.hid (HB1.out.trans (hb2.mono HB1.out.size))
          clear hb2
          go_wp2_with fail
          refine (isKind_is k true _ HK.out).mono ?_
          rintro e w' ⟨rfl, rfl⟩
          go_wp2_with fail
          refine (check_path p x _ (HE.out.below HB2.out).path (by omega)).mono ?_
          rintro e w3 ⟨rfl, hb3⟩
          have HB3 := Lib.hid (HB2.out.trans (hb3.mono HB2.out.size))
          clear hb3
          rw [HX.out, errV_some p (by decide)]
          go_wp2
          go_ret3
          exact ⟨by rw [HR.out]; rfl, HB3.out⟩
        | true =>
          have HR := Lib.hid (link_ok hm hc hk hp)
          have HX : Hid (checkCode x = 0) := by show checkCode x = 0; rw [host_code hc, hp]; rfl
          clear hm hc hk hp
          go_enter Tryz.func89, Tryz.ntmps89
          go_wp2_with fail
          refine (cutKind_yes p s k b _ HE.out hs HM.out).mono ?_
          rintro e w1 ⟨rfl, hb1⟩
          have HB1 := Lib.hid hb1
          clear hb1
          go_wp2_with fail
          refine (cutSlash_yes b x y _ (by omega) HC.out).mono ?_
          rintro e w2 ⟨rfl, hb2⟩
          have HB2 := Lib.hid (HB1.out.trans (hb2.mono HB1.out.size))
          clear hb2
          go_wp2_with fail
          refine (isKind_is k true _ HK.out).mono ?_
          rintro e w' ⟨rfl, rfl⟩
          go_wp2_with fail
          refine (check_path p x _ (HE.out.below HB2.out).path (by omega)).mono ?_
          rintro e w3 ⟨rfl, hb3⟩
          have HB3 := Lib.hid (HB2.out.trans (hb3.mono HB2.out.size))
          clear hb3
          rw [HX.out, errV_zero p]
          go_wp2
          go_ret3
          exact ⟨by rw [HR.out]; rfl, HB3.out⟩
end Go.Proofs.YtmeipangcgdinaaGreatDoor
/-
  Package link: read, Check, Host, Begins, Swap: contracts, over this seat's translation.
-/
namespace Go.Proofs.YtmeipangcgdinaaGreatDoor
open Go.RowKit Go.Shelf

theorem readK_link {s h q : List UInt8} {k : Nat} (e : linkL s = (h, q, k + 1)) : readK s = ([], [], k + 1) := by simp [readK, e]
theorem readK_path {s h q : List UInt8} {k : Nat} (e : linkL s = (h, q, 0)) (e1 : checkCode q = k + 1) : readK s = ([], [], k + 1) := by simp [readK, e, e1]
theorem readK_ok {s h q : List UInt8} (e : linkL s = (h, q, 0)) (e1 : checkCode q = 0) : readK s = (h, q, 0) := by simp [readK, e, e1]
theorem link_short' {s h q : List UInt8} {k : Nat} (e : linkL s = (h, q, k)) : h.length ≤ s.length ∧ q.length ≤ s.length := by
  have := link_short s
  rw [e] at this
  exact ⟨this.1, this.2.1⟩

theorem linkCut_is (p : Nat → Addr) (s h q : List UInt8) (k : Nat) (w : World) (hE : LEnv p w) (hs : s.length ≤ 90000) (e : linkL s = (h, q, k)) :
    Calls Tryz.prog 89 #[.string ⟨s.toArray⟩] w fun e w' => e = .returned (.tuple #[.string ⟨h.toArray⟩, .string ⟨q.toArray⟩, errV p k]) ∧ Below w.heap.size w w' := by
  have := linkCut_any p s w hE hs
  rwa [e] at this

set_option maxRecDepth 100000 in
set_option maxHeartbeats 1000000 in
theorem linkRead_any (p : Nat → Addr) (s : List UInt8) (w : World) (hE : LEnv p w) (hs : s.length ≤ 90000) :
    Calls Tryz.prog 74 #[.string ⟨s.toArray⟩] w fun e w' => e = .returned (.tuple #[.string ⟨(readK s).1.toArray⟩, .string ⟨(readK s).2.1.toArray⟩, errV p (readK s).2.2]) ∧ Below w.heap.size w w' := by
  have HE := Lib.hid hE
  clear hE
  obtain ⟨⟨h, q, c⟩, hl⟩ : ∃ r, linkL s = r := ⟨_, rfl⟩
  have hsh := link_short' hl
  cases c with
  | succ k =>
    have HR := Lib.hid (readK_link hl)
    have HL := Lib.hid hl
    clear hl
    go_enter Tryz.func74, Tryz.ntmps74
    go_wp2_with fail
    refine (linkCut_is p s h q _ _ HE.out hs HL.out).mono ?_
    rintro e w1 ⟨rfl, hb1⟩
    have HB1 := Lib.hid hb1
    clear hb1
    rw [errV_some p (Nat.succ_ne_zero k)]
    go_wp2
    go_ret3
    exact ⟨by rw [HR.out]; rfl, HB1.out⟩
  | zero =>
    have HL := Lib.hid hl
    cases hc : checkCode q with
    | succ k =>
      have HR := Lib.hid (readK_path hl hc)
      have HC := Lib.hid hc
      clear hl hc
      go_enter Tryz.func74, Tryz.ntmps74
      go_wp2_with fail
      refine (linkCut_is p s h q _ _ HE.out hs HL.out).mono ?_
      rintro e w1 ⟨rfl, hb1⟩
      have HB1 := Lib.hid hb1
      clear hb1
      rw [errV_zero]
      go_wp2_with fail
      refine (check_path p q _ (HE.out.below HB1.out).path (by omega)).mono ?_
      rintro e w2 ⟨rfl, hb2⟩
      have HB2 := Lib.hid (HB1.out.trans (hb2.mono HB1.out.size))
      clear hb2
      rw [HC.out, errV_some p (Nat.succ_ne_zero k)]
      go_wp2
      go_ret3
      exact ⟨by rw [HR.out]; rfl, HB2.out⟩
    | zero =>
      have HR := Lib.hid (readK_ok hl hc)
      have HC := Lib.hid hc
      clear hl hc
      go_enter Tryz.func74, Tryz.ntmps74
      go_wp2_with fail
      refine (linkCut_is p s h q _ _ HE.out hs HL.out).mono ?_
      rintro e w1 ⟨rfl, hb1⟩
      have HB1 := Lib.hid hb1
      clear hb1
      rw [errV_zero]
      go_wp2_with fail
      refine (check_path p q _ (HE.out.below HB1.out).path (by omega)).mono ?_
      rintro e w2 ⟨rfl, hb2⟩
      have HB2 := Lib.hid (HB1.out.trans (hb2.mono HB1.out.size))
      clear hb2
      rw [HC.out, errV_zero]
      go_wp2
      go_ret3
      exact ⟨by rw [HR.out]; rfl, HB2.out⟩

/-- link.Check. -/
theorem linkCheck_any (p : Nat → Addr) (s : List UInt8) (w : World) (hE : LEnv p w) (hs : s.length ≤ 90000) :
    Calls Tryz.prog 47 #[.string ⟨s.toArray⟩] w fun e w' => e = .returned (errV p (checkK s)) ∧ Below w.heap.size w w' := by
  have HE := Lib.hid hE
  clear hE
  go_enter Tryz.func47, Tryz.ntmps47
  go_wp2_with fail
  refine (linkRead_any p s _ HE.out hs).mono ?_
  rintro e w1 ⟨rfl, hb1⟩
  have HB1 := Lib.hid hb1
  clear hb1
  go_wp2
  go_ret
  exact ⟨rfl, HB1.out⟩
theorem linkCheck_is (p : Nat → Addr) (s : List UInt8) (k : Nat) (w : World) (hE : LEnv p w) (hs : s.length ≤ 90000) (h : checkK s = k) :
    Calls Tryz.prog 47 #[.string ⟨s.toArray⟩] w fun e w' => e = .returned (errV p k) ∧ Below w.heap.size w w' := by
  have := linkCheck_any p s w hE hs
  rwa [h] at this

theorem beginK_link {s h q : List UInt8} {k : Nat} (e : linkL s = (h, q, k + 1)) : beginK s = k + 1 := by simp [beginK, e]
theorem beginK_none {s h q : List UInt8} (e : linkL s = (h, q, 0)) (e1 : dropSlash q = []) : beginK s = 0 := by simp [beginK, e, e1]
theorem beginK_path {s h q : List UInt8} (e : linkL s = (h, q, 0)) (e1 : dropSlash q ≠ []) : beginK s = checkCode (dropSlash q) := by simp [beginK, e, e1]
theorem dropSlash_short (q : List UInt8) : (dropSlash q).length ≤ q.length := Lib.trimSuffix_le _ _

theorem cutPrefix_any (l q : List UInt8) (w : World) : Calls Tryz.prog 82 #[.string ⟨l.toArray⟩, .string ⟨q.toArray⟩] w fun e w' => e = .returned (.tuple #[.string ⟨(Lib.trimPrefix l q).toArray⟩, .bool (Lib.hasPrefix l q)]) ∧ w' = w :=
  Tryz.strings_CutPrefix ⟨l.toArray⟩ ⟨q.toArray⟩ w
theorem link_cat (a b : List UInt8) : ({ data := a.toArray } : ByteArray) ++ { data := b.toArray } = ⟨(a ++ b).toArray⟩ := by
  apply ByteArray.ext
  simp [ByteArray.data_append]
theorem swap_a {a b s : List UInt8} {k : Nat} (h : beginK a = k + 1) : swapK a b s = ([], k + 1) := by simp [swapK, h]
theorem swap_b {a b s : List UInt8} {k : Nat} (h1 : beginK a = 0) (h : beginK b = k + 1) : swapK a b s = ([], k + 1) := by simp [swapK, h1, h]
theorem swap_s {a b s : List UInt8} {k : Nat} (h1 : beginK a = 0) (h2 : beginK b = 0) (h : checkK s = k + 1) : swapK a b s = ([], k + 1) := by simp [swapK, h1, h2, h]
theorem swap_n {a b s : List UInt8} (h1 : beginK a = 0) (h2 : beginK b = 0) (h3 : checkK s = 0) (h : Lib.hasPrefix s a = false) : swapK a b s = ([], 6) := by simp [swapK, h1, h2, h3, h]
theorem swap_x {a b s : List UInt8} {k : Nat} (h1 : beginK a = 0) (h2 : beginK b = 0) (h3 : checkK s = 0) (h4 : Lib.hasPrefix s a = true) (h : checkK (b ++ s.drop a.length) = k + 1) : swapK a b s = ([], k + 1) := by simp [swapK, h1, h2, h3, h4, h]

end Go.Proofs.YtmeipangcgdinaaGreatDoor
