/-
  What is wanted: plain functions over lists of bytes: no machine.
-/
import Derived.Test.YtaegcoidpjcbaaaGreatDoorPackPurePackFacts
import Derived.Test.YtaegcoidpjcbaaaGreatDoorLinkPureNetPureMirrorPure
import Derived.Test.YtaegcoidpjcbaaaGreatDoorDigitsReadPurePressPureSumPure
namespace Go.Proofs.YtaegcoidpjcbaaaGreatDoor

/-- What is wanted: name, link, kind, parts that go, sum. -/
structure Wt where
  n : List UInt8
  u : List UInt8
  k : List UInt8
  s : Int
  m : Int
def Wt.zero : Wt := ⟨[], [], [], 0, 0⟩
def kPlain : List UInt8 := [112, 108, 97, 105, 110]
def kPack : List UInt8 := [112, 97, 99, 107]
def kPress : List UInt8 := [112, 114, 101, 115, 115]
def kindW (k : List UInt8) : Bool := k == [112, 108, 97, 105, 110] || k == [112, 97, 99, 107] || k == [112, 114, 101, 115, 115]

/-- The number of the error that checking what is wanted tells. -/
def wantCode (x : Wt) : Nat :=
  if isPart x.n = false then 5 else if checkK x.u ≠ 0 then checkK x.u else if kindW x.k = false then 4
  else if x.s < 0 ∨ 6 < x.s then 2 else if x.s ≠ 0 ∧ x.k = kPlain then 3 else if isS x.m = false then 2 else 0

theorem want_name {x : Wt} (h : isPart x.n = false) : wantCode x = 5 := by unfold wantCode; rw [if_pos h]
theorem want_link {x : Wt} {k : Nat} (h : isPart x.n = true) (h1 : checkK x.u = k + 1) : wantCode x = k + 1 := by unfold wantCode; rw [if_neg (by simp [h]), if_pos (by omega), h1]
theorem want_kind {x : Wt} (h : isPart x.n = true) (h1 : checkK x.u = 0) (h2 : kindW x.k = false) : wantCode x = 4 := by unfold wantCode; rw [if_neg (by simp [h]), if_neg (by omega), if_pos h2]
theorem want_strip {x : Wt} (h : isPart x.n = true) (h1 : checkK x.u = 0) (h2 : kindW x.k = true) (h3 : x.s < 0 ∨ 6 < x.s) : wantCode x = 2 := by unfold wantCode; rw [if_neg (by simp [h]), if_neg (by omega), if_neg (by simp [h2]), if_pos h3]
theorem want_shape {x : Wt} (h : isPart x.n = true) (h1 : checkK x.u = 0) (h2 : kindW x.k = true) (h3 : ¬ (x.s < 0 ∨ 6 < x.s)) (h4 : x.s ≠ 0 ∧ x.k = kPlain) : wantCode x = 3 := by unfold wantCode; rw [if_neg (by simp [h]), if_neg (by omega), if_neg (by simp [h2]), if_neg h3, if_pos h4]
theorem want_sum {x : Wt} (h : isPart x.n = true) (h1 : checkK x.u = 0) (h2 : kindW x.k = true) (h3 : ¬ (x.s < 0 ∨ 6 < x.s)) (h4 : ¬ (x.s ≠ 0 ∧ x.k = kPlain)) : wantCode x = if isS x.m = false then 2 else 0 := by unfold wantCode; rw [if_neg (by simp [h]), if_neg (by omega), if_neg (by simp [h2]), if_neg h3, if_neg h4]

theorem want_zero {x : Wt} (h : wantCode x = 0) : isPart x.n = true ∧ checkK x.u = 0 ∧ kindW x.k = true ∧ (0 ≤ x.s ∧ x.s ≤ 6) ∧ (x.s = 0 ∨ x.k ≠ kPlain) ∧ isS x.m = true := by
  unfold wantCode at h
  split at h
  · omega
  · split at h
    · omega
    · split at h
      · omega
      · split at h
        · omega
        · split at h
          · omega
          · split at h
            · omega
            · rename_i h1 h2 h3 h4 h5 h6
              refine ⟨by simpa using h1, by omega, by simpa using h3, by omega, ?_, by simpa using h6⟩
              by_cases h0 : x.s = 0
              · exact .inl h0
              · exact .inr fun e => h5 ⟨h0, e⟩
/-- Only the sum, and what goes of the paths, is another. -/
theorem want_other {x : Wt} (h : wantCode x = 0) (hk : x.k ≠ kPlain) {s m : Int} (hs : 0 ≤ s ∧ s ≤ 6) (hm : isS m = true) : wantCode { x with s := s, m := m } = 0 := by
  obtain ⟨h1, h2, h3, _, _, _⟩ := want_zero h
  rw [want_sum (x := { x with s := s, m := m }) h1 h2 h3 (by show ¬ (s < 0 ∨ 6 < s); omega) (fun e => hk e.2)]
  show (if isS m = false then 2 else 0) = 0
  rw [hm]
  rfl
theorem want_le (x : Wt) : wantCode x ≤ 8 := by
  have := checkK_small x.u
  unfold wantCode
  split
  · omega
  · split
    · omega
    · split
      · omega
      · split
        · omega
        · split
          · omega
          · split <;> omega

theorem part_noSlash {s : List UInt8} (h : isPart s = true) : 47 ∉ s := by
  intro hm
  simp only [isPart, Bool.and_eq_true, List.all_eq_true] at h
  exact absurd (h.2 _ hm) (by decide)
/-- A path of one part. -/
theorem part_path {s : List UInt8} : isPart s = true ↔ checkCode s = 0 ∧ (pieces s).length = 1 := by
  constructor
  · intro h
    have hp := pieces_none (cutL_no (part_noSlash h))
    refine ⟨?_, by rw [hp]; rfl⟩
    unfold checkCode
    rw [hp]
    simp [h]
  · rintro ⟨h, hl⟩
    have hn : cutL s = none := by
      cases hc : cutL s with
      | none => rfl
      | some y =>
        obtain ⟨a, b⟩ := y
        rw [pieces_some hc, List.length_cons] at hl
        have := List.length_pos_iff.2 (pieces_ne b)
        omega
    have hp := pieces_none hn
    unfold checkCode at h
    rw [hp] at h
    cases hs : isPart s with
    | true => rfl
    | false => simp [hs] at h

/-- Its text (not right: empty). -/
def wordsW (x : Wt) : List (List UInt8) := [x.n, x.u, x.k, digitsL x.s.toNat, textS x.m]
def textW (x : Wt) : List UInt8 := if wantCode x = 0 then Lib.join (wordsW x) [32] else []
theorem textW_yes {x : Wt} (h : wantCode x = 0) : textW x = Lib.join (wordsW x) [32] := by unfold textW; rw [if_pos h]
theorem textW_no {x : Wt} (h : wantCode x ≠ 0) : textW x = [] := by unfold textW; rw [if_neg h]

/-- One digit. -/
def digitW (d : List UInt8) : Bool := d.length == 1 && d.all isDigit
/-- Its value. -/
def valueW (d : List UInt8) : Int := ((d.headD 0).toNat : Int) - 48
/-- What five words say. -/
def fiveW (a b c d e : List UInt8) : Wt := ⟨a, b, c, valueW d, (readS e).1⟩
/-- What is read, and an error's number. -/
def readW (s : List UInt8) : Wt × Nat :=
  match piecesBy 32 s with
  | [a, b, c, d, e] => if (a = [] ∨ b = [] ∨ c = [] ∨ d = [] ∨ e = []) ∨ digitW d = false ∨ (readS e).2 ≠ 0 then (Wt.zero, 1)
    else if wantCode (fiveW a b c d e) ≠ 0 then (Wt.zero, wantCode (fiveW a b c d e)) else (fiveW a b c d e, 0)
  | _ => (Wt.zero, 1)
theorem readW_few {s : List UInt8} (h : (piecesBy 32 s).length ≠ 5) : readW s = (Wt.zero, 1) := by
  unfold readW
  split
  · rename_i e
    rw [e] at h
    exact absurd rfl h
  · rfl
theorem five_of {s : List UInt8} (h : (piecesBy 32 s).length = 5) : ∃ a b c d e, piecesBy 32 s = [a, b, c, d, e] := by
  generalize piecesBy 32 s = l at h ⊢
  rcases l with _ | ⟨a, _ | ⟨b, _ | ⟨c, _ | ⟨d, _ | ⟨e, _ | ⟨f, r⟩⟩⟩⟩⟩⟩
  · cases h
  · cases h
  · cases h
  · cases h
  · cases h
  · exact ⟨a, b, c, d, e, rfl⟩
  · simp at h
theorem readW_five {s a b c d e : List UInt8} (h : piecesBy 32 s = [a, b, c, d, e]) : readW s = if (a = [] ∨ b = [] ∨ c = [] ∨ d = [] ∨ e = []) ∨ digitW d = false ∨ (readS e).2 ≠ 0 then (Wt.zero, 1)
    else if wantCode (fiveW a b c d e) ≠ 0 then (Wt.zero, wantCode (fiveW a b c d e)) else (fiveW a b c d e, 0) := by
  unfold readW
  rw [h]

/-- A file that comes plain. -/
def plainT (x : Wt) (s : List UInt8) : List F × Nat := if (treeFault [⟨x.n, false, s⟩]).1 = 0 then ([⟨x.n, false, s⟩], 0) else ([], (treeFault [⟨x.n, false, s⟩]).1)
/-- A pack that came. -/
def packT (n : Int) (s : List UInt8) : List F × Nat × Int := if (readP s).2.1 ≠ 0 then ([], (readP s).2) else stripT (readP s).1 n
/-- A pressed text that came. -/
def pressT (n : Int) (s : List UInt8) : List F × Nat × Int := if (openS s 20000).2.1 ≠ 0 then ([], (openS s 20000).2) else packT n (openS s 20000).1
/-- What came, opened: the files, and an error's number. -/
def openW (x : Wt) (s : List UInt8) : List F × Nat :=
  if wantCode x ≠ 0 then ([], wantCode x) else if 20000 < s.length then ([], 2) else if x.k = kPlain then plainT x s
  else if x.k = kPack then ((packT x.s s).1, (packT x.s s).2.1) else ((pressT x.s s).1, (pressT x.s s).2.1)
theorem openW_bad {x : Wt} {s : List UInt8} {k : Nat} (h : wantCode x = k + 1) : openW x s = ([], k + 1) := by unfold openW; rw [if_pos (by omega), h]
theorem openW_long {x : Wt} {s : List UInt8} (h : wantCode x = 0) (hl : 20000 < s.length) : openW x s = ([], 2) := by unfold openW; rw [if_neg (by omega), if_pos hl]
theorem openW_plain {x : Wt} {s : List UInt8} (h : wantCode x = 0) (hl : ¬ 20000 < s.length) (hk : x.k = kPlain) : openW x s = plainT x s := by unfold openW; rw [if_neg (by omega), if_neg hl, if_pos hk]
theorem openW_pack {x : Wt} {s : List UInt8} (h : wantCode x = 0) (hl : ¬ 20000 < s.length) (hk : x.k = kPack) : openW x s = ((packT x.s s).1, (packT x.s s).2.1) := by unfold openW; rw [if_neg (by omega), if_neg hl, if_neg (by rw [hk]; decide), if_pos hk]
theorem openW_press {x : Wt} {s : List UInt8} (h : wantCode x = 0) (hl : ¬ 20000 < s.length) (hk : x.k = kPress) : openW x s = ((pressT x.s s).1, (pressT x.s s).2.1) := by unfold openW; rw [if_neg (by omega), if_neg hl, if_neg (by rw [hk]; decide), if_neg (by rw [hk]; decide)]

/-- What came, by its sum. -/
def rightW (x : Wt) (s : List UInt8) : List F × Nat :=
  if (openW x s).2 ≠ 0 then ([], (openW x s).2) else if (treeFault (openW x s).1).1 = 0 ∧ ((sumL (packL (openW x s).1) : Nat) : Int) = x.m then ((openW x s).1, 0) else ([], 12)

theorem kind_cases {k : List UInt8} (h : kindW k = true) : k = kPlain ∨ k = kPack ∨ k = kPress := by
  simp only [kindW, Bool.or_eq_true, beq_iff_eq] at h
  rcases h with (h | h) | h
  · exact .inl h
  · exact .inr (.inl h)
  · exact .inr (.inr h)

/-- A tree that is not stripped. -/
theorem stripL_none {s : List UInt8} (h : checkCode s = 0) : stripL s 0 = (s, 0) := by
  unfold stripL
  have := List.length_pos_iff.2 (pieces_ne s)
  rw [if_neg (by simp [h]), if_neg (by omega), if_neg (by omega)]
  show (Lib.join ((pieces s).drop 0) [47], 0) = _
  rw [List.drop_zero, join_pieces]
theorem stripT_none {l : List F} (h : (treeFault l).1 = 0) : stripT l 0 = (l, 0, -1) := by
  have hr : ∀ f ∈ l, checkCode f.p = 0 := fun f hf => ((tree_good.1 h).1.right f hf).1
  have hz : ∀ f ∈ l, (stripL f.p 0).2 = 0 := fun f hf => by rw [stripL_none (hr f hf)]
  have hs : stripAll 0 l = (l, 0, 0) := by
    unfold stripAll
    rw [mapPaths_all _ _ 0 hz]
    have : ∀ f ∈ l, ({ f with p := (stripL f.p 0).1 } : F) = id f := fun f hf => by rw [stripL_none (hr f hf)]; rfl
    rw [List.map_congr_left this, List.map_id]
  unfold stripT
  rw [if_neg (by simp [h]), hs, if_neg (by simp), sortT_tree h]

/-- What was packed comes back. -/
theorem packT_back {t l : List F} {n : Int} (ht : (treeFault t).1 = 0) (h : stripT t n = (l, 0, -1)) : packT n (packL t) = (l, 0, -1) := by
  unfold packT
  rw [readP_pack ht, if_neg (by simp)]
  exact h
theorem pressT_back {t l : List F} {n : Int} (ht : (treeFault t).1 = 0) (h : stripT t n = (l, 0, -1)) : pressT n (pressL (packL t)) = (l, 0, -1) := by
  have hl := pack_small ht
  have e := read_one (packL t) (by omega)
  have ho : openS (pressL (packL t)) 20000 = (packL t, 0, -1) := by
    rw [openS_fine (by rw [e]) (by rw [e]; show ¬ (20000 : Int) < (sizeL (runs (packL t)) : Nat); rw [size_runs]; omega), e]
    show (openL (runs (packL t)), 0, -1) = _
    rw [open_runs]
  unfold pressT
  rw [ho, if_neg (by simp)]
  exact packT_back ht h
/-- What is right has the sum, and no other. -/
theorem rightW_is {x : Wt} {s : List UInt8} {l : List F} (h : openW x s = (l, 0)) (hl : (treeFault l).1 = 0) : rightW x s = if ((sumL (packL l) : Nat) : Int) = x.m then (l, 0) else ([], 12) := by
  unfold rightW
  rw [h, if_neg (by simp)]
  simp only [hl, true_and]
end Go.Proofs.YtaegcoidpjcbaaaGreatDoor
