/-
  Own texts of the proof, gathered by program in their build order: Facts, TreePure, TreeSort, TreeFacts, TreeInsert, Digits, ReadPure, PackPure, SumPure, RefDigits, RefSum, PkSum, SumEnv, PkRead, PkWords, TreeMem.
-/
import Derived.Test.YtlofpooobabkjaaGreatDoorGathered1
import Derived.Lib.AtoiAllCases
import Derived.Lib.ItoaMem
import Derived.Test.YtlofpooobabkjaaGreatDoorChecked
import Derived.WalkKit
import Derived.WalkSmall
import Derived.WalkSpells
import Derived.Below
import Derived.Laws.IdiomStrings
import Derived.Lib.LaidTab
import Derived.Deep.QuietTactic
import Derived.BigQuiet
import Derived.Lib.SplitLaws
import Derived.Shelf.Strings.SplitCore
import Derived.WalkLawsBesides
import Derived.Laws.StructEq
/-
  What is clean stays so and is never outside; what is joined to a place is in it: facts on the plain functions of paths. No Go text is spoken of here.
-/
namespace Go.Proofs.YtlofpooobabkjaaGreatDoor

theorem pieces_app : ∀ (a b : List UInt8), pieces (a ++ 47 :: b) = pieces a ++ pieces b
  | [], b => by simp [pieces]
  | c :: r, b => by
    have ih := pieces_app r b
    by_cases hc : c = 47
    · simp [pieces, hc, ih]
    · have hne := pieces_ne r
      obtain ⟨p, ps, hp⟩ := List.exists_cons_of_ne_nil hne
      simp [pieces, hc, ih, hp]

theorem isPart_noSlash {x : List UInt8} (h : isPart x = true) : 47 ∉ x := by
  intro hx
  simp [isPart] at h
  have := h.2 47 hx
  exact absurd this (by decide)

theorem isPart_ne {x : List UInt8} (h : isPart x = true) : x ≠ [] ∧ x ≠ [46] ∧ x ≠ [46, 46] := by
  simp [isPart] at h
  exact ⟨h.1.1.1.1, h.1.1.2, h.1.2⟩

theorem pieces_part {x : List UInt8} (h : 47 ∉ x) : pieces x = [x] := pieces_none (cutL_no h)

theorem join_two (x : List UInt8) {ks : List (List UInt8)} (h : ks ≠ []) : Lib.join (x :: ks) [47] = x ++ 47 :: Lib.join ks [47] := by
  obtain ⟨y, r, rfl⟩ := List.exists_cons_of_ne_nil h
  rw [Lib.join_cons, Lib.join_cons]
  simp [Lib.joinTail]

theorem pieces_join : ∀ {ks : List (List UInt8)}, ks ≠ [] → (∀ x ∈ ks, isPart x = true) → pieces (Lib.join ks [47]) = ks
  | [], h, _ => absurd rfl h
  | [x], _, h => by rw [Lib.join_one]; exact pieces_part (isPart_noSlash (h x (by simp)))
  | x :: y :: r, _, h => by
    rw [join_two x (by simp), pieces_app, pieces_part (isPart_noSlash (h x (by simp))), pieces_join (ks := y :: r) (by simp) (fun z hz => h z (List.mem_cons_of_mem _ hz))]
    rfl

theorem join_pieces : ∀ l : List UInt8, Lib.join (pieces l) [47] = l
  | [] => by simp [pieces, Lib.join_one]
  | c :: r => by
    have ih := join_pieces r
    have hne := pieces_ne r
    obtain ⟨p, ps, hp⟩ := List.exists_cons_of_ne_nil hne
    by_cases hc : c = 47
    · subst hc
      have e : pieces (47 :: r) = [] :: pieces r := by simp [pieces]
      rw [e, join_two [] hne, ih]; rfl
    · have e : pieces (c :: r) = (c :: p) :: ps := by simp [pieces, hc, hp]
      rw [e, Lib.join_cons]
      rw [hp, Lib.join_cons] at ih
      rw [List.cons_append, ih]

theorem join_app : ∀ {a b : List (List UInt8)}, a ≠ [] → b ≠ [] → Lib.join (a ++ b) [47] = Lib.join a [47] ++ 47 :: Lib.join b [47]
  | [], _, h, _ => absurd rfl h
  | [x], b, _, hb => by rw [Lib.join_one]; exact join_two x hb
  | x :: y :: r, b, _, hb => by
    have ih := join_app (a := y :: r) (b := b) (by simp) hb
    have e1 : Lib.join (x :: (y :: r ++ b)) [47] = x ++ 47 :: Lib.join (y :: r ++ b) [47] := join_two x (by simp)
    rw [List.cons_append, e1, ih, join_two x (by simp)]
    simp

theorem cleanStep_lift (b k0 : List (List UInt8)) (x : List UInt8) (hc : (cleanStep (k0, 0) x).2 = 0) : cleanStep (b ++ k0, 0) x = (b ++ (cleanStep (k0, 0) x).1, 0) := by
  by_cases h1 : x = [] ∨ x = [46]
  · rw [cleanStep_dot (st := (k0, 0)) rfl h1, cleanStep_dot (st := (b ++ k0, 0)) rfl h1]
  by_cases h2 : x = [46, 46]
  · subst h2
    by_cases hk : k0 = []
    · rw [cleanStep_out (st := (k0, 0)) rfl hk] at hc
      cases hc
    · rw [cleanStep_up (st := (k0, 0)) rfl hk, cleanStep_up (st := (b ++ k0, 0)) rfl (by simp [hk])]
      simp only [List.dropLast_append_of_ne_nil hk]
  simp only [not_or] at h1
  by_cases hp : isPart x = true
  · rw [cleanStep_part (st := (k0, 0)) rfl h1.1 h1.2 h2 hp, cleanStep_part (st := (b ++ k0, 0)) rfl h1.1 h1.2 h2 hp]
    simp
  · rw [cleanStep_none (st := (k0, 0)) rfl h1.1 h1.2 h2 (by simpa using hp)] at hc
    cases hc

theorem foldl_lift (b : List (List UInt8)) : ∀ (xs k0 k : List (List UInt8)), xs.foldl cleanStep (k0, 0) = (k, 0) → xs.foldl cleanStep (b ++ k0, 0) = (b ++ k, 0)
  | [], k0, k, h => by simp at h; simp [h]
  | x :: xs, k0, k, h => by
    simp only [List.foldl_cons] at h ⊢
    by_cases hc : (cleanStep (k0, 0) x).2 = 0
    · rw [cleanStep_lift b k0 x hc]
      generalize cleanStep (k0, 0) x = st at h hc
      obtain ⟨k1, c1⟩ := st
      simp only at hc
      subst hc
      exact foldl_lift b xs _ k h
    · rw [cleanStep_stuck _ hc xs] at h
      rw [h] at hc
      exact absurd rfl hc

theorem cleanF_keep {ks : List (List UInt8)} (h : ∀ x ∈ ks, isPart x = true) : cleanF ks = (ks, 0) := by
  have : ∀ (ks k0 : List (List UInt8)), (∀ x ∈ ks, isPart x = true) → ks.foldl cleanStep (k0, 0) = (k0 ++ ks, 0) := by
    intro ks
    induction ks with
    | nil => intro k0 _; simp
    | cons x r ih =>
      intro k0 h
      have hx := h x List.mem_cons_self
      obtain ⟨h0, h1, h2⟩ := isPart_ne hx
      rw [List.foldl_cons, cleanStep_part (st := (k0, 0)) rfl h0 h1 h2 hx, ih _ (fun z hz => h z (List.mem_cons_of_mem _ hz))]
      simp
  have := this ks [] h
  simpa [cleanF] using this

theorem cleanF_app {xs ys kx ky : List (List UInt8)} (hx : cleanF xs = (kx, 0)) (hy : cleanF ys = (ky, 0)) : cleanF (xs ++ ys) = (kx ++ ky, 0) := by
  show (xs ++ ys).foldl cleanStep ([], 0) = _
  rw [List.foldl_append]
  have e : xs.foldl cleanStep ([], 0) = (kx, 0) := hx
  rw [e]
  have := foldl_lift kx ys [] ky hy
  simpa using this

/-- What a clean text is. -/
structure Clean (s c : List UInt8) (ks : List (List UInt8)) : Prop where
  head : s.head? ≠ some 47
  fold : cleanF (pieces s) = (ks, 0)
  parts : ∀ x ∈ ks, isPart x = true
  few : ks.length ≤ 6
  text : c = Lib.join ks [47]

theorem cleanL_ok {s c : List UInt8} (h : cleanL s = (c, 0)) : ∃ ks, Clean s c ks := by
  unfold cleanL at h
  split at h
  · cases h
  · rename_i hh
    split at h
    · rename_i hc
      simp at h
      exact absurd h.2 hc
    · rename_i hc
      split at h
      · cases h
      · rename_i hl
        simp at h hc
        refine ⟨(cleanF (pieces s)).1, hh, ?_, cleanF_parts _, by omega, h.symm⟩
        rw [← hc]

theorem cleanL_of {s c : List UInt8} {ks : List (List UInt8)} (h : Clean s c ks) : cleanL s = (c, 0) := by
  unfold cleanL
  rw [if_neg h.head, h.fold]
  have := h.few
  simp [h.text, show ¬ 6 < ks.length by omega]

theorem cleanL_bad {s c : List UInt8} {k : Nat} (h : cleanL s = (c, k + 1)) : c = [] := by
  unfold cleanL at h
  split at h
  · simp at h; exact h.1
  · split at h
    · simp at h; exact h.1
    · split at h
      · simp at h; exact h.1
      · simp at h

theorem head_join {ks : List (List UInt8)} (h : ∀ x ∈ ks, isPart x = true) : (Lib.join ks [47]).head? ≠ some 47 := by
  cases ks with
  | nil => simp [Lib.join_nil]
  | cons x r =>
    have hx := h x List.mem_cons_self
    obtain ⟨c, y, rfl⟩ := List.exists_cons_of_ne_nil (isPart_ne hx).1
    rw [Lib.join_cons]
    intro e
    simp at e
    exact isPart_noSlash hx (by rw [e]; exact List.mem_cons_self)

theorem join_eq_nil {ks : List (List UInt8)} (h : ∀ x ∈ ks, isPart x = true) (e : Lib.join ks [47] = []) : ks = [] := by
  cases ks with
  | nil => rfl
  | cons x r =>
    have hx := h x List.mem_cons_self
    rw [Lib.join_cons] at e
    simp at e
    exact absurd e.1 (isPart_ne hx).1

/-- What is clean stays so. -/
theorem clean_again {s c : List UInt8} {ks : List (List UInt8)} (h : Clean s c ks) : Clean c c ks := by
  refine ⟨by rw [h.text]; exact head_join h.parts, ?_, h.parts, h.few, h.text⟩
  by_cases hk : ks = []
  · subst hk
    rw [h.text, Lib.join_nil]
    decide
  · rw [h.text, pieces_join hk h.parts, cleanF_keep h.parts]

theorem checkCode_zero {l : List UInt8} : checkCode l = 0 ↔ (∀ x ∈ pieces l, isPart x = true) ∧ (pieces l).length ≤ 6 := by
  unfold checkCode
  split
  · rename_i h
    rw [List.all_eq_true] at h
    split
    · rename_i hl
      simp; intro _; omega
    · rename_i hl
      simp; exact ⟨h, by omega⟩
  · rename_i h
    simp only [List.all_eq_true] at h
    simp
    intro h'
    exact absurd h' h

theorem clean_checked {s c : List UInt8} {ks : List (List UInt8)} (h : Clean s c ks) (hc : c ≠ []) : pieces c = ks ∧ ks ≠ [] := by
  have hk : ks ≠ [] := fun e => hc (by rw [h.text, e, Lib.join_nil])
  exact ⟨by rw [h.text]; exact pieces_join hk h.parts, hk⟩

theorem clean_path {s c : List UInt8} {ks : List (List UInt8)} (h : Clean s c ks) (hc : c ≠ []) : checkCode c = 0 := by
  obtain ⟨e, _⟩ := clean_checked h hc
  rw [checkCode_zero, e]
  exact ⟨h.parts, h.few⟩

/-- No piece of what is clean leads anywhere else. -/
theorem clean_inside {s c : List UInt8} {ks : List (List UInt8)} (h : Clean s c ks) : ∀ x ∈ pieces c, x ≠ [46] ∧ x ≠ [46, 46] ∧ (c ≠ [] → x ≠ []) := by
  by_cases hc : c = []
  · subst hc
    intro x hx
    simp [pieces] at hx
    subst hx
    exact ⟨by simp, by simp, fun h => absurd rfl h⟩
  · obtain ⟨e, _⟩ := clean_checked h hc
    intro x hx
    rw [e] at hx
    obtain ⟨h0, h1, h2⟩ := isPart_ne (h.parts x hx)
    exact ⟨h1, h2, fun _ => h0⟩

theorem path_ne {d : List UInt8} (h : checkCode d = 0) : d ≠ [] := by
  intro e
  subst e
  exact absurd h (by decide)

/-- What is joined to a place. -/
theorem join_below {d s c : List UInt8} {ks : List (List UInt8)} (hd : checkCode d = 0) (h : Clean s c ks) (hc : c ≠ []) :
    cleanL (d ++ 47 :: s) = if 6 < (pieces d).length + ks.length then ([], 8) else (d ++ 47 :: c, 0) := by
  obtain ⟨hdp, hdl⟩ := checkCode_zero.1 hd
  obtain ⟨_, hk⟩ := clean_checked h hc
  have hf : cleanF (pieces (d ++ 47 :: s)) = (pieces d ++ ks, 0) := by
    rw [pieces_app]
    exact cleanF_app (cleanF_keep hdp) h.fold
  have hh : (d ++ 47 :: s).head? ≠ some 47 := by
    have := head_join hdp
    rw [join_pieces] at this
    obtain ⟨x, y, rfl⟩ := List.exists_cons_of_ne_nil (path_ne hd)
    simpa using this
  unfold cleanL
  rw [if_neg hh, hf]
  simp only [ne_eq, not_true_eq_false, if_false, List.length_append]
  split
  · rfl
  · rw [join_app (pieces_ne d) hk, join_pieces, ← h.text]

theorem joined_path {d s c : List UInt8} {ks : List (List UInt8)} (hd : checkCode d = 0) (h : Clean s c ks) (hc : c ≠ []) (hl : (pieces d).length + ks.length ≤ 6) : checkCode (d ++ 47 :: c) = 0 := by
  obtain ⟨hdp, hdl⟩ := checkCode_zero.1 hd
  obtain ⟨e, hk⟩ := clean_checked h hc
  rw [checkCode_zero, pieces_app, e]
  refine ⟨fun x hx => ?_, by simpa using hl⟩
  rcases List.mem_append.1 hx with hx | hx
  · exact hdp x hx
  · exact h.parts x hx

theorem hasPrefix_app (a b : List UInt8) : Lib.hasPrefix (a ++ b) a = true := by
  simp [Lib.hasPrefix]

/-- Parts, each with a slash behind it. -/
def headL (ks : List (List UInt8)) : List UInt8 := (ks.map (· ++ [47])).flatten

theorem headL_snoc (ks : List (List UInt8)) (x : List UInt8) : headL (ks ++ [x]) = headL ks ++ x ++ [47] := by simp [headL]

theorem headL_join : ∀ {a b : List (List UInt8)}, b ≠ [] → headL a ++ Lib.join b [47] = Lib.join (a ++ b) [47]
  | [], b, _ => by simp [headL]
  | x :: a, b, hb => by
    have ih := headL_join (a := a) (b := b) hb
    have e : headL (x :: a) = x ++ 47 :: headL a := by simp [headL]
    rw [e, List.cons_append, join_two x (by simp [hb]), ← ih]
    simp

theorem headL_length {M : Nat} : ∀ {ks : List (List UInt8)}, (∀ x ∈ ks, x.length ≤ M) → (headL ks).length ≤ (M + 1) * ks.length
  | [], _ => by simp [headL]
  | x :: ks, h => by
    have h1 := h x List.mem_cons_self
    have h2 := headL_length (ks := ks) (fun y hy => h y (List.mem_cons_of_mem _ hy))
    have e : headL (x :: ks) = x ++ 47 :: headL ks := by simp [headL]
    rw [e, List.length_append, List.length_cons, List.length_cons, Nat.mul_add]
    omega

/-- What is left of a path is a path. -/
theorem rest_path {s : List UInt8} {n : Nat} (h : checkCode s = 0) (hn : n < (pieces s).length) : pieces (Lib.join ((pieces s).drop n) [47]) = (pieces s).drop n ∧ checkCode (Lib.join ((pieces s).drop n) [47]) = 0 := by
  obtain ⟨hp, hl⟩ := checkCode_zero.1 h
  have hne : (pieces s).drop n ≠ [] := by
    intro e
    have := congrArg List.length e
    rw [List.length_drop] at this
    simp at this
    omega
  have hp' : ∀ x ∈ (pieces s).drop n, isPart x = true := fun x hx => hp x (List.mem_of_mem_drop hx)
  have e := pieces_join hne hp'
  refine ⟨e, ?_⟩
  rw [checkCode_zero, e]
  exact ⟨hp', by rw [List.length_drop]; omega⟩

theorem strip_twice {s : List UInt8} {n m : Nat} (h : checkCode s = 0) (hn : n < (pieces s).length) : stripL (Lib.join ((pieces s).drop n) [47]) m = stripL s ((n : Int) + m) := by
  obtain ⟨e1, e2⟩ := rest_path h hn
  unfold stripL
  rw [e2, e1, h]
  simp only [ne_eq, not_true_eq_false, if_false]
  have e3 : ((n : Int) + m).toNat = n + m := by omega
  have n1 : ¬ (m : Int) < 0 := by omega
  have n2 : ¬ (n : Int) + m < 0 := by omega
  rw [if_neg n1, if_neg n2, List.length_drop, List.drop_drop, e3, Int.toNat_natCast]
  by_cases hl : (pieces s).length ≤ n + m
  · rw [if_pos (by omega), if_pos (by omega)]
  · rw [if_neg (by omega), if_neg (by omega)]

theorem strip_head {s : List UInt8} {n : Nat} (hn : n < (pieces s).length) : headL ((pieces s).take n) ++ Lib.join ((pieces s).drop n) [47] = s := by
  have hne : (pieces s).drop n ≠ [] := by
    intro e
    have := congrArg List.length e
    rw [List.length_drop] at this
    simp at this
    omega
  rw [headL_join hne, List.take_append_drop, join_pieces]
theorem isPart_short {x : List UInt8} (h : isPart x = true) : x.length ≤ 12 := by
  simp [isPart] at h
  omega
theorem join_short : ∀ ks : List (List UInt8), (∀ x ∈ ks, isPart x = true) → (Lib.join ks [47]).length ≤ 13 * ks.length
  | [], _ => by simp [Lib.join_nil]
  | [x], h => by
    have := isPart_short (h x (by simp))
    rw [Lib.join_one]; simp; omega
  | x :: y :: r, h => by
    have h1 := isPart_short (h x (by simp))
    have h2 := join_short (y :: r) fun z hz => h z (List.mem_cons_of_mem _ hz)
    rw [join_two x (by simp)]
    simp at h2 ⊢
    omega
theorem path_short {s : List UInt8} (h : checkCode s = 0) : s.length ≤ 78 := by
  obtain ⟨hp, hl⟩ := checkCode_zero.1 h
  have := join_short (pieces s) hp
  rw [join_pieces] at this
  omega
end Go.Proofs.YtlofpooobabkjaaGreatDoor
/-
  Trees as lists of files: the order of texts, what a tree's fault is, and what putting, dropping, grafting, stripping and sorting answer. No Go text is spoken of here.
-/
namespace Go.Proofs.YtlofpooobabkjaaGreatDoor

abbrev less := Op.bytesLess

theorem less_irrefl : ∀ a : List UInt8, less a a = false
  | [] => rfl
  | c :: r => by
    have h := less_irrefl r
    simp only [less] at h
    simp [less, Op.bytesLess, h]

theorem less_trans : ∀ {a b c : List UInt8}, less a b = true → less b c = true → less a c = true
  | _, [], _, h, _ => by simp [less, Op.bytesLess] at h
  | _, _ :: _, [], _, h => by simp [less, Op.bytesLess] at h
  | [], _ :: _, _ :: _, _, _ => by simp [less, Op.bytesLess]
  | x :: a, y :: b, z :: c, h1, h2 => by
    simp only [less, Op.bytesLess, Bool.or_eq_true, Bool.and_eq_true, decide_eq_true_eq, beq_iff_eq] at h1 h2 ⊢
    rcases h1 with h1 | ⟨rfl, h1⟩ <;> rcases h2 with h2 | ⟨rfl, h2⟩
    · exact .inl (UInt8.lt_trans h1 h2)
    · exact .inl h1
    · exact .inl h2
    · exact .inr ⟨rfl, less_trans (a := a) (b := b) (c := c) h1 h2⟩

theorem less_total : ∀ {a b : List UInt8}, less a b = false → less b a = false → a = b
  | [], [], _, _ => rfl
  | [], _ :: _, h, _ => by simp [less, Op.bytesLess] at h
  | _ :: _, [], _, h => by simp [less, Op.bytesLess] at h
  | x :: a, y :: b, h1, h2 => by
    simp only [less, Op.bytesLess, Bool.or_eq_false_iff, Bool.and_eq_false_iff, decide_eq_false_iff_not, beq_eq_false_iff_ne] at h1 h2
    have e : x = y := UInt8.le_antisymm (UInt8.not_lt.1 h2.1) (UInt8.not_lt.1 h1.1)
    subst e
    have := less_total (a := a) (b := b) (by rcases h1.2 with h | h <;> simp_all) (by rcases h2.2 with h | h <;> simp_all)
    rw [this]

theorem less_asymm {a b : List UInt8} (h : less a b = true) : less b a = false := by
  cases h' : less b a with
  | false => rfl
  | true => have := less_trans h h'; rw [less_irrefl] at this; cases this

theorem less_ne {a b : List UInt8} (h : less a b = true) : a ≠ b := by
  rintro rfl
  rw [less_irrefl] at h; cases h

/-- The order below one place. -/
theorem less_below : ∀ (d a b : List UInt8), less (d ++ a) (d ++ b) = less a b
  | [], _, _ => rfl
  | x :: d, a, b => by
    have := less_below d a b
    simp only [less] at this
    simp [less, Op.bytesLess, this]

structure F where
  p : List UInt8
  r : Bool
  t : List UInt8
deriving DecidableEq
instance : Inhabited F := ⟨⟨[], false, []⟩⟩

/-- The number of the error of a file behind those ahead of it (0: none). -/
def fileCode (pre : List F) (f : F) : Nat :=
  if checkCode f.p ≠ 0 then checkCode f.p
  else if 4000 < f.t.length then 2
  else if pre ≠ [] ∧ less ((pre.getLast?.map (·.p)).getD []) f.p = false then 9
  else if pre.any (fun g => isIn f.p g.p) then 11
  else 0

def firstBad : List F → List F → Option (Nat × Nat)
  | _, [] => none
  | pre, f :: r => if fileCode pre f ≠ 0 then some (fileCode pre f, pre.length) else firstBad (pre ++ [f]) r

def total (l : List F) : Nat := (l.map fun f => f.t.length).sum

/-- A tree's fault: an error's number (0: none), and where (-1: nowhere). -/
def treeFault (l : List F) : Nat × Int :=
  if 30 < l.length then (8, -1)
  else match firstBad [] l with
    | some (c, i) => (c, i)
    | none => if 12000 < total l then (2, -1) else (0, -1)

theorem firstBad_some {l : List F} : ∀ {k : Nat} {pre : List F} {r : List F}, l = pre ++ r → (∀ i (h : i < r.length), i < k → fileCode (pre ++ r.take i) r[i] = 0) → (hk : k < r.length) → fileCode (pre ++ r.take k) r[k] ≠ 0 →
    firstBad pre r = some (fileCode (pre ++ r.take k) r[k], pre.length + k)
  | k, pre, [], _, _, hk, _ => by simp at hk
  | 0, pre, f :: r, _, _, _, h => by
    simp at h
    simp [firstBad, h]
  | k + 1, pre, f :: r, e, h0, hk, h => by
    have z := h0 0 (by simp) (by omega)
    simp at z
    have ih := firstBad_some (l := l) (k := k) (pre := pre ++ [f]) (r := r) (by simp [e]) (fun i hi hik => by
      have := h0 (i + 1) (by simp; omega) (by omega)
      simpa using this) (by simpa using hk) (by simpa using h)
    simp [firstBad, z, ih]
    omega

theorem firstBad_none {l : List F} : ∀ {pre r : List F}, l = pre ++ r → (∀ i (h : i < r.length), fileCode (pre ++ r.take i) r[i] = 0) → firstBad pre r = none
  | _, [], _, _ => rfl
  | pre, f :: r, e, h => by
    have z := h 0 (by simp)
    simp at z
    have ih := firstBad_none (l := l) (pre := pre ++ [f]) (r := r) (by simp [e]) (fun i hi => by
      have := h (i + 1) (by simp; omega)
      simpa using this)
    simp [firstBad, z, ih]

theorem treeFault_long {l : List F} (h : 30 < l.length) : treeFault l = (8, -1) := by simp [treeFault, h]
theorem treeFault_at {l : List F} {k : Nat} (hl : l.length ≤ 30) (hk : k < l.length) (h0 : ∀ i (h : i < l.length), i < k → fileCode (l.take i) l[i] = 0) (h : fileCode (l.take k) l[k] ≠ 0) :
    treeFault l = (fileCode (l.take k) l[k], (k : Int)) := by
  have := firstBad_some (l := l) (pre := []) (r := l) rfl (by simpa using h0) hk (by simpa using h)
  simp [treeFault, Nat.not_lt.2 hl, this]
theorem treeFault_end {l : List F} (hl : l.length ≤ 30) (h0 : ∀ i (h : i < l.length), fileCode (l.take i) l[i] = 0) :
    treeFault l = if 12000 < total l then (2, -1) else (0, -1) := by
  have := firstBad_none (l := l) (pre := []) (r := l) rfl (by simpa using h0)
  simp [treeFault, Nat.not_lt.2 hl, this]

theorem firstBad_zero : ∀ {pre r : List F}, firstBad pre r = none → ∀ i (h : i < r.length), fileCode (pre ++ r.take i) r[i] = 0
  | _, [], _, _, h => by simp at h
  | pre, f :: r, e, i, h => by
    by_cases z : fileCode pre f = 0
    · simp [firstBad, z] at e
      have ih := firstBad_zero e
      cases i with
      | zero => simpa using z
      | succ i => have := ih i (by simpa using h); simpa using this
    · simp [firstBad, z] at e

/-- A right tree. -/
structure Tree (l : List F) : Prop where
  few : l.length ≤ 30
  each : ∀ i (h : i < l.length), fileCode (l.take i) l[i] = 0
  small : total l ≤ 12000

theorem firstBad_code : ∀ {pre r : List F} {c i : Nat}, firstBad pre r = some (c, i) → c ≠ 0
  | _, [], _, _, h => by simp [firstBad] at h
  | pre, f :: r, c, i, h => by
    by_cases z : fileCode pre f = 0
    · simp [firstBad, z] at h
      exact firstBad_code h
    · simp [firstBad, z] at h
      rw [← h.1]; exact z

theorem tree_iff {l : List F} : (treeFault l).1 = 0 ↔ Tree l := by
  constructor
  · intro h
    by_cases hl : 30 < l.length
    · simp [treeFault, hl] at h
    · unfold treeFault at h
      rw [if_neg hl] at h
      cases hb : firstBad [] l with
      | some x => rw [hb] at h; exact absurd h (firstBad_code (c := x.1) (i := x.2) hb)
      | none =>
        rw [hb] at h
        refine ⟨Nat.not_lt.1 hl, fun i hi => by simpa using firstBad_zero hb i hi, ?_⟩
        by_cases ht : 12000 < total l
        · simp [ht] at h
        · omega
  · intro h
    rw [treeFault_end h.few h.each, if_neg (Nat.not_lt.2 h.small)]

theorem treeFault_zero {l : List F} (h : (treeFault l).1 = 0) : treeFault l = (0, -1) := by
  have t := tree_iff.1 h
  rw [treeFault_end t.few t.each, if_neg (Nat.not_lt.2 t.small)]

end Go.Proofs.YtlofpooobabkjaaGreatDoor
/-
  Trees as lists of files: a right tree is one whose files are right and rise, none in another; sorted lists; what putting, dropping, grafting and stripping answer. No Go text is spoken of here.
-/
namespace Go.Proofs.YtlofpooobabkjaaGreatDoor

def Rise (l : List F) : Prop := l.Pairwise fun a b => less a.p b.p = true
def Apart (l : List F) : Prop := l.Pairwise fun a b => isIn b.p a.p = false
def Right (f : F) : Prop := checkCode f.p = 0 ∧ f.t.length ≤ 4000

theorem fileCode_zero {pre : List F} {f : F} : fileCode pre f = 0 ↔ Right f ∧ (pre = [] ∨ less ((pre.getLast?.map (·.p)).getD []) f.p = true) ∧ ∀ g ∈ pre, isIn f.p g.p = false := by
  unfold fileCode Right
  by_cases h1 : checkCode f.p = 0
  · by_cases h2 : 4000 < f.t.length
    · simp [h1, h2]; omega
    · by_cases h3 : pre ≠ [] ∧ less ((pre.getLast?.map (·.p)).getD []) f.p = false
      · obtain ⟨a, b⟩ := h3
        simp [h1, h2, a, b]
      · have h3' : pre = [] ∨ less ((pre.getLast?.map (·.p)).getD []) f.p = true := by
          by_cases hp : pre = []
          · exact .inl hp
          · right
            cases hl : less ((pre.getLast?.map (·.p)).getD []) f.p with
            | true => rfl
            | false => exact absurd ⟨hp, hl⟩ h3
        rw [if_neg (by simp [h1]), if_neg h2, if_neg h3]
        by_cases h4 : (pre.any fun g => isIn f.p g.p) = true
        · rw [if_pos h4]
          simp only [List.any_eq_true] at h4
          obtain ⟨g, hg, hi⟩ := h4
          constructor
          · intro h; cases h
          · rintro ⟨_, _, h⟩
            rw [h g hg] at hi; cases hi
        · rw [if_neg h4]
          refine ⟨fun _ => ⟨⟨h1, by omega⟩, h3', fun g hg => ?_⟩, fun _ => rfl⟩
          cases hi : isIn f.p g.p with
          | false => rfl
          | true => exact absurd (List.any_eq_true.2 ⟨g, hg, hi⟩) h4
  · simp [h1]

structure Good (l : List F) : Prop where
  right : ∀ f ∈ l, Right f
  rise : Rise l
  apart : Apart l

theorem good_snoc {pre : List F} {f : F} (h : Good pre) (hf : fileCode pre f = 0) : Good (pre ++ [f]) := by
  obtain ⟨hr, hl, ha⟩ := fileCode_zero.1 hf
  refine ⟨fun g hg => ?_, ?_, ?_⟩
  · rcases List.mem_append.1 hg with hg | hg
    · exact h.right g hg
    · rw [List.mem_singleton.1 hg]; exact hr
  · refine List.pairwise_append.2 ⟨h.rise, by simp, fun a hm b hb => ?_⟩
    rw [List.mem_singleton.1 hb]
    rcases List.eq_nil_or_concat pre with rfl | ⟨q, z, rfl⟩
    · simp at hm
    · rw [List.concat_eq_append] at hm hl h
      have hz : less z.p f.p = true := by simpa using hl
      rcases List.mem_append.1 hm with hm | hm
      · exact less_trans ((List.pairwise_append.1 h.rise).2.2 a hm z (by simp)) hz
      · rw [List.mem_singleton.1 hm]; exact hz
  · refine List.pairwise_append.2 ⟨h.apart, by simp, fun a hm b hb => ?_⟩
    rw [List.mem_singleton.1 hb]
    exact ha a hm

theorem good_of : ∀ {r pre : List F}, Good pre → (∀ i (h : i < r.length), fileCode (pre ++ r.take i) r[i] = 0) → Good (pre ++ r)
  | [], pre, h, _ => by simpa using h
  | f :: r, pre, h, h0 => by
    have z := h0 0 (by simp)
    have := good_of (r := r) (pre := pre ++ [f]) (good_snoc h (by simpa using z)) (fun i hi => by
      have := h0 (i + 1) (by simp; omega)
      simpa using this)
    simpa using this

theorem good_nil : Good [] := ⟨by simp, by simp [Rise], by simp [Apart]⟩

theorem good_iff {l : List F} : (∀ i (h : i < l.length), fileCode (l.take i) l[i] = 0) ↔ Good l := by
  constructor
  · intro h
    have := good_of (r := l) good_nil (by simpa using h)
    simpa using this
  · intro h i hi
    refine fileCode_zero.2 ⟨h.right _ (List.getElem_mem hi), ?_, fun g hg => ?_⟩
    · by_cases hz : i = 0
      · left; simp [hz]
      · right
        have : (l.take i).getLast? = some l[i - 1] := by
          rw [List.getLast?_eq_getElem?, List.length_take, Nat.min_eq_left (by omega), List.getElem?_take_of_lt (by omega)]
          exact List.getElem?_eq_getElem (by omega)
        rw [this]
        exact List.pairwise_iff_getElem.1 h.rise (i - 1) i (by omega) hi (by omega)
    · obtain ⟨k, hk, rfl⟩ := List.getElem_of_mem hg
      rw [List.getElem_take]
      rw [List.length_take] at hk
      exact List.pairwise_iff_getElem.1 h.apart k i (by omega) hi (by omega)

theorem tree_good {l : List F} : (treeFault l).1 = 0 ↔ Good l ∧ l.length ≤ 30 ∧ total l ≤ 12000 := by
  rw [tree_iff]
  exact ⟨fun h => ⟨good_iff.1 h.each, h.few, h.small⟩, fun h => ⟨h.2.1, good_iff.2 h.1, h.2.2⟩⟩

theorem total_sub {a b : List F} (h : a.Sublist b) : total a ≤ total b := by
  induction h with
  | slnil => exact Nat.le_refl _
  | cons f h ih => simp [total] at ih ⊢; omega
  | cons_cons f h ih => simp [total] at ih ⊢; omega

/-- A part of a right tree is one. -/
theorem tree_sub {a b : List F} (h : a.Sublist b) (hb : (treeFault b).1 = 0) : (treeFault a).1 = 0 := by
  obtain ⟨g, hl, ht⟩ := tree_good.1 hb
  exact tree_good.2 ⟨⟨fun f hf => g.right f (h.subset hf), g.rise.sublist h, g.apart.sublist h⟩, Nat.le_trans h.length_le hl, Nat.le_trans (total_sub h) ht⟩

/-- Sorted, if not strictly. -/
def Weak (l : List F) : Prop := l.Pairwise fun a b => less b.p a.p = false
theorem Rise.weak {l : List F} (h : Rise l) : Weak l := h.imp less_asymm

def leF (a b : F) : Bool := !less b.p a.p
def sortF (l : List F) : List F := l.mergeSort leF

theorem less_weak {a b c : List UInt8} (h1 : less b a = false) (h2 : less c b = false) : less c a = false := by
  cases h : less c a with
  | false => rfl
  | true =>
    cases hab : less a b with
    | true => rw [less_trans h hab] at h2; cases h2
    | false => rw [less_total hab h1] at h; rw [h] at h2; cases h2

theorem sortF_weak (l : List F) : Weak (sortF l) := by
  have := List.pairwise_mergeSort (le := leF) (fun a b c h1 h2 => by simp [leF] at h1 h2 ⊢; exact less_weak h1 h2) (fun a b => by
    simp only [leF]
    cases h : less b.p a.p with
    | false => simp
    | true => simp [less_asymm h]) l
  exact this.imp fun h => by simpa [leF] using h
theorem sortF_perm (l : List F) : (sortF l).Perm l := List.mergeSort_perm l leF

theorem inj_of_nodup {l : List F} (h : (l.map (·.p)).Nodup) {a b : F} (ha : a ∈ l) (hb : b ∈ l) (e : a.p = b.p) : a = b := by
  have h' := List.pairwise_map.1 (List.nodup_iff_pairwise_ne.1 h)
  obtain ⟨i, hi, rfl⟩ := List.getElem_of_mem ha
  obtain ⟨j, hj, rfl⟩ := List.getElem_of_mem hb
  have := List.pairwise_iff_getElem.1 h'
  rcases Nat.lt_trichotomy i j with hij | rfl | hij
  · exact absurd e (this i j hi hj hij)
  · rfl
  · exact absurd e.symm (this j i hj hi hij)

theorem sort_unique {s t l : List F} (hs : s.Perm l) (ht : t.Perm l) (ws : Weak s) (wt : Weak t) (hn : (l.map (·.p)).Nodup) : s = t :=
  List.Perm.eq_of_pairwise (fun _ _ ha hb h1 h2 => inj_of_nodup hn (hs.subset ha) (ht.subset hb) (less_total h2 h1)) ws wt (hs.trans ht.symm)

theorem sortF_of {s l : List F} (hs : s.Perm l) (ws : Weak s) (hn : (l.map (·.p)).Nodup) : s = sortF l := sort_unique hs (sortF_perm l) ws (sortF_weak l) hn

theorem rise_nodup {l : List F} (h : Rise l) : (l.map (·.p)).Nodup := List.nodup_iff_pairwise_ne.2 (List.pairwise_map.2 (h.imp less_ne))

theorem rise_of {l : List F} (h : Weak l) (hn : (l.map (·.p)).Nodup) : Rise l := by
  have hn' := List.pairwise_map.1 (List.nodup_iff_pairwise_ne.1 hn)
  refine List.pairwise_iff_getElem.2 fun i j hi hj hij => ?_
  have h1 := List.pairwise_iff_getElem.1 h i j hi hj hij
  have h2 := List.pairwise_iff_getElem.1 hn' i j hi hj hij
  cases hl : less l[i].p l[j].p with
  | true => rfl
  | false => exact absurd (less_total hl h1) h2

/-- Two neighbours of one path: two of one path; none such: all paths are two by two other ones. -/
theorem nodup_of_step {l : List F} (h : Weak l) (hs : ∀ i (hi : i + 1 < l.length), l[i + 1].p ≠ l[i].p) : (l.map (·.p)).Nodup := by
  refine rise_nodup (List.pairwise_iff_getElem.2 ?_)
  have step : ∀ i (hi : i + 1 < l.length), less l[i].p l[i + 1].p = true := fun i hi => by
    cases hl : less l[i].p l[i + 1].p with
    | true => rfl
    | false => exact absurd (less_total hl (List.pairwise_iff_getElem.1 h i (i + 1) (by omega) hi (by omega))).symm (hs i hi)
  intro i j hi hj hij
  obtain ⟨d, rfl⟩ : ∃ d, j = i + 1 + d := ⟨j - i - 1, by omega⟩
  induction d with
  | zero => exact step i hj
  | succ d ih => exact less_trans (ih (by omega) (by omega)) (step (i + 1 + d) hj)

theorem not_nodup_of_step {l : List F} {i : Nat} (hi : i + 1 < l.length) (e : l[i + 1].p = l[i].p) : ¬ (l.map (·.p)).Nodup := fun h => by
  have h' := List.pairwise_map.1 (List.nodup_iff_pairwise_ne.1 h)
  exact List.pairwise_iff_getElem.1 h' i (i + 1) (by omega) hi (by omega) e.symm

/-- What sorting answers: the files, an error's number, and where. -/
def sortT (l : List F) : List F × Nat × Int :=
  if (l.map (·.p)).Nodup then (if (treeFault (sortF l)).1 = 0 then (sortF l, 0, -1) else ([], treeFault (sortF l))) else ([], 7, -1)

theorem sortT_twice {s l : List F} (hs : s.Perm l) (h : ¬ (s.map (·.p)).Nodup) : sortT l = ([], 7, -1) := by
  rw [(hs.map _).nodup_iff] at h
  simp [sortT, h]
theorem sortT_bad {s l : List F} (hs : s.Perm l) (ws : Weak s) (hn : (s.map (·.p)).Nodup) (h : (treeFault s).1 ≠ 0) : sortT l = ([], treeFault s) := by
  rw [(hs.map _).nodup_iff] at hn
  have := sortF_of hs ws hn
  subst this
  simp [sortT, hn, h]
theorem sortT_ok {s l : List F} (hs : s.Perm l) (ws : Weak s) (hn : (s.map (·.p)).Nodup) (h : (treeFault s).1 = 0) : sortT l = (s, 0, -1) := by
  rw [(hs.map _).nodup_iff] at hn
  have := sortF_of hs ws hn
  subst this
  simp [sortT, hn, h]

def behind (q : List UInt8) : List F → List F
  | [] => []
  | g :: r => if g.p = q then r else g :: r
/-- With a file, in the place of what has its path. -/
def withF (l : List F) (x : F) : List F := l.takeWhile (fun f => less f.p x.p) ++ x :: behind x.p (l.dropWhile (fun f => less f.p x.p))
def putT (l : List F) (x : F) : List F × Nat × Int :=
  if (treeFault l).1 ≠ 0 then ([], treeFault l) else if (treeFault (withF l x)).1 ≠ 0 then ([], (treeFault (withF l x)).1, -1) else (withF l x, 0, -1)
def without (l : List F) (q : List UInt8) : List F := l.filter fun f => !(f.p == q)
def dropT (l : List F) (q : List UInt8) : List F × Nat × Int :=
  if (treeFault l).1 ≠ 0 then ([], treeFault l) else if (without l q).length = l.length then ([], 6, -1) else (without l q, 0, -1)
def cutF (dir : List UInt8) (f : F) : F := if dir = [] then f else { f with p := f.p.drop (dir.length + 1) }
def underL (l : List F) (dir : List UInt8) : List F := (l.filter fun f => isIn f.p dir).map (cutF dir)
def underT (l : List F) (dir : List UInt8) : List F × Nat × Int := if (treeFault l).1 ≠ 0 then ([], treeFault l) else (underL l dir, 0, -1)
/-- Paths changed one by one, up to the first error: the files, the error's number, and where. -/
def mapPaths (g : List UInt8 → List UInt8 × Nat) : Nat → List F → List F × Nat × Nat
  | _, [] => ([], 0, 0)
  | i, f :: r => if (g f.p).2 ≠ 0 then ([], (g f.p).2, i) else if (mapPaths g (i + 1) r).2.1 ≠ 0 then ([], (mapPaths g (i + 1) r).2) else ({ f with p := (g f.p).1 } :: (mapPaths g (i + 1) r).1, 0, 0)
def joinAll (dir : List UInt8) (m : List F) : List F × Nat × Nat := mapPaths (fun s => cleanL (joinTo dir s)) 0 m
def graftT (l : List F) (dir : List UInt8) (m : List F) : List F × Nat × Int :=
  if (treeFault l).1 ≠ 0 then ([], treeFault l) else if (treeFault m).1 ≠ 0 then ([], treeFault m) else if checkCode dir ≠ 0 then ([], checkCode dir, -1)
  else if (joinAll dir m).2.1 ≠ 0 then ([], (joinAll dir m).2.1, -1) else ((sortT (l ++ (joinAll dir m).1)).1, (sortT (l ++ (joinAll dir m).1)).2.1, -1)
def stripAll (n : Int) (l : List F) : List F × Nat × Nat := mapPaths (fun s => stripL s n) 0 l
def stripT (l : List F) (n : Int) : List F × Nat × Int :=
  if (treeFault l).1 ≠ 0 then ([], treeFault l) else if (stripAll n l).2.1 ≠ 0 then ([], (stripAll n l).2.1, ((stripAll n l).2.2 : Int)) else sortT (stripAll n l).1

theorem mapPaths_at (g : List UInt8 → List UInt8 × Nat) : ∀ (l : List F) (k i : Nat) (hk : k < l.length), (∀ j (h : j < l.length), j < k → (g l[j].p).2 = 0) → (g l[k].p).2 ≠ 0 → mapPaths g i l = ([], (g l[k].p).2, i + k)
  | [], _, _, hk, _, _ => by simp at hk
  | f :: r, 0, i, _, _, h => by
    have h' : (g f.p).2 ≠ 0 := h
    simp [mapPaths, h']
  | f :: r, k + 1, i, hk, h0, h => by
    have z : (g f.p).2 = 0 := h0 0 (by simp) (by omega)
    have h' : (g (r[k]'(by simpa using hk)).p).2 ≠ 0 := by simpa using h
    have ih := mapPaths_at g r k (i + 1) (by simpa using hk) (fun j hj hjk => by have := h0 (j + 1) (by simp; omega) (by omega); simpa using this) h'
    rw [mapPaths, if_neg (by simp [z]), ih, if_pos (by simpa using h')]
    simp
    omega

theorem mapPaths_all (g : List UInt8 → List UInt8 × Nat) : ∀ (l : List F) (i : Nat), (∀ f ∈ l, (g f.p).2 = 0) → mapPaths g i l = (l.map fun f => { f with p := (g f.p).1 }, 0, 0)
  | [], _, _ => rfl
  | f :: r, i, h => by
    have z := h f (by simp)
    have ih := mapPaths_all g r (i + 1) (fun x hx => h x (by simp [hx]))
    rw [mapPaths, if_neg (by simp [z]), ih]
    simp

theorem mapPaths_zero (g : List UInt8 → List UInt8 × Nat) : ∀ (l : List F) (i : Nat), (mapPaths g i l).2.1 = 0 → ∀ f ∈ l, (g f.p).2 = 0
  | [], _, _ => by simp
  | f :: r, i, h => by
    by_cases z : (g f.p).2 = 0
    · rw [mapPaths, if_neg (by simp [z])] at h
      by_cases z' : (mapPaths g (i + 1) r).2.1 = 0
      · have ih := mapPaths_zero g r (i + 1) z'
        intro x hx
        rcases List.mem_cons.1 hx with rfl | hx
        · exact z
        · exact ih x hx
      · rw [if_pos z'] at h
        exact absurd h z'
    · rw [mapPaths, if_pos z] at h
      exact absurd h z

end Go.Proofs.YtlofpooobabkjaaGreatDoor
/-
  What is grafted is under its place, and all else as it was; what is put is there once; what is dropped is not; a tree below a place, stripped by as much, is the tree: facts on lists of files. No Go text is spoken of here.
-/
namespace Go.Proofs.YtlofpooobabkjaaGreatDoor

theorem clean_self {s : List UInt8} (h : checkCode s = 0) : Clean s s (pieces s) := by
  obtain ⟨hp, hl⟩ := checkCode_zero.1 h
  refine ⟨?_, cleanF_keep hp, hp, hl, (join_pieces s).symm⟩
  have := head_join hp
  rwa [join_pieces] at this

theorem join_zero {d s : List UInt8} (hd : checkCode d = 0) (hs : checkCode s = 0) (h : (cleanL (joinTo d s)).2 = 0) : (cleanL (joinTo d s)).1 = d ++ 47 :: s ∧ checkCode (d ++ 47 :: s) = 0 := by
  have hj : joinTo d s = d ++ 47 :: s := by simp [joinTo, path_ne hd]
  have hb := join_below hd (clean_self hs) (path_ne hs)
  rw [hj] at h ⊢
  by_cases hl : 6 < (pieces d).length + (pieces s).length
  · rw [if_pos hl] at hb
    rw [hb] at h
    cases h
  · rw [if_neg hl] at hb
    rw [hb]
    exact ⟨rfl, joined_path hd (clean_self hs) (path_ne hs) (by omega)⟩

def below (d : List UInt8) (f : F) : F := { f with p := d ++ 47 :: f.p }

theorem isIn_below {d s : List UInt8} (h : checkCode (d ++ 47 :: s) = 0) : isIn (d ++ 47 :: s) d = true := by
  have : d ++ 47 :: s = (d ++ [47]) ++ s := by simp
  simp only [isIn, h, decide_true, Bool.true_and, Bool.or_eq_true]
  right
  rw [this]
  exact hasPrefix_app _ _

theorem cutF_below {d : List UInt8} (f : F) (hd : d ≠ []) : cutF d (below d f) = f := by
  have : (d ++ 47 :: f.p).drop (d.length + 1) = f.p := by
    rw [List.drop_append]
    simp [Nat.add_sub_cancel_left]
  simp [cutF, below, hd, this]

theorem below_rise {l : List F} (d : List UInt8) (h : Rise l) : Rise (l.map (below d)) := by
  refine List.pairwise_map.2 (h.imp fun h => ?_)
  show less (d ++ 47 :: _) (d ++ 47 :: _) = true
  rw [less_below, ← h]
  simp [less, Op.bytesLess]

theorem eq_of_rise {s t : List F} (hp : s.Perm t) (hs : Rise s) (ht : Rise t) : s = t :=
  sort_unique (l := t) hp (List.Perm.refl _) hs.weak ht.weak (rise_nodup ht)

structure Grafted (l : List F) (d : List UInt8) (m t : List F) : Prop where
  dir : checkCode d = 0
  perm : t.Perm (l ++ m.map (below d))
  rise : Rise t
  tree : (treeFault t).1 = 0
  paths : ∀ f ∈ m, checkCode (d ++ 47 :: f.p) = 0

theorem joinAll_zero {d : List UInt8} {m : List F} (hd : checkCode d = 0) (hm : ∀ f ∈ m, Right f) (h : (joinAll d m).2.1 = 0) : (joinAll d m).1 = m.map (below d) ∧ ∀ f ∈ m, checkCode (d ++ 47 :: f.p) = 0 := by
  have hz := mapPaths_zero _ m 0 h
  have ha := mapPaths_all (fun s => cleanL (joinTo d s)) m 0 hz
  have hj : ∀ f ∈ m, (cleanL (joinTo d f.p)).1 = d ++ 47 :: f.p ∧ checkCode (d ++ 47 :: f.p) = 0 := fun f hf => join_zero hd (hm f hf).1 (hz f hf)
  refine ⟨?_, fun f hf => (hj f hf).2⟩
  unfold joinAll
  rw [ha]
  exact List.map_congr_left fun f hf => by simp only [below, (hj f hf).1]

theorem sortT_zero {l : List F} (h : (sortT l).2.1 = 0) : (sortT l).1 = sortF l ∧ (l.map (·.p)).Nodup ∧ (treeFault (sortF l)).1 = 0 := by
  unfold sortT at h ⊢
  by_cases hn : (l.map (·.p)).Nodup
  · rw [if_pos hn] at h ⊢
    by_cases ht : (treeFault (sortF l)).1 = 0
    · rw [if_pos ht] at h ⊢
      exact ⟨rfl, hn, ht⟩
    · rw [if_neg ht] at h
      exact absurd h ht
  · rw [if_neg hn] at h
    cases h

theorem graft_zero {l m : List F} {d : List UInt8} (h : (graftT l d m).2.1 = 0) : (treeFault l).1 = 0 ∧ (treeFault m).1 = 0 ∧ Grafted l d m (graftT l d m).1 := by
  unfold graftT at h ⊢
  by_cases h1 : (treeFault l).1 = 0
  · by_cases h2 : (treeFault m).1 = 0
    · by_cases h3 : checkCode d = 0
      · by_cases h4 : (joinAll d m).2.1 = 0
        · rw [if_neg (by simp [h1]), if_neg (by simp [h2]), if_neg (by simp [h3]), if_neg (by simp [h4])] at h ⊢
          obtain ⟨e, hn, ht⟩ := sortT_zero h
          have hg := (tree_good.1 h2).1
          obtain ⟨hj, hpp⟩ := joinAll_zero h3 hg.right h4
          refine ⟨h1, h2, h3, ?_, ?_, ?_, hpp⟩
          · show (sortT _).1.Perm _
            rw [e, ← hj]
            exact sortF_perm _
          · show Rise (sortT _).1
            rw [e]
            exact (tree_good.1 ht).1.rise
          · show (treeFault (sortT _).1).1 = 0
            rw [e]
            exact ht
        · rw [if_neg (by simp [h1]), if_neg (by simp [h2]), if_neg (by simp [h3]), if_pos h4] at h
          exact absurd h h4
      · rw [if_neg (by simp [h1]), if_neg (by simp [h2]), if_pos h3] at h
        exact absurd h h3
    · rw [if_neg (by simp [h1]), if_pos h2] at h
      exact absurd h h2
  · rw [if_pos h1] at h
    exact absurd h h1

theorem graft_bad {l m : List F} {d : List UInt8} (h : (graftT l d m).2.1 ≠ 0) : (graftT l d m).1 = [] := by
  unfold graftT at h ⊢
  split
  · rfl
  · split
    · rfl
    · split
      · rfl
      · split
        · rfl
        · rename_i h1 h2 h3 h4
          rw [if_neg h1, if_neg h2, if_neg h3, if_neg h4] at h
          unfold sortT at h ⊢
          dsimp only at h ⊢
          split
          · split
            · rename_i h5 h6
              rw [if_pos h5, if_pos h6] at h
              exact absurd rfl h
            · rfl
          · rfl

theorem filter_below {d : List UInt8} {m : List F} (h : ∀ f ∈ m, checkCode (d ++ 47 :: f.p) = 0) : (m.map (below d)).filter (fun f => isIn f.p d) = m.map (below d) := by
  rw [List.filter_eq_self]
  intro g hg
  obtain ⟨f, hf, rfl⟩ := List.mem_map.1 hg
  exact isIn_below (h f hf)

theorem Grafted.length {l m t : List F} {d : List UInt8} (G : Grafted l d m t) : t.length = l.length + m.length := by
  have := G.perm.length_eq
  simpa using this

theorem Grafted.under {l m t : List F} {d : List UInt8} (G : Grafted l d m t) : (underL t d).length = (underL l d).length + m.length := by
  have := (G.perm.filter (fun f => isIn f.p d)).length_eq
  rw [List.filter_append, filter_below G.paths] at this
  simpa [underL] using this

theorem map_cut {d : List UInt8} (m : List F) (hd : d ≠ []) : (m.map (below d)).map (cutF d) = m := by
  rw [List.map_map]
  have : (cutF d ∘ below d) = id := by
    funext f
    exact cutF_below f hd
  rw [this, List.map_id]

/-- What is grafted is under its place. -/
theorem Grafted.here {l m t : List F} {d : List UInt8} (G : Grafted l d m t) (hm : Rise m) (hl : underL l d = []) : underL t d = m := by
  have h0 : l.filter (fun f => isIn f.p d) = [] := by simpa [underL] using hl
  have hp := G.perm.filter (fun f => isIn f.p d)
  rw [List.filter_append, filter_below G.paths, h0, List.nil_append] at hp
  have := eq_of_rise hp (G.rise.filter _) (below_rise d hm)
  unfold underL
  rw [this, map_cut m (path_ne G.dir)]

theorem without_with (l : List F) (x : F) : without (withF l x) x.p = without l x.p := by
  have e : l = l.takeWhile (fun f => less f.p x.p) ++ l.dropWhile (fun f => less f.p x.p) := List.takeWhile_append_dropWhile.symm
  have hb : ∀ D : List F, without (behind x.p D) x.p = without D x.p := fun D => by
    cases D with
    | nil => rfl
    | cons g r =>
      by_cases hg : g.p = x.p
      · simp [behind, hg, without]
      · simp [behind, hg]
  conv => rhs; rw [e]
  have := hb (l.dropWhile (fun f => less f.p x.p))
  simp only [without] at this ⊢
  simp only [withF, List.filter_append, List.filter_cons, beq_self_eq_true, Bool.not_true, Bool.false_eq_true, if_false, this]

theorem mem_with (l : List F) (x : F) : x ∈ withF l x := by simp [withF]

theorem length_without : ∀ {l : List F} {x : F}, (l.map (·.p)).Nodup → x ∈ l → (without l x.p).length + 1 = l.length
  | [], _, _, h => by simp at h
  | g :: r, x, hn, h => by
    simp only [List.map_cons, List.nodup_cons] at hn
    rcases List.mem_cons.1 h with rfl | h
    · have : without r x.p = r := by
        simp only [without, List.filter_eq_self, Bool.not_eq_true', beq_eq_false_iff_ne]
        intro f hf e
        exact hn.1 (by rw [← e]; exact List.mem_map_of_mem hf)
      simp only [without] at this
      simp [without, this]
    · have hne : ¬ g.p = x.p := fun e => hn.1 (by rw [e]; exact List.mem_map_of_mem h)
      have ih := length_without hn.2 h
      simp only [without] at ih
      simp [without, hne, ih]

theorem without_twice (l : List F) (q : List UInt8) : without (without l q) q = without l q := by simp [without]

theorem without_all {l : List F} {q : List UInt8} (h : (without l q).length = l.length) : without l q = l :=
  List.filter_sublist.eq_of_length h

theorem put_zero {l : List F} {x : F} (h : (putT l x).2.1 = 0) : (treeFault l).1 = 0 ∧ (putT l x).1 = withF l x ∧ (treeFault (withF l x)).1 = 0 := by
  unfold putT at h ⊢
  by_cases h1 : (treeFault l).1 = 0
  · rw [if_neg (by simp [h1])] at h ⊢
    by_cases h2 : (treeFault (withF l x)).1 = 0
    · rw [if_neg (by simp [h2])]
      exact ⟨h1, rfl, h2⟩
    · rw [if_pos h2] at h
      exact absurd h h2
  · rw [if_pos h1] at h
    exact absurd h h1

theorem put_bad {l : List F} {x : F} (h : (putT l x).2.1 ≠ 0) : (putT l x).1 = [] := by
  unfold putT at h ⊢
  split
  · rfl
  · rename_i h1
    rw [if_neg h1] at h
    split
    · rfl
    · rename_i h2
      rw [if_neg h2] at h
      exact absurd rfl h

/-- A path taken off again. -/
theorem strip_below {a s : List UInt8} (h : checkCode (a ++ 47 :: s) = 0) : stripL (a ++ 47 :: s) ((pieces a).length : Nat) = (s, 0) := by
  unfold stripL
  rw [if_neg (by simp [h]), if_neg (by omega), pieces_app, List.length_append]
  have := List.length_pos_iff.2 (pieces_ne s)
  rw [if_neg (by omega), Int.toNat_natCast, List.drop_left, join_pieces]

theorem stripAll_below {a : List UInt8} {m : List F} (h : ∀ f ∈ m, checkCode (a ++ 47 :: f.p) = 0) : stripAll ((pieces a).length : Nat) (m.map (below a)) = (m, 0, 0) := by
  have hz : ∀ f ∈ m.map (below a), (stripL f.p ((pieces a).length : Nat)).2 = 0 := fun g hg => by
    obtain ⟨f, hf, rfl⟩ := List.mem_map.1 hg
    show (stripL (a ++ 47 :: f.p) _).2 = 0
    rw [strip_below (h f hf)]
  unfold stripAll
  rw [mapPaths_all _ _ 0 hz, List.map_map]
  have : ∀ f ∈ m, ((fun f : F => ({ f with p := (stripL f.p ((pieces a).length : Nat)).1 } : F)) ∘ below a) f = id f := fun f hf => by
    show ({ p := (stripL (a ++ 47 :: f.p) _).1, r := f.r, t := f.t } : F) = f
    rw [strip_below (h f hf)]
  rw [List.map_congr_left this, List.map_id]

theorem sortT_tree {l : List F} (h : (treeFault l).1 = 0) : sortT l = (l, 0, -1) := by
  have g := (tree_good.1 h).1.rise
  exact sortT_ok (List.Perm.refl _) g.weak (rise_nodup g) h

/-- A tree below a place alone. -/
theorem Grafted.alone {m t : List F} {d : List UInt8} (G : Grafted [] d m t) (hm : Rise m) : t = m.map (below d) :=
  eq_of_rise (by simpa using G.perm) G.rise (below_rise d hm)

theorem strip_grafted {a : List UInt8} {m t : List F} (G : Grafted [] a m t) (hm : (treeFault m).1 = 0) : stripT t ((pieces a).length : Nat) = (m, 0, -1) := by
  have e := G.alone (tree_good.1 hm).1.rise
  have ht := G.tree
  have hs := stripAll_below G.paths
  unfold stripT
  rw [if_neg (by simp [ht]), e, hs, if_neg (by simp), sortT_tree hm]

theorem prefix_in {a b : List UInt8} (hb : checkCode b = 0) (h : a ++ [47] <+: b) : isIn b a = true := by
  simp only [isIn, hb, decide_true, Bool.true_and, Bool.or_eq_true]
  right
  simpa [Lib.hasPrefix] using h

/-- Two places, neither in the other. -/
theorem not_in {a b s : List UInt8} (ha : checkCode a = 0) (hb : checkCode b = 0) (hne : a ≠ b) (h1 : isIn a b = false) (h2 : isIn b a = false) : isIn (b ++ 47 :: s) a = false := by
  cases h : isIn (b ++ 47 :: s) a with
  | false => rfl
  | true =>
    simp only [isIn, Bool.and_eq_true, Bool.or_eq_true] at h
    rcases h.2 with h | h
    · exact absurd (List.isEmpty_iff.1 h) (path_ne ha)
    · have p1 : a ++ [47] <+: b ++ 47 :: s := by simpa [Lib.hasPrefix] using h
      have p2 : b ++ [47] <+: b ++ 47 :: s := ⟨s, by simp⟩
      rcases List.prefix_or_prefix_of_prefix p1 p2 with p | p
      · rcases List.prefix_concat_iff.1 p with e | p
        · exact absurd (List.append_cancel_right e) hne
        · rw [prefix_in hb p] at h2; cases h2
      · rcases List.prefix_concat_iff.1 p with e | p
        · exact absurd (List.append_cancel_right e).symm hne
        · rw [prefix_in ha p] at h1; cases h1

theorem filter_off {a b : List UInt8} {m : List F} (ha : checkCode a = 0) (hb : checkCode b = 0) (hne : a ≠ b) (h1 : isIn a b = false) (h2 : isIn b a = false) : (m.map (below b)).filter (fun f => isIn f.p a) = [] := by
  rw [List.filter_eq_nil_iff]
  intro g hg
  obtain ⟨f, hf, rfl⟩ := List.mem_map.1 hg
  have := not_in (s := f.p) ha hb hne h1 h2
  simp [below, this]

/-- Two trees at two places are each under its own. -/
theorem two_places {a b : List UInt8} {l m x z : List F} (G : Grafted [] a l x) (H : Grafted x b m z) (hl : Rise l) (hm : Rise m) (hne : a ≠ b) (h1 : isIn a b = false) (h2 : isIn b a = false) :
    underL z a = l ∧ underL z b = m := by
  have e := G.alone hl
  subst e
  constructor
  · have hp := H.perm.filter (fun f => isIn f.p a)
    rw [List.filter_append, filter_below G.paths, filter_off G.dir H.dir hne h1 h2, List.append_nil] at hp
    have := eq_of_rise hp (H.rise.filter _) (below_rise a hl)
    unfold underL
    rw [this, map_cut l (path_ne G.dir)]
  · refine H.here hm ?_
    have : (l.map (below a)).filter (fun f => isIn f.p b) = [] := filter_off H.dir G.dir (Ne.symm hne) h2 h1
    simp [underL, this]

end Go.Proofs.YtlofpooobabkjaaGreatDoor
/-
  A file put into a sorted list; where a file is put: facts on lists. No Go text is spoken of here.
-/
namespace Go.Proofs.YtlofpooobabkjaaGreatDoor

theorem insert_perm (s : List F) (x : F) (j : Nat) : (s.take j ++ x :: s.drop j).Perm (s ++ [x]) := by
  have h1 : (s.take j ++ x :: s.drop j).Perm (x :: (s.take j ++ s.drop j)) := List.perm_middle
  rw [List.take_append_drop] at h1
  exact h1.trans (List.perm_append_comm (l₁ := [x]) (l₂ := s))

theorem insert_weak {s : List F} {x : F} {j : Nat} (hs : Weak s) (hj : j ≤ s.length) (hlow : ∀ h : 0 < j, less x.p (s[j - 1]'(by omega)).p = false) (hup : ∀ m (h : m < s.length), j ≤ m → less x.p s[m].p = true) :
    Weak (s.take j ++ x :: s.drop j) := by
  have hp := List.pairwise_iff_getElem.1 hs
  have hbefore : ∀ a ∈ s.take j, less x.p a.p = false := fun a ha => by
    obtain ⟨i, hi, rfl⟩ := List.getElem_of_mem ha
    rw [List.length_take] at hi
    rw [List.getElem_take]
    have hj0 : 0 < j := by omega
    by_cases e : i = j - 1
    · subst e; exact hlow hj0
    · exact less_weak (hp i (j - 1) (by omega) (by omega) (by omega)) (hlow hj0)
  have hbehind : ∀ b ∈ s.drop j, less b.p x.p = false := fun b hb => by
    obtain ⟨i, hi, rfl⟩ := List.getElem_of_mem hb
    rw [List.length_drop] at hi
    rw [List.getElem_drop]
    exact less_asymm (hup (j + i) (by omega) (by omega))
  refine List.pairwise_append.2 ⟨hs.sublist (List.take_sublist _ _), List.pairwise_cons.2 ⟨hbehind, hs.sublist (List.drop_sublist _ _)⟩, fun a ha b hb => ?_⟩
  rcases List.mem_cons.1 hb with rfl | hb
  · exact hbefore a ha
  · exact less_weak (hbefore a ha) (hbehind b hb)

/-- Where the first file stands that is not below a path. -/
theorem while_at {l : List F} {q : List UInt8} : ∀ {j : Nat}, j ≤ l.length → (∀ i (h : i < l.length), i < j → less l[i].p q = true) → (∀ h : j < l.length, less l[j].p q = false) →
    l.takeWhile (fun f => less f.p q) = l.take j ∧ l.dropWhile (fun f => less f.p q) = l.drop j := by
  induction l with
  | nil => intro j _ _ _; simp
  | cons f l ih =>
    intro j hj hb he
    cases j with
    | zero =>
      have h := he (by simp)
      simp only [List.getElem_cons_zero] at h
      simp [h]
    | succ j =>
      have h := hb 0 (by simp) (by omega)
      simp only [List.getElem_cons_zero] at h
      have := ih (j := j) (by simpa using hj) (fun i hi hij => by have := hb (i + 1) (by simp; omega) (by omega); simpa using this) (fun hi => by have := he (by simp; omega); simpa using this)
      simp [h, this]

theorem with_at {l : List F} {x : F} {j : Nat} (hj : j ≤ l.length) (hb : ∀ i (h : i < l.length), i < j → less l[i].p x.p = true) (he : ∀ h : j < l.length, less l[j].p x.p = false) :
    withF l x = l.take j ++ x :: behind x.p (l.drop j) := by
  obtain ⟨h1, h2⟩ := while_at hj hb he
  unfold withF
  rw [h1, h2]

theorem behind_same {l : List F} {q : List UInt8} {j : Nat} (h : j < l.length) (e : l[j].p = q) : behind q (l.drop j) = l.drop (j + 1) := by
  rw [List.drop_eq_getElem_cons h]
  simp [behind, e]
theorem behind_other {l : List F} {q : List UInt8} {j : Nat} (h : ∀ h : j < l.length, l[j].p ≠ q) : behind q (l.drop j) = l.drop j := by
  by_cases hj : j < l.length
  · rw [List.drop_eq_getElem_cons hj]
    simp [behind, h hj]
  · rw [List.drop_of_length_le (by omega)]
    rfl

end Go.Proofs.YtlofpooobabkjaaGreatDoor
/-
  Digits of numbers as lists of bytes: no machine: for whatever seat.
-/
namespace Go.Proofs.YtlofpooobabkjaaGreatDoor
/-- The digits of a number. -/
def digitsL (n : Nat) : List UInt8 := if n < 10 then [UInt8.ofNat (48 + n)] else digitsL (n / 10) ++ [UInt8.ofNat (48 + n % 10)]
termination_by n
def isDigit (b : UInt8) : Bool := decide (48 ≤ b.toNat) && decide (b.toNat ≤ 57)
/-- The value of digits, from one on. -/
def valueFrom (h : Nat) (s : List UInt8) : Nat := s.foldl (fun h b => 10 * h + (b.toNat - 48)) h
/-- A number out of its digits, so many at most, without needless zeros (-1: it is none). -/
def numberL (s : List UInt8) (most : Nat) : Int :=
  if s.length < 1 ∨ most < s.length ∨ (1 < s.length ∧ s.head? = some 48) then -1 else if s.all isDigit then (valueFrom 0 s : Nat) else -1

theorem digit_toNat {n : Nat} (h : n < 10) : (UInt8.ofNat (48 + n)).toNat = 48 + n := by
  rw [UInt8.toNat_ofNat']
  omega
theorem digits_small {n : Nat} (h : n < 10) : digitsL n = [UInt8.ofNat (48 + n)] := by rw [digitsL, if_pos h]
theorem digits_great {n : Nat} (h : 10 ≤ n) : digitsL n = digitsL (n / 10) ++ [UInt8.ofNat (48 + n % 10)] := by rw [digitsL, if_neg (by omega)]
theorem digits_digit (n : Nat) : (digitsL n).all isDigit = true := by
  induction n using Nat.strongRecOn with
  | ind n ih =>
    by_cases h : n < 10
    · rw [digits_small h]
      simp [isDigit]
      omega
    · rw [digits_great (by omega), List.all_append, ih (n / 10) (by omega)]
      have h' : n % 10 < 10 := Nat.mod_lt _ (by decide)
      simp [isDigit]
      omega
theorem digits_value (n : Nat) : valueFrom 0 (digitsL n) = n := by
  induction n using Nat.strongRecOn with
  | ind n ih =>
    by_cases h : n < 10
    · rw [digits_small h]
      simp [valueFrom]
      omega
    · have h' : n % 10 < 10 := Nat.mod_lt _ (by decide)
      have e := ih (n / 10) (by omega)
      rw [digits_great (by omega)]
      unfold valueFrom at e ⊢
      rw [List.foldl_append, e]
      simp
      omega
theorem digits_pos (n : Nat) : 0 < (digitsL n).length := by
  rw [digitsL]
  split <;> simp
theorem digits_head (n : Nat) : (digitsL n).head? = some 48 → n = 0 := by
  induction n using Nat.strongRecOn with
  | ind n ih =>
    by_cases h : n < 10
    · rw [digits_small h]
      intro e
      have e' := congrArg UInt8.toNat (Option.some.inj e)
      rw [digit_toNat h] at e'
      have : (48 : UInt8).toNat = 48 := rfl
      omega
    · rw [digits_great (by omega)]
      intro e
      have hp := digits_pos (n / 10)
      have : (digitsL (n / 10)).head? = some 48 := by
        cases hd : digitsL (n / 10) with
        | nil => rw [hd] at hp; simp at hp
        | cons a r => rw [hd] at e; simpa using e
      have := ih (n / 10) (by omega) this
      omega
theorem digits_length : ∀ (k n : Nat), n < 10 ^ (k + 1) → (digitsL n).length ≤ k + 1
  | 0, n, h => by rw [digits_small (by omega)]; simp
  | k + 1, n, h => by
    by_cases h0 : n < 10
    · rw [digits_small h0]; simp
    · rw [digits_great (by omega), List.length_append]
      have := digits_length k (n / 10) (by rw [Nat.pow_succ] at h; omega)
      simp
      omega
/-- It is read as it was written. -/
theorem number_digits {k n : Nat} (h : n < 10 ^ (k + 1)) : numberL (digitsL n) (k + 1) = n := by
  unfold numberL
  have h1 := digits_pos n
  have h2 := digits_length k n h
  rw [if_neg, digits_digit, if_pos rfl, digits_value]
  rintro (h3 | h3 | ⟨h3, h4⟩)
  · omega
  · omega
  · have := digits_head n h4
    subst this
    rw [digits_small (by omega)] at h3
    simp at h3
end Go.Proofs.YtlofpooobabkjaaGreatDoor
/-
  How a sum is read: plain functions over lists of bytes, and that reading is the other way round of writing: no machine.
-/
namespace Go.Proofs.YtlofpooobabkjaaGreatDoor

/-- Is a number a sum? -/
def isS (n : Int) : Bool := decide (0 ≤ n ∧ n < 1000000007)
/-- The text of a sum (no sum: empty). -/
def textS (n : Int) : List UInt8 := if isS n = true then 115 :: digitsL n.toNat else []
/-- A sum out of its text, and an error's number. -/
def readS (s : List UInt8) : Int × Nat := if s.head? = some 115 ∧ isS (numberL s.tail 10) = true then (numberL s.tail 10, 0) else (0, 1)

theorem value_ge : ∀ (s : List UInt8) (h : Nat), h ≤ valueFrom h s
  | [], h => Nat.le_refl _
  | b :: s, h => by
    have := value_ge s (10 * h + (b.toNat - 48))
    show h ≤ valueFrom (10 * h + (b.toNat - 48)) s
    omega
theorem digit_byte {b : UInt8} (h : isDigit b = true) : UInt8.ofNat (48 + (b.toNat - 48)) = b := by
  simp [isDigit] at h
  apply UInt8.toNat_inj.1
  rw [UInt8.toNat_ofNat']
  have := b.toNat_lt
  omega
theorem digits_from : ∀ (s : List UInt8) (h : Nat), 1 ≤ h → s.all isDigit = true → digitsL (valueFrom h s) = digitsL h ++ s
  | [], h, _, _ => by simp [valueFrom]
  | b :: s, h, h1, hd => by
    rw [List.all_cons, Bool.and_eq_true] at hd
    have hb := hd.1
    simp [isDigit] at hb
    have e := digits_from s (10 * h + (b.toNat - 48)) (by omega) hd.2
    show digitsL (valueFrom (10 * h + (b.toNat - 48)) s) = _
    rw [e, digits_great (n := 10 * h + (b.toNat - 48)) (by omega)]
    have e1 : (10 * h + (b.toNat - 48)) / 10 = h := by omega
    have e2 : (10 * h + (b.toNat - 48)) % 10 = b.toNat - 48 := by omega
    rw [e1, e2, digit_byte hd.1]
    simp
/-- What is read as a number is its digits. -/
theorem digits_of_value {s : List UInt8} (h0 : s ≠ []) (hd : s.all isDigit = true) (hz : 1 < s.length → s.head? ≠ some 48) : digitsL (valueFrom 0 s) = s := by
  cases s with
  | nil => exact absurd rfl h0
  | cons b r =>
    rw [List.all_cons, Bool.and_eq_true] at hd
    have hb := hd.1
    simp [isDigit] at hb
    have e0 : valueFrom 0 (b :: r) = valueFrom (b.toNat - 48) r := by
      show valueFrom (10 * 0 + (b.toNat - 48)) r = _
      congr 1
      omega
    have es : digitsL (b.toNat - 48) = [b] := by rw [digits_small (by omega), digit_byte hd.1]
    rw [e0]
    cases r with
    | nil => exact es
    | cons c r =>
      have hne : b ≠ 48 := fun e => hz (by simp) (by simp [e])
      have : b.toNat ≠ 48 := fun e => hne (UInt8.toNat_inj.1 e)
      rw [digits_from (c :: r) (b.toNat - 48) (by omega) hd.2, es]
      rfl
theorem number_inv {s : List UInt8} {k : Nat} (h : 0 ≤ numberL s k) : s = digitsL (numberL s k).toNat := by
  unfold numberL at h ⊢
  split at h
  · omega
  · rename_i h1
    rw [if_neg h1]
    split at h
    · rename_i h2
      rw [if_pos h2, Int.toNat_natCast, digits_of_value (fun e => h1 (Or.inl (by simp [e]))) h2 (fun hl e => h1 (Or.inr (Or.inr ⟨hl, e⟩)))]
    · omega

theorem text_is {n : Int} (h : isS n = true) : textS n = 115 :: digitsL n.toNat := by unfold textS; rw [if_pos h]
theorem isS_bounds {n : Int} (h : isS n = true) : 0 ≤ n ∧ n < 1000000007 := of_decide_eq_true h
/-- It is read as it was written. -/
theorem read_text {n : Int} (h : isS n = true) : readS (textS n) = (n, 0) := by
  have hb := isS_bounds h
  have e : numberL (digitsL n.toNat) 10 = n := by
    have := number_digits (k := 9) (n := n.toNat) (by omega)
    rw [this]
    omega
  rw [text_is h]
  unfold readS
  rw [List.tail_cons, e, if_pos ⟨rfl, h⟩]
/-- What is read was written. -/
theorem text_read {s : List UInt8} (h : s.head? = some 115 ∧ isS (numberL s.tail 10) = true) : textS (numberL s.tail 10) = s := by
  have hb := isS_bounds h.2
  rw [text_is h.2, ← number_inv hb.1]
  cases s with
  | nil => cases h.1
  | cons b r =>
    have := h.1
    simp at this
    rw [this]
    rfl
theorem read_le (s : List UInt8) : (readS s).2 ≤ 1 := by unfold readS; split <;> simp

theorem parse_digits : ∀ (s : List UInt8) (acc : Nat), s.all isDigit = true → valueFrom acc s < 18446744073709551616 → Lib.parseUint10 acc s = .ok (valueFrom acc s)
  | [], acc, _, _ => rfl
  | b :: s, acc, hd, hv => by
    rw [List.all_cons, Bool.and_eq_true] at hd
    have hb := hd.1
    simp [isDigit] at hb
    have hv' : valueFrom (10 * acc + (b.toNat - 48)) s < 18446744073709551616 := hv
    have hg := value_ge s (10 * acc + (b.toNat - 48))
    have ec : acc * 10 + (b.toNat - 48) = 10 * acc + (b.toNat - 48) := by omega
    show Lib.parseUint10 acc (b :: s) = .ok (valueFrom (10 * acc + (b.toNat - 48)) s)
    unfold Lib.parseUint10
    rw [if_pos hb, if_neg (by omega), if_neg (by omega), ec]
    exact parse_digits s _ hd.2 hv'
/-- The library reads the digits of a number. -/
theorem atoi_digits {n : Nat} (h : n < 9223372036854775808) : Lib.atoiAll (digitsL n) = .ok (n : Int) := by
  have hp := digits_pos n
  have hd := digits_digit n
  have hv := digits_value n
  have hm : Lib.parseMag (digitsL n) = .ok n := by
    unfold Lib.parseMag
    rw [if_neg (fun e => by rw [e] at hp; simp at hp), parse_digits _ _ hd (by omega), hv]
  cases hs : digitsL n with
  | nil => rw [hs] at hp; simp at hp
  | cons c r =>
    rw [hs, List.all_cons, Bool.and_eq_true] at hd
    have hc := hd.1
    simp [isDigit] at hc
    rw [Lib.atoiAll_plain c r (by omega) (by omega), ← hs, hm]
    simp only [Lib.signless]
    rw [if_neg (by omega)]
theorem itoa_digits (n : Nat) : Lib.decDigits n = digitsL n := by
  induction n using Nat.strongRecOn with
  | ind n ih =>
    by_cases h : n < 10
    · rw [Lib.decDigits, dif_pos h, digits_small h]
    · rw [Lib.decDigits, dif_neg h, digits_great (by omega), ih (n / 10) (by omega)]
end Go.Proofs.YtlofpooobabkjaaGreatDoor
/-
  Packs as lists of bytes: how a file is written and read, how a text is read as files; a pack is read as it was written, what is read was written, what is cut short is none but at the end of a file. No Go text is spoken of here.
-/
namespace Go.Proofs.YtlofpooobabkjaaGreatDoor

/-- What stands between the bytes c. -/
def piecesBy (c : UInt8) : List UInt8 → List (List UInt8)
  | [] => [[]]
  | b :: r => if b = c then [] :: piecesBy c r else match piecesBy c r with | [] => [[b]] | p :: ps => (b :: p) :: ps
/-- What stands ahead of the first byte c, and behind it. -/
def cutBy (c : UInt8) : List UInt8 → Option (List UInt8 × List UInt8)
  | [] => none
  | b :: r => if b = c then some ([], r) else match cutBy c r with | none => none | some (x, y) => some (b :: x, y)

theorem cutBy_no {c : UInt8} : ∀ {l : List UInt8}, cutBy c l = none ↔ c ∉ l
  | [] => by simp [cutBy]
  | b :: r => by
    have ih := cutBy_no (c := c) (l := r)
    unfold cutBy
    by_cases h : b = c
    · simp [h]
    · rw [if_neg h]
      cases hr : cutBy c r with
      | none => simp [ih.1 hr, Ne.symm h]
      | some x =>
        have : c ∈ r := by
          rcases Classical.em (c ∈ r) with h' | h'
          · exact h'
          · rw [ih.2 h'] at hr; cases hr
        simp [this]
theorem cutBy_some {c : UInt8} : ∀ {l a b : List UInt8}, cutBy c l = some (a, b) → l = a ++ c :: b ∧ c ∉ a
  | [], a, b, h => by simp [cutBy] at h
  | x :: r, a, b, h => by
    unfold cutBy at h
    by_cases hx : x = c
    · rw [if_pos hx] at h
      simp at h
      obtain ⟨rfl, rfl⟩ := h
      simp [hx]
    · rw [if_neg hx] at h
      cases hr : cutBy c r with
      | none => rw [hr] at h; cases h
      | some y =>
        rw [hr] at h
        simp at h
        have ih := cutBy_some (l := r) (a := y.1) (b := y.2) hr
        refine ⟨by rw [← h.1, ← h.2]; simp [ih.1], ?_⟩
        rw [← h.1]
        simp [ih.2, Ne.symm hx]
theorem cutBy_of {c : UInt8} (b : List UInt8) : ∀ {a : List UInt8}, c ∉ a → cutBy c (a ++ c :: b) = some (a, b)
  | [], _ => by simp [cutBy]
  | x :: a, h => by
    simp at h
    have ih := cutBy_of b h.2
    show cutBy c (x :: (a ++ c :: b)) = _
    unfold cutBy
    rw [if_neg (Ne.symm h.1), ih]

theorem indexBy_none {c : UInt8} : ∀ {l : List UInt8}, c ∉ l → Lib.indexByte l c = -1
  | [], _ => rfl
  | b :: r, h => by
    simp at h
    have ih := indexBy_none h.2
    simp [Lib.indexByte, Ne.symm h.1, ih]
theorem indexBy_at {c : UInt8} (b : List UInt8) : ∀ {a : List UInt8}, c ∉ a → Lib.indexByte (a ++ c :: b) c = a.length
  | [], _ => by simp [Lib.indexByte]
  | x :: a, h => by
    simp at h
    have ih := indexBy_at b h.2
    show Lib.indexByte (x :: (a ++ c :: b)) c = _
    have hn : ¬ ((a.length : Int) = -1) := by omega
    simp [Lib.indexByte, Ne.symm h.1, ih]

theorem piecesBy_none {c : UInt8} : ∀ {l : List UInt8}, c ∉ l → piecesBy c l = [l]
  | [], _ => rfl
  | b :: r, h => by
    simp at h
    simp [piecesBy, Ne.symm h.1, piecesBy_none h.2]
theorem piecesBy_some {c : UInt8} (b : List UInt8) : ∀ {a : List UInt8}, c ∉ a → piecesBy c (a ++ c :: b) = a :: piecesBy c b
  | [], _ => by simp [piecesBy]
  | x :: a, h => by
    simp at h
    have ih := piecesBy_some b h.2
    show piecesBy c (x :: (a ++ c :: b)) = _
    rw [piecesBy, if_neg (Ne.symm h.1), ih]
theorem piecesBy_cut {c : UInt8} {l a b : List UInt8} (h : cutBy c l = some (a, b)) : piecesBy c l = a :: piecesBy c b := by
  obtain ⟨rfl, h'⟩ := cutBy_some h
  exact piecesBy_some b h'
theorem piecesBy_ne (c : UInt8) (l : List UInt8) : piecesBy c l ≠ [] := by
  cases h : cutBy c l with
  | none => rw [piecesBy_none (cutBy_no.1 h)]; simp
  | some x => rw [piecesBy_cut (a := x.1) (b := x.2) h]; simp
/-- One piece: nothing was cut. -/
theorem piecesBy_one {c : UInt8} {l x : List UInt8} (h : piecesBy c l = [x]) : l = x ∧ c ∉ l := by
  cases hc : cutBy c l with
  | none =>
    have hn := cutBy_no.1 hc
    rw [piecesBy_none hn] at h
    simp at h
    exact ⟨h, hn⟩
  | some y =>
    rw [piecesBy_cut (a := y.1) (b := y.2) hc] at h
    simp at h
    exact absurd h.2 (piecesBy_ne _ _)
theorem piecesBy_two {c : UInt8} {l x y : List UInt8} {r : List (List UInt8)} (h : piecesBy c l = x :: y :: r) : ∃ b, l = x ++ c :: b ∧ c ∉ x ∧ piecesBy c b = y :: r := by
  cases hc : cutBy c l with
  | none => rw [piecesBy_none (cutBy_no.1 hc)] at h; simp at h
  | some z =>
    rw [piecesBy_cut (a := z.1) (b := z.2) hc] at h
    obtain ⟨e, hn⟩ := cutBy_some (a := z.1) (b := z.2) hc
    simp at h
    exact ⟨z.2, by rw [← h.1]; exact e, by rw [← h.1]; exact hn, h.2⟩
theorem piecesBy_length (c : UInt8) : ∀ l : List UInt8, (piecesBy c l).length = l.count c + 1
  | [] => rfl
  | b :: r => by
    have ih := piecesBy_length c r
    unfold piecesBy
    by_cases h : b = c
    · simp [h, ih]
    · rw [if_neg h]
      cases hr : piecesBy c r with
      | nil => exact absurd hr (piecesBy_ne _ _)
      | cons p ps =>
        rw [hr] at ih
        simp [h] at ih ⊢
        exact ih
theorem piecesBy_le (c : UInt8) : ∀ (l : List UInt8), ∀ x ∈ piecesBy c l, x.length ≤ l.length
  | [], x, h => by simp [piecesBy] at h; simp [h]
  | b :: r, x, h => by
    have ih := piecesBy_le c r
    unfold piecesBy at h
    by_cases hb : b = c
    · rw [if_pos hb] at h
      rcases List.mem_cons.1 h with h | h
      · simp [h]
      · have := ih x h
        simp
        omega
    · rw [if_neg hb] at h
      cases hr : piecesBy c r with
      | nil => exact absurd hr (piecesBy_ne _ _)
      | cons p ps =>
        rw [hr] at h ih
        rcases List.mem_cons.1 h with h | h
        · have := ih p (by simp)
          simp [h]
          omega
        · have := ih x (by simp [h])
          simp
          omega

/-- The first line of a file, without its end. -/
def lineL (f : F) : List UInt8 := f.p ++ 32 :: (if f.r = true then 120 else 102) :: 32 :: digitsL f.t.length
/-- A file as text. -/
def fileL (f : F) : List UInt8 := lineL f ++ 10 :: (f.t ++ [10])
/-- A pack. -/
def packL (l : List F) : List UInt8 := l.flatMap fileL

theorem packL_nil : packL [] = [] := rfl
theorem packL_cons (f : F) (l : List F) : packL (f :: l) = fileL f ++ packL l := rfl
theorem packL_snoc (l : List F) (f : F) : packL (l ++ [f]) = packL l ++ fileL f := by simp [packL]
theorem fileL_ne (f : F) : fileL f ≠ [] := by simp [fileL]
theorem fileL_length (f : F) : (fileL f).length = f.p.length + (digitsL f.t.length).length + f.t.length + 5 := by
  simp [fileL, lineL]
  omega

/-- The words of a first line: a path, whether it may be run, how many bytes. -/
def headOf (line : List UInt8) : Option (List UInt8 × Bool × Nat) :=
  match piecesBy 32 line with
  | [a, m, d] => if (m = [120] ∨ m = [102]) ∧ 0 ≤ numberL d 6 then some (a, decide (m = [120]), (numberL d 6).toNat) else none
  | _ => none
/-- The first file of a text, and what stands behind it. -/
def cutFileL (s : List UInt8) : Option (F × List UInt8) :=
  match cutBy 10 s with
  | none => none
  | some (line, rest) => match headOf line with
    | none => none
    | some (a, x, n) => if rest[n]? = some 10 then some (⟨a, x, rest.take n⟩, rest.drop (n + 1)) else none

theorem headOf_some {line a : List UInt8} {x : Bool} {n : Nat} (h : headOf line = some (a, x, n)) :
    line = a ++ 32 :: (if x = true then 120 else 102) :: 32 :: digitsL n ∧ 32 ∉ a := by
  unfold headOf at h
  split at h
  · rename_i b m d hp
    split at h
    · rename_i hc
      simp only [Option.some.injEq, Prod.mk.injEq] at h
      obtain ⟨rfl, hx, rfl⟩ := h
      obtain ⟨r, rfl, h1, h2⟩ := piecesBy_two hp
      obtain ⟨q, rfl, _, h3⟩ := piecesBy_two h2
      obtain ⟨rfl, _⟩ := piecesBy_one h3
      have hd := number_inv hc.2
      refine ⟨?_, h1⟩
      rw [← hd]
      rcases hc.1 with e | e <;> subst e <;> subst hx <;> simp
    · cases h
  · cases h

theorem digit_not {n : Nat} {c : UInt8} (h : c.toNat < 48 ∨ 57 < c.toNat) : c ∉ digitsL n := by
  intro hm
  have := List.all_eq_true.1 (digits_digit n) c hm
  simp [isDigit] at this
  omega

theorem headOf_line {f : F} (hp : 32 ∉ f.p) (ht : f.t.length < 1000000) : headOf (lineL f) = some (f.p, f.r, f.t.length) := by
  have hd : 32 ∉ digitsL f.t.length := digit_not (by decide)
  have e : piecesBy 32 (lineL f) = [f.p, [if f.r = true then 120 else 102], digitsL f.t.length] := by
    unfold lineL
    rw [piecesBy_some _ hp]
    have h2 : (32 : UInt8) ∉ [if f.r = true then (120 : UInt8) else 102] := by cases f.r <;> decide
    have := piecesBy_some (digitsL f.t.length) h2
    rw [List.singleton_append] at this
    rw [this, piecesBy_none hd]
  unfold headOf
  rw [e]
  have hn : numberL (digitsL f.t.length) 6 = f.t.length := number_digits (k := 5) (by omega)
  simp only [hn]
  rw [if_pos ⟨by cases f.r <;> simp, by omega⟩]
  cases f.r <;> simp

theorem cutFile_some {s r : List UInt8} {f : F} (h : cutFileL s = some (f, r)) : s = fileL f ++ r := by
  unfold cutFileL at h
  split at h
  · cases h
  · rename_i line rest hc
    split at h
    · cases h
    · rename_i a x n hh
      split at h
      · rename_i hn
        simp only [Option.some.injEq, Prod.mk.injEq] at h
        obtain ⟨rfl, rfl⟩ := h
        obtain ⟨rfl, _⟩ := cutBy_some hc
        obtain ⟨rfl, _⟩ := headOf_some hh
        obtain ⟨hl, hv⟩ := List.getElem?_eq_some_iff.1 hn
        have e : rest = rest.take n ++ 10 :: rest.drop (n + 1) := by
          have := List.take_append_drop n rest
          rw [List.drop_eq_getElem_cons hl, hv] at this
          exact this.symm
        have el : (rest.take n).length = n := by rw [List.length_take]; omega
        unfold fileL lineL
        simp only [el]
        conv => lhs; rw [e]
        simp
      · cases h
theorem cutFile_less {s r : List UInt8} {f : F} (h : cutFileL s = some (f, r)) : r.length < s.length := by
  rw [cutFile_some h, List.length_append, fileL_length]
  omega

/-- A file that can be told in a pack. -/
def Plain (f : F) : Prop := 32 ∉ f.p ∧ 10 ∉ f.p ∧ f.t.length < 1000000

theorem line_noEnd {f : F} (h : Plain f) : 10 ∉ lineL f := by
  have hd : 10 ∉ digitsL f.t.length := digit_not (by decide)
  unfold lineL
  simp [h.2.1, hd]
  cases f.r <;> decide

theorem cutFile_file {f : F} (h : Plain f) (r : List UInt8) : cutFileL (fileL f ++ r) = some (f, r) := by
  have e : fileL f ++ r = lineL f ++ 10 :: (f.t ++ 10 :: r) := by simp [fileL]
  unfold cutFileL
  rw [e, cutBy_of _ (line_noEnd h)]
  simp only [headOf_line h.1 h.2.2]
  rw [if_pos (by rw [List.getElem?_append_right (Nat.le_refl _), Nat.sub_self]; rfl)]
  simp

/-- What is cut short of a file is none. -/
theorem cutFile_short {f : F} (h : Plain f) {k : Nat} (hk : k < (fileL f).length) : cutFileL ((fileL f).take k) = none := by
  by_cases hl : k ≤ (lineL f).length
  · have e : (fileL f).take k = (lineL f).take k := by
      unfold fileL
      rw [List.take_append_of_le_length hl]
    unfold cutFileL
    rw [e, cutBy_no.2 (fun hm => line_noEnd h (List.mem_of_mem_take hm))]
  · have e : (fileL f).take k = lineL f ++ 10 :: (f.t ++ [10]).take (k - (lineL f).length - 1) := by
      unfold fileL
      rw [List.take_append]
      obtain ⟨j, hj⟩ : ∃ j, k - (lineL f).length = j + 1 := ⟨k - (lineL f).length - 1, by omega⟩
      rw [hj, List.take_succ_cons, List.take_of_length_le (by omega)]
      simp
    unfold cutFileL
    rw [e, cutBy_of _ (line_noEnd h)]
    simp only [headOf_line h.1 h.2.2]
    rw [if_neg]
    intro hc
    obtain ⟨hl', _⟩ := List.getElem?_eq_some_iff.1 hc
    rw [List.length_take] at hl'
    have : (fileL f).length = (lineL f).length + f.t.length + 2 := by simp [fileL]; omega
    omega

/-- A text read as files: those ahead of the first that is none, and whether there is no such one. -/
def readA (s : List UInt8) : List F × Bool :=
  if s = [] then ([], true) else
    match _h : cutFileL s with
    | none => ([], false)
    | some (f, r) => (f :: (readA r).1, (readA r).2)
termination_by s.length
decreasing_by all_goals exact cutFile_less _h

theorem readA_nil : readA [] = ([], true) := by rw [readA]; simp
theorem readA_bad {s : List UInt8} (h0 : s ≠ []) (h : cutFileL s = none) : readA s = ([], false) := by
  rw [readA, if_neg h0]
  split
  · rfl
  · rename_i f r h'
    rw [h] at h'
    cases h'
theorem readA_good {s r : List UInt8} {f : F} (h0 : s ≠ []) (h : cutFileL s = some (f, r)) : readA s = (f :: (readA r).1, (readA r).2) := by
  rw [readA, if_neg h0]
  split
  · rename_i h'
    rw [h] at h'
    cases h'
  · rename_i f' r' h'
    rw [h] at h'
    cases h'
    rfl

theorem cutFile_nil : cutFileL [] = none := rfl

/-- What is read was written. -/
theorem pack_readA : ∀ (n : Nat) (s : List UInt8), s.length ≤ n → (readA s).2 = true → packL (readA s).1 = s
  | n, [], _, _ => by rw [readA_nil]; rfl
  | 0, b :: s, h, _ => by simp at h
  | n + 1, b :: s, h, hr => by
    cases hc : cutFileL (b :: s) with
    | none => rw [readA_bad (by simp) hc] at hr; cases hr
    | some x =>
      rw [readA_good (f := x.1) (r := x.2) (by simp) hc] at hr ⊢
      have hlt := cutFile_less (f := x.1) (r := x.2) hc
      have ih := pack_readA n x.2 (by omega) hr
      show packL (x.1 :: (readA x.2).1) = _
      rw [packL_cons, ih, ← cutFile_some (f := x.1) (r := x.2) hc]
theorem readA_app {f : F} (h : Plain f) (r : List UInt8) : readA (fileL f ++ r) = (f :: (readA r).1, (readA r).2) :=
  readA_good (fun e => fileL_ne f (List.append_eq_nil_iff.1 e).1) (cutFile_file h r)
/-- A pack is read as it was written. -/
theorem readA_pack : ∀ {l : List F}, (∀ f ∈ l, Plain f) → readA (packL l) = (l, true)
  | [], _ => readA_nil
  | f :: l, h => by
    rw [packL_cons, readA_app (h f (by simp)), readA_pack fun g hg => h g (by simp [hg])]
/-- What is cut short is none, but at the end of a file. -/
theorem readA_take : ∀ {l : List F} {k : Nat}, (∀ f ∈ l, Plain f) → k < (packL l).length → (readA ((packL l).take k)).2 = true →
    (readA ((packL l).take k)).1.length < l.length ∧ (readA ((packL l).take k)).1 = l.take (readA ((packL l).take k)).1.length
  | [], k, _, h, _ => by simp [packL] at h
  | f :: l, k, h, hk, hr => by
    rw [packL_cons] at hk hr ⊢
    by_cases hf : (fileL f).length ≤ k
    · have e : (fileL f ++ packL l).take k = fileL f ++ (packL l).take (k - (fileL f).length) := by
        rw [List.take_append, List.take_of_length_le hf]
      rw [e, readA_app (h f (by simp))] at hr ⊢
      have ih := readA_take (l := l) (k := k - (fileL f).length) (fun g hg => h g (by simp [hg])) (by rw [List.length_append] at hk; omega) hr
      refine ⟨by simp; exact ih.1, ?_⟩
      show f :: _ = _
      rw [List.length_cons, List.take_succ_cons, ← ih.2]
    · have e : (fileL f ++ packL l).take k = (fileL f).take k := List.take_append_of_le_length (by omega)
      rw [e] at hr ⊢
      by_cases h0 : (fileL f).take k = []
      · rw [h0, readA_nil]
        simp
      · rw [readA_bad h0 (cutFile_short (h f (by simp)) (by omega))] at hr
        cases hr

/-- What Read answers: files, and an error's number and place. -/
def readP (s : List UInt8) : List F × Nat × Int :=
  if 20000 < s.length then ([], 2, -1)
  else if (readA s).2 = false then ([], 1, (((readA s).1.length : Nat) : Int))
  else if (treeFault (readA s).1).1 = 0 then ((readA s).1, 0, -1) else ([], treeFault (readA s).1)

theorem readP_long {s : List UInt8} (h : 20000 < s.length) : readP s = ([], 2, -1) := by unfold readP; rw [if_pos h]
theorem readP_none {s : List UInt8} (h : s.length ≤ 20000) (h1 : (readA s).2 = false) : readP s = ([], 1, (((readA s).1.length : Nat) : Int)) := by
  unfold readP
  rw [if_neg (by omega), if_pos h1]
theorem readP_fault {s : List UInt8} (h : s.length ≤ 20000) (h1 : (readA s).2 = true) (h2 : (treeFault (readA s).1).1 ≠ 0) : readP s = ([], treeFault (readA s).1) := by
  unfold readP
  rw [if_neg (by omega), if_neg (by rw [h1]; simp), if_neg h2]
theorem readP_fine {s : List UInt8} (h : s.length ≤ 20000) (h1 : (readA s).2 = true) (h2 : (treeFault (readA s).1).1 = 0) : readP s = ((readA s).1, 0, -1) := by
  unfold readP
  rw [if_neg (by omega), if_neg (by rw [h1]; simp), if_pos h2]

/-- The files that are read are no longer than the text. -/
theorem pack_mem {l : List F} {f : F} (h : f ∈ l) : f.p.length ≤ (packL l).length ∧ f.t.length ≤ (packL l).length := by
  obtain ⟨a, b, rfl⟩ := List.append_of_mem h
  have := fileL_length f
  simp [packL] at this ⊢
  omega
theorem pack_count : ∀ (l : List F), l.length ≤ (packL l).length
  | [] => by simp
  | f :: l => by
    have ih := pack_count l
    have := fileL_length f
    rw [packL_cons, List.length_append, List.length_cons]
    omega
end Go.Proofs.YtlofpooobabkjaaGreatDoor
/-
  Sums as numbers over lists of bytes: no machine: for whatever seat.
-/
namespace Go.Proofs.YtlofpooobabkjaaGreatDoor
/-- The modulus of sums. -/
abbrev Mo : Nat := 1000000007
/-- The sum of a text, byte by byte from the front. -/
def sumFrom (h : Nat) (s : List UInt8) : Nat := s.foldl (fun h b => (h * 263 + b.toNat + 1) % Mo) h
def sumL (s : List UInt8) : Nat := sumFrom 0 s
/-- .. without the remainders. -/
def bare (h : Nat) (s : List UInt8) : Nat := s.foldl (fun h b => h * 263 + b.toNat + 1) h

theorem bare_cons (h : Nat) (b : UInt8) (s : List UInt8) : bare h (b :: s) = bare (h * 263 + b.toNat + 1) s := rfl
theorem bare_app (h : Nat) (a b : List UInt8) : bare h (a ++ b) = bare (bare h a) b := by simp [bare]
theorem bare_add : ∀ (s : List UInt8) (h : Nat), bare h s = h * 263 ^ s.length + bare 0 s
  | [], h => by simp [bare]
  | b :: s, h => by
    rw [bare_cons, bare_cons, bare_add s (h * 263 + b.toNat + 1), bare_add s (0 * 263 + b.toNat + 1), List.length_cons, Nat.pow_succ]
    rw [Nat.zero_mul, Nat.zero_add, Nat.add_assoc (h * 263), Nat.add_mul (h * 263), Nat.mul_assoc h 263, Nat.mul_comm 263, Nat.add_assoc]
theorem sumFrom_bare : ∀ (s : List UInt8) (h : Nat), sumFrom (h % Mo) s = bare h s % Mo
  | [], h => rfl
  | b :: s, h => by
    show sumFrom ((h % Mo * 263 + b.toNat + 1) % Mo) s = bare (h * 263 + b.toNat + 1) s % Mo
    rw [← sumFrom_bare s (h * 263 + b.toNat + 1)]
    have e : (h % Mo * 263 + b.toNat + 1) % Mo = (h * 263 + b.toNat + 1) % Mo := by
      unfold Mo
      omega
    rw [e]
theorem sumL_bare (s : List UInt8) : sumL s = bare 0 s % Mo := sumFrom_bare s 0
theorem sumL_lt (s : List UInt8) : sumL s < Mo := by rw [sumL_bare]; exact Nat.mod_lt _ (by decide)
theorem sumL_snoc (s : List UInt8) (b : UInt8) : sumL (s ++ [b]) = (sumL s * 263 + b.toNat + 1) % Mo := by simp [sumL, sumFrom]
/-- The power of the base. -/
def powM (n : Nat) : Nat := 263 ^ n % Mo
theorem powM_lt (n : Nat) : powM n < Mo := Nat.mod_lt _ (by decide)
theorem powM_zero : powM 0 = 1 := rfl
theorem powM_succ (n : Nat) : powM (n + 1) = powM n * 263 % Mo := by
  unfold powM
  rw [Nat.pow_succ, Nat.mod_mul_mod]
theorem powM_add (a b : Nat) : powM (a + b) = powM a * powM b % Mo := by
  unfold powM
  rw [Nat.pow_add, ← Nat.mul_mod]
theorem sumL_app (a b : List UInt8) : sumL (a ++ b) = (sumL a * powM b.length + sumL b) % Mo := by
  rw [sumL_bare, sumL_bare a, sumL_bare b, bare_app, bare_add b (bare 0 a)]
  unfold powM
  rw [Nat.add_mod, Nat.mul_mod]
  simp [Nat.add_mod]
theorem sumL_cons (b : UInt8) (s : List UInt8) : sumL (b :: s) = ((b.toNat + 1) * powM s.length + sumL s) % Mo := by
  have h := sumL_app [b] s
  have e : sumL [b] = b.toNat + 1 := by
    have := b.toNat_lt
    show (0 * 263 + b.toNat + 1) % 1000000007 = _
    omega
  rw [e] at h
  exact h
/-- The base and the modulus have no common factor. -/
theorem base_coprime (n : Nat) : Nat.Coprime Mo (263 ^ n) := Nat.Coprime.pow_right n (by decide)
theorem byte_apart {x y : UInt8} {n u v : Nat} (h : (u + (x.toNat + 1) * 263 ^ n + v) % Mo = (u + (y.toNat + 1) * 263 ^ n + v) % Mo) : x = y := by
  have hx := x.toNat_lt
  have hy := y.toNat_lt
  have key : ∀ p q : Nat, p < 256 → q < 256 → q ≤ p → (u + (p + 1) * 263 ^ n + v) % Mo = (u + (q + 1) * 263 ^ n + v) % Mo → p = q := by
    intro p q hp hq hle he
    have e : u + (p + 1) * 263 ^ n + v = (u + (q + 1) * 263 ^ n + v) + (p - q) * 263 ^ n := by
      have : (p + 1) * 263 ^ n = (q + 1) * 263 ^ n + (p - q) * 263 ^ n := by rw [← Nat.add_mul]; congr 1; omega
      omega
    have hd : Mo ∣ (p - q) * 263 ^ n := by
      rw [e] at he
      have := Nat.sub_mod_eq_zero_of_mod_eq he
      rw [Nat.add_sub_cancel_left] at this
      exact Nat.dvd_of_mod_eq_zero this
    have hd2 : Mo ∣ p - q := (base_coprime n).dvd_of_dvd_mul_right hd
    have hz : p - q = 0 := by
      rcases Nat.eq_zero_or_pos (p - q) with h0 | h0
      · exact h0
      · have := Nat.le_of_dvd h0 hd2
        unfold Mo at this
        omega
    omega
  have : x.toNat = y.toNat := by
    rcases Nat.le_total y.toNat x.toNat with h0 | h0
    · exact key _ _ (by omega) (by omega) h0 h
    · exact (key _ _ (by omega) (by omega) h0 h.symm).symm
  exact UInt8.toNat_inj.1 this
theorem sumL_mid (a b : List UInt8) (x : UInt8) : sumL (a ++ x :: b) = (bare 0 a * 263 ^ (b.length + 1) + (x.toNat + 1) * 263 ^ b.length + bare 0 b) % Mo := by
  rw [sumL_bare, bare_app, bare_add (x :: b) (bare 0 a), bare_cons, bare_add b (0 * 263 + x.toNat + 1), List.length_cons, Nat.zero_mul, Nat.zero_add, Nat.add_assoc]
/-- With one byte another one, it is another. -/
theorem sumL_other {a b : List UInt8} {x y : UInt8} (h : x ≠ y) : sumL (a ++ x :: b) ≠ sumL (a ++ y :: b) := fun e => by
  rw [sumL_mid, sumL_mid] at e
  exact h (byte_apart e)
theorem sumL_set {a b : List UInt8} {i : Nat} {x : UInt8} (hi : i < a.length) (h : a[i] ≠ x) : sumL (a.set i x ++ b) ≠ sumL (a ++ b) := by
  have e1 : a.set i x = a.take i ++ x :: a.drop (i + 1) := by rw [List.set_eq_take_append_cons_drop, if_pos hi]
  have e2 : a = a.take i ++ a[i] :: a.drop (i + 1) := by rw [← List.drop_eq_getElem_cons hi, List.take_append_drop]
  have h1 : sumL (a.set i x ++ b) = sumL (a.take i ++ x :: (a.drop (i + 1) ++ b)) := by rw [e1]; simp
  have h2 : sumL (a ++ b) = sumL (a.take i ++ a[i] :: (a.drop (i + 1) ++ b)) := by
    rw [← List.cons_append, ← List.append_assoc, ← e2]
  rw [h1, h2]
  exact sumL_other (Ne.symm h)
end Go.Proofs.YtlofpooobabkjaaGreatDoor
/-
  The document's answer for digits: Byte, below, Decimal: over this seat's translation.
-/
namespace Go.Proofs.YtlofpooobabkjaaGreatDoor
open Go.RowKit

set_option maxRecDepth 100000 in
theorem byte_any (k : Nat) (w : World) (hk : k < 256) : Calls Tryz.prog 65 #[.int .i64 k] w fun e w' => e = .returned (.string ⟨#[UInt8.ofNat k]⟩) ∧ Below w.heap.size w w' := by
  have hn : (UInt8.ofNat k).toNat = k := by rw [UInt8.toNat_ofNat']; omega
  have HC : (convert 49 9 (.slice (some ⟨w.heap.size, 0, none⟩) 1 1)).run Tryz.prog (w.alloc (.cells #[.int .u8 k] 5)) = .ok (.string ⟨#[UInt8.ofNat k]⟩) (w.alloc (.cells #[.int .u8 k] 5)) :=
    run_convert_bytes_back (P := Tryz.prog) (w.alloc (.cells #[.int .u8 k] 5)) 49 9 5 ⟨w.heap.size, 0, none⟩ 1 [UInt8.ofNat k] Tryz.underlying49 Tryz.underlying5 Tryz.underlying9 (fun j hj => by
      match j, hj with
      | 0, _ => simp [Addr.add, hn])
  clear hn
  go_enter Tryz.func65, Tryz.ntmps65
  go_wp2
  go_ret
  exact ⟨rfl, (Below.refl _ _).alloc (Nat.le_refl _) _⟩

theorem bytes_snoc (a : List UInt8) (b : UInt8) : (⟨a.toArray⟩ : ByteArray) ++ ⟨#[b]⟩ = ⟨(a ++ [b]).toArray⟩ := by
  apply ByteArray.ext
  simp
theorem byte_is (z : Int) (k : Nat) (b : UInt8) (w : World) (hz : z = k) (hk : k < 256) (hb : UInt8.ofNat k = b) : Calls Tryz.prog 65 #[.int .i64 z] w fun e w' => e = .returned (.string ⟨#[b]⟩) ∧ Below w.heap.size w w' := by
  subst hz hb
  exact byte_any k w hk

set_option maxRecDepth 100000 in
set_option maxHeartbeats 1000000 in
theorem below_any (n : Nat) : ∀ (w : World), n ≤ 1000000000000000000 → Calls Tryz.prog 48 #[.int .i64 (-(n : Int))] w fun e w' => e = .returned (.string ⟨(digitsL n).toArray⟩) ∧ Below w.heap.size w w' := by
  induction n using Nat.strongRecOn with
  | ind n ih =>
    intro w hn
    by_cases h0 : n < 10
    · obtain ⟨bt, hbt⟩ : ∃ bt, UInt8.ofNat (48 + n) = bt := ⟨_, rfl⟩
      have HBT : Hid (UInt8.ofNat (48 + n) = bt) := hbt
      have HD : Hid (digitsL n = [bt]) := by show digitsL n = _; rw [digits_small h0, hbt]
      clear ih hbt
      go_enter Tryz.func48, Tryz.ntmps48
      go_wp2_with fail
      refine (byte_is _ (48 + n) bt _ (by omega) (by omega) HBT.out).mono ?_
      rintro e w' ⟨rfl, hb⟩
      have HB : Hid (Below w.heap.size w w') := hb
      clear hb
      go_wp2
      go_ret
      exact ⟨by rw [HD.out]; rfl, HB.out⟩
    · obtain ⟨bt, hbt⟩ : ∃ bt, UInt8.ofNat (48 + n % 10) = bt := ⟨_, rfl⟩
      have HBT : Hid (UInt8.ofNat (48 + n % 10) = bt) := hbt
      have HD : Hid (digitsL n = digitsL (n / 10) ++ [bt]) := by show digitsL n = _; rw [digits_great (by omega), hbt]
      have hdl : (digitsL (n / 10)).length ≤ 19 := digits_length 18 (n / 10) (by omega)
      clear hbt
      have IH : Hid (∀ (w : World), Calls Tryz.prog 48 #[.int .i64 (-((n / 10 : Nat) : Int))] w fun e w' => e = .returned (.string ⟨(digitsL (n / 10)).toArray⟩) ∧ Below w.heap.size w w') := fun w => ih (n / 10) (by omega) w (by omega)
      clear ih
      have hd : (-(n : Int)).tdiv 10 = -((n / 10 : Nat) : Int) := by rw [Int.neg_tdiv, Int.tdiv_eq_ediv_of_nonneg (by omega)]; rfl
      have hm : (-(n : Int)).tmod 10 = -((n % 10 : Nat) : Int) := by rw [Int.neg_tmod, Int.tmod_eq_emod_of_nonneg (by omega)]; rfl
      go_enter Tryz.func48, Tryz.ntmps48
      go_wp2_with fail
      refine (IH.out _).mono ?_
      rintro e w1 ⟨rfl, hb1⟩
      clear IH
      generalize digitsL (n / 10) = ds at HD hdl
      have HB1 : Hid (Below w.heap.size w w1) := hb1
      clear hb1
      go_wp2_with fail
      refine (byte_is _ (48 + n % 10) bt _ (by omega) (by omega) HBT.out).mono ?_
      rintro e w2 ⟨rfl, hb2⟩
      have HB2 : Hid (Below w.heap.size w w2) := HB1.out.trans (hb2.mono HB1.out.size)
      clear hb2 HB1
      go_wp2
      go_ret
      exact ⟨by rw [HD.out, ← bytes_snoc]; rfl, HB2.out⟩

set_option maxRecDepth 100000 in
theorem decimal_any (n : Nat) (w : World) (hn : n ≤ 1000000000000000000) : Calls Tryz.prog 34 #[.int .i64 n] w fun e w' => e = .returned (.string ⟨(digitsL n).toArray⟩) ∧ Below w.heap.size w w' := by
  go_enter Tryz.func34, Tryz.ntmps34
  go_wp2_with fail
  refine (below_any n _ hn).mono ?_
  rintro e w1 ⟨rfl, hb1⟩
  have HB1 : Hid (Below w.heap.size w w1) := hb1
  clear hb1
  go_wp2
  go_ret
  exact ⟨rfl, HB1.out⟩

/-- Digits read from one place on. -/
theorem value_snoc (s : List UInt8) (b : UInt8) : valueFrom 0 (s ++ [b]) = 10 * valueFrom 0 s + (b.toNat - 48) := by simp [valueFrom]
theorem value_from : ∀ (s : List UInt8) (h : Nat), s.all isDigit = true → valueFrom h s < (h + 1) * 10 ^ s.length
  | [], h, _ => by simp [valueFrom]
  | b :: r, h, hd => by
    rw [List.all_cons, Bool.and_eq_true] at hd
    have h2 := hd.1
    simp [isDigit] at h2
    have ih := value_from r (10 * h + (b.toNat - 48)) hd.2
    show valueFrom (10 * h + (b.toNat - 48)) r < _
    have : (10 * h + (b.toNat - 48) + 1) * 10 ^ r.length ≤ ((h + 1) * 10) * 10 ^ r.length := Nat.mul_le_mul_right _ (by omega)
    rw [List.length_cons, Nat.pow_succ, Nat.mul_comm (10 ^ r.length) 10, ← Nat.mul_assoc]
    omega
theorem value_lt {s : List UInt8} (h : s.all isDigit = true) (hl : s.length ≤ 18) : valueFrom 0 s < 1000000000000000000 := by
  have h1 := value_from s 0 h
  have h2 : 10 ^ s.length ≤ 10 ^ 18 := Nat.pow_le_pow_right (by decide) hl
  omega
end Go.Proofs.YtlofpooobabkjaaGreatDoor
/-
  The document's answer for sums: SumOf, powerOf, JoinSums: over this seat's translation.
-/
namespace Go.Proofs.YtlofpooobabkjaaGreatDoor
open Go.RowKit

theorem w64 (z : Int) (h : -9223372036854775808 ≤ z ∧ z ≤ 9223372036854775807) : wrap64 z = z := by unfold wrap64; omega
theorem tmod_nat (a m : Nat) : ((a : Int)).tmod (m : Int) = ((a % m : Nat) : Int) := by
  rw [Int.tmod_eq_emod_of_nonneg (by omega)]
  rfl
theorem powM_half (n : Nat) : powM n = if n % 2 = 1 then powM (n / 2) * powM (n / 2) % Mo * 263 % Mo else powM (n / 2) * powM (n / 2) % Mo := by
  have e : powM (n / 2 + n / 2) = powM (n / 2) * powM (n / 2) % Mo := powM_add _ _
  by_cases h : n % 2 = 1
  · rw [if_pos h, ← e, ← powM_succ]
    congr 1
    omega
  · rw [if_neg h, ← e]
    congr 1
    omega

set_option maxRecDepth 100000 in
set_option maxHeartbeats 1000000 in
theorem refSumOf_any (l : List UInt8) (w : World) (hl : l.length ≤ 100000000) : Calls Tryz.prog 23 #[.string ⟨l.toArray⟩] w fun e w' => e = .returned (.int .i64 (sumL l)) ∧ w' = w := by
  go_enter Tryz.func23, Tryz.ntmps23
  go_wp2_with fail
  go_loopw [3, 4, 5] (fun nv pv iv wr => ∃ j : Nat, j ≤ l.length ∧ nv = .int .i64 (sumL (l.drop j)) ∧ pv = .int .i64 (powM (l.length - j)) ∧ iv = .int .i64 ((j : Int) - 1) ∧ wr = w) (fun _ _ iv _ => (intOf iv + 1).toNat)
  case atStart => exact ⟨l.length, Nat.le_refl _, by rw [List.drop_length]; rfl, by rw [Nat.sub_self]; rfl, by go_num, rfl⟩
  case round =>
    obtain ⟨j, hj, rfl, rfl, rfl, hb⟩ := hrel
    subst hb
    rcases j with _ | j
    · go_wp2
      go_ret
      exact ⟨by rw [List.drop_zero]; rfl, rfl⟩
    · have hlt : j < l.length := by omega
      have HS : Hid (sumL (l.drop j) = ((l[j].toNat + 1) * powM (l.length - (j + 1)) + sumL (l.drop (j + 1))) % Mo) := by
        show sumL (l.drop j) = _
        rw [List.drop_eq_getElem_cons hlt, sumL_cons, List.length_drop]
      have HP : Hid (powM (l.length - j) = powM (l.length - (j + 1)) * 263 % Mo) := by
        show powM (l.length - j) = _
        rw [← powM_succ]
        congr 1
        omega
      have h1 := sumL_lt (l.drop (j + 1))
      have h2 := powM_lt (l.length - (j + 1))
      generalize sumL (l.drop (j + 1)) = n at HS h1
      generalize powM (l.length - (j + 1)) = q at HS HP h2
      have hx : (((j + 1 : Nat) : Int) - 1) = (j : Int) := by omega
      rw [hx]
      clear hx
      unfold Mo at h1 h2
      go_wp2_with fail
      have hbl := l[j].toNat_lt
      have hqb : (l[j].toNat + 1) * q ≤ 256 * 1000000006 := Nat.mul_le_mul (by omega) (by omega)
      have e0 : wrap64 (l[j].toNat : Int) = (l[j].toNat : Int) := w64 _ (by omega)
      have e1 : wrap64 ((l[j].toNat : Int) + 1) = (l[j].toNat : Int) + 1 := w64 _ (by omega)
      have e2 : (q : Int) * ((l[j].toNat : Int) + 1) = (((l[j].toNat + 1) * q : Nat) : Int) := by rw [Int.natCast_mul, Int.mul_comm]; rfl
      have e3 : wrap64 (((l[j].toNat + 1) * q : Nat) : Int) = (((l[j].toNat + 1) * q : Nat) : Int) := w64 _ (by omega)
      have e4 : wrap64 ((n : Int) + (((l[j].toNat + 1) * q : Nat) : Int)) = (((l[j].toNat + 1) * q + n : Nat) : Int) := by rw [w64 _ (by omega)]; omega
      refine ⟨⟨j, by omega, ?_, ?_, rfl, trivial⟩, by simp [intOf]⟩
      · show Value.int .i64 ((wrap64 (n + wrap64 (q * wrap64 (wrap64 (l[j].toNat : Int) + 1)))).tmod 1000000007) = _
        rw [e0, e1, e2, e3, e4, HS.out]
        exact congrArg _ (tmod_nat _ _)
      · rw [HP.out]
        go_num

/-- Two sums joined: the number, and an error's number. -/
def joinS (a b n : Int) : Int × Nat := if isS a = true ∧ isS b = true ∧ 0 ≤ n ∧ n ≤ 1073741824 then ((((a.toNat * powM n.toNat + b.toNat) % Mo : Nat) : Int), 0) else (0, 2)

theorem bytes_cons (b : UInt8) (a : List UInt8) : (⟨#[b]⟩ : ByteArray) ++ ⟨a.toArray⟩ = ⟨(b :: a).toArray⟩ := by
  apply ByteArray.ext
  simp

end Go.Proofs.YtlofpooobabkjaaGreatDoor
/-
  Package sum: isSum, power, Of: contracts, over this seat's translation.
-/
namespace Go.Proofs.YtlofpooobabkjaaGreatDoor
open Go.RowKit

theorem mul_mod_pow (a x m : Nat) : a * (x % Mo) ^ m % Mo = a * x ^ m % Mo := by
  rw [Nat.mul_mod, Nat.pow_mod (x % Mo), Nat.mod_mod, ← Nat.pow_mod, ← Nat.mul_mod]
/-- A power of a square: what is left of it. -/
theorem pow_odd (o q k : Nat) (h : k % 2 = 1) : o * q % Mo * (q * q % Mo) ^ (k / 2) % Mo = o * q ^ k % Mo := by
  have e : q ^ k = q * (q * q) ^ (k / 2) := by
    rw [← Nat.pow_two, ← Nat.pow_mul, ← Nat.pow_succ']
    congr 1
    omega
  rw [mul_mod_pow, e, ← Nat.mul_assoc, Nat.mod_mul_mod]
theorem pow_even (o q k : Nat) (h : ¬ k % 2 = 1) : o * (q * q % Mo) ^ (k / 2) % Mo = o * q ^ k % Mo := by
  have e : q ^ k = (q * q) ^ (k / 2) := by
    rw [← Nat.pow_two, ← Nat.pow_mul]
    congr 1
    omega
  rw [mul_mod_pow, e]

theorem mul_fits {x y : Nat} (hx : x < 1000000007) (hy : y < 1000000007) : IntKind.i64.wrap ((x : Int) * (y : Int)) = (x : Int) * (y : Int) ∧ ((x : Int) * (y : Int)).tmod 1000000007 = ((x * y % 1000000007 : Nat) : Int) := by
  have hxy : x * y ≤ 1000000006 * 1000000006 := Nat.mul_le_mul (by omega) (by omega)
  refine ⟨?_, by rw [← Int.natCast_mul]; exact tmod_nat _ _⟩
  rw [IntKind.wrap_i64, ← Int.natCast_mul]
  omega

set_option maxRecDepth 100000 in
set_option maxHeartbeats 1000000 in
theorem pkOf_any (l : List UInt8) (w : World) (hl : l.length ≤ 281474976710656) : Calls Tryz.prog 22 #[.string ⟨l.toArray⟩] w fun e w' => e = .returned (.int .i64 (sumL l)) ∧ w' = w := by
  go_enter Tryz.func22, Tryz.ntmps22
  go_wp2_with fail
  go_loopw [3, 7] (fun nv iv wr => ∃ j : Nat, j ≤ l.length ∧ nv = .int .i64 (sumL (l.take j)) ∧ iv = .int .i64 (j : Int) ∧ wr = w) (fun _ iv _ => l.length - (intOf iv).toNat)
  case atStart => exact ⟨0, Nat.zero_le _, by rw [List.take_zero]; rfl, rfl, rfl⟩
  case round =>
    obtain ⟨j, hj, rfl, rfl, hb⟩ := hrel
    subst hb
    by_cases h0 : j = l.length
    · subst h0
      go_wp2
      go_ret
      exact ⟨by rw [List.take_length]; rfl, rfl⟩
    · have hlt : j < l.length := by omega
      have HS : Hid (sumL (l.take (j + 1)) = (sumL (l.take j) * 263 + l[j].toNat + 1) % Mo) := by
        show sumL (l.take (j + 1)) = _
        rw [List.take_add_one, List.getElem?_eq_getElem hlt]
        exact sumL_snoc _ _
      have h1 := sumL_lt (l.take j)
      unfold Mo at h1
      clear h0
      generalize sumL (l.take j) = n at HS h1
      go_wp2_with fail
      have hbl := l[j].toNat_lt
      have e0 : wrap64 (l[j].toNat : Int) = (l[j].toNat : Int) := w64 _ (by omega)
      have e1 : wrap64 ((n : Int) * 263 + (l[j].toNat : Int)) = (n : Int) * 263 + (l[j].toNat : Int) := w64 _ (by omega)
      have e2 : wrap64 ((n : Int) * 263 + (l[j].toNat : Int) + 1) = ((n * 263 + l[j].toNat + 1 : Nat) : Int) := by rw [w64 _ (by omega)]; omega
      refine ⟨⟨j + 1, by omega, ?_, rfl, trivial⟩, by simp [intOf]; omega⟩
      show Value.int .i64 ((wrap64 (wrap64 ((n : Int) * 263 + wrap64 (l[j].toNat : Int)) + 1)).tmod 1000000007) = _
      rw [e0, e1, e2, HS.out]
      exact congrArg _ (tmod_nat _ _)
end Go.Proofs.YtlofpooobabkjaaGreatDoor
/-
  What package sum wants of the listed variables: two errors of package api, two of package strconv, the table of powers of ten; and package sum's Join: a contract, over this seat's translation.
-/
namespace Go.Proofs.YtlofpooobabkjaaGreatDoor
open Go.RowKit

structure SEnv (p : Nat → Addr) (w : World) : Prop where
  s0 : w.cell? ⟨1, 0, none⟩ = some (.iface 171 (.pointer (some (p 0))))
  s1 : w.cell? ⟨0, 0, none⟩ = some (.iface 171 (.pointer (some (p 1))))
  syn : ∃ a, w.cell? ⟨16, 0, none⟩ = some (.iface 171 (.pointer (some a)))
  rng : ∃ a, w.cell? ⟨17, 0, none⟩ = some (.iface 171 (.pointer (some a)))
  tab : Lib.TabIs Tryz.prog w "internal/strconv.uint64pow10" .u64 Lib.pow10Tab

theorem lt_of_cell {w : World} {a : Addr} {v : Value} (h : w.cell? a = some v) : a.block < w.heap.size := by
  rcases Nat.lt_or_ge a.block w.heap.size with h' | h'
  · exact h'
  · simp [World.cell?, Array.getElem?_eq_none h'] at h
theorem var_below {n : String} {g : Nat} {cs : Array Value} {w w' : World} (hg : Tryz.prog.globalNamed n = some g) (h : w.var? Tryz.prog n = some cs) (hb : Below w.heap.size w w') : w'.var? Tryz.prog n = some cs := by
  unfold World.var? at h ⊢
  rw [hg] at h ⊢
  simp only [Option.bind_some] at h ⊢
  have hlt : g < w.heap.size := by
    rcases Nat.lt_or_ge g w.heap.size with h' | h'
    · exact h'
    · rw [Array.getElem?_eq_none h'] at h; cases h
  rw [hb.block g hlt]
  exact h
theorem Tryz.gPow10 : Tryz.prog.globalNamed "internal/strconv.uint64pow10" = some 15 := by kernel_rfl

theorem SEnv.below {p : Nat → Addr} {w w' : World} (E : SEnv p w) (hb : Below w.heap.size w w') : SEnv p w' where
  s0 := (hb.cell (p := ⟨1, 0, none⟩) (lt_of_cell E.s0)).trans E.s0
  s1 := (hb.cell (p := ⟨0, 0, none⟩) (lt_of_cell E.s1)).trans E.s1
  syn := by
    obtain ⟨a, h⟩ := E.syn
    exact ⟨a, (hb.cell (p := ⟨16, 0, none⟩) (lt_of_cell h)).trans h⟩
  rng := by
    obtain ⟨a, h⟩ := E.rng
    exact ⟨a, (hb.cell (p := ⟨17, 0, none⟩) (lt_of_cell h)).trans h⟩
  tab := var_below Tryz.gPow10 E.tab hb

theorem joinS_yes {a b n : Int} (ha : isS a = true) (hb : isS b = true) (h0 : 0 ≤ n) (h1 : n ≤ 1073741824) : joinS a b n = ((((a.toNat * powM n.toNat + b.toNat) % Mo : Nat) : Int), 0) := by simp only [joinS, ha, hb, h0, h1, and_self, if_true]
theorem joinS_no {a b n : Int} (h : ¬ (isS a = true ∧ isS b = true ∧ 0 ≤ n ∧ n ≤ 1073741824)) : joinS a b n = (0, 2) := by unfold joinS; rw [if_neg h]

end Go.Proofs.YtlofpooobabkjaaGreatDoor
/-
  Package sum: Text, Read: contracts, over this seat's translation.
-/
namespace Go.Proofs.YtlofpooobabkjaaGreatDoor
open Go.RowKit Go.Shelf

theorem below_grown (w : World) (k : Nat) (os : Array Obj) : Below w.heap.size w (Go.Sort.grow (w.drewN k) os) :=
  ⟨rfl, rfl, rfl, by simp [Go.Sort.grow, World.drewN], fun k hk => by simp [Go.Sort.grow, World.drewN, Array.getElem?_append_left hk]⟩

/-- strconv.Itoa of a number from 0 on. -/
theorem itoa_any (n : Nat) (w : World) (hn : n < 9223372036854775808) (htab : Lib.TabIs Tryz.prog w "internal/strconv.uint64pow10" .u64 Lib.pow10Tab) :
    Calls Tryz.prog 30 #[.int .i64 n] w fun e w' => e = .returned (.string ⟨(digitsL n).toArray⟩) ∧ Below w.heap.size w w' :=
  (Tryz.strconv_Itoa n (by omega) (by omega) w htab).mono fun e w' ⟨h1, k, os, h2⟩ => ⟨by rw [h1, Lib.itoa_nonneg, itoa_digits], by rw [h2]; exact below_grown w k os⟩

/-- What strconv.Atoi tells of a text: a number and no error, or some error that is not nil. -/
theorem atoi_any (p : Nat → Addr) (l : List UInt8) (w : World) (hE : SEnv p w) (hl : l.length ≤ 281474976710656) :
    Calls Tryz.prog 70 #[.string ⟨l.toArray⟩] w fun e w' => ((∃ v, Lib.atoiAll l = .ok v ∧ e = .returned (.tuple #[.int .i64 v, .nilIface])) ∨ ((∀ v, Lib.atoiAll l ≠ .ok v) ∧ ∃ v N, e = .returned (.tuple #[.int .i64 v, .iface 155 (.pointer (some ⟨N, 0, none⟩))]))) ∧ Below w.heap.size w w' := by
  have hs : (⟨l.toArray⟩ : ByteArray).size = l.length := by simp [ByteArray.size]
  cases h : Lib.atoiAll l with
  | ok v =>
    refine (Tryz.strconv_Atoi_ok ⟨l.toArray⟩ (by omega) v (by simpa using h) w).mono fun e w' ⟨h1, h2⟩ => ⟨Or.inl ⟨v, rfl, h1⟩, ?_⟩
    rcases h2 with rfl | ⟨t, rfl⟩
    · exact Below.refl _ _
    · exact Lib.bytesWorld_below _ _ _
  | «syntax» =>
    obtain ⟨a, ha⟩ := hE.syn
    exact (Tryz.strconv_Atoi_syntax ⟨l.toArray⟩ (by omega) (by simpa using h) _ w ha (Or.inr ⟨_, _, rfl⟩)).mono fun e w' ⟨N, h1, _, _, h4⟩ => ⟨Or.inr ⟨(fun v hv => by cases hv), _, N, h1⟩, h4⟩
  | range =>
    obtain ⟨a, ha⟩ := hE.rng
    exact (Tryz.strconv_Atoi_range ⟨l.toArray⟩ (by omega) (by simpa using h) _ w ha (Or.inr ⟨_, _, rfl⟩)).mono fun e w' ⟨N, h1, _, _, h4⟩ => ⟨Or.inr ⟨(fun v hv => by cases hv), _, N, h1⟩, h4⟩

theorem cutPrefix_s (l : List UInt8) (w : World) : Calls Tryz.prog 39 #[.string ⟨l.toArray⟩, .string ⟨#[115]⟩] w fun e w' => e = .returned (.tuple #[.string ⟨(if l.head? = some 115 then l.tail else l).toArray⟩, .bool (decide (l.head? = some 115))]) ∧ w' = w := by
  refine (Tryz.strings_CutPrefix ⟨l.toArray⟩ ⟨#[115]⟩ w).mono fun e w' ⟨h1, h2⟩ => ⟨?_, h2⟩
  rw [h1]
  cases l with
  | nil => rfl
  | cons b r =>
    by_cases hb : b = 115
    · subst hb
      simp [Lib.trimPrefix, Lib.hasPrefix, List.isPrefixOf]
    · have hb' : ¬ (115 : UInt8) = b := fun e => hb e.symm
      simp [Lib.trimPrefix, Lib.hasPrefix, List.isPrefixOf, hb, hb']

theorem readS_no {s : List UInt8} (h : ∀ v, Lib.atoiAll s.tail = .ok v → s.head? = some 115 → textS v ≠ s) : readS s = (0, 1) := by
  unfold readS
  rw [if_neg]
  rintro ⟨h1, h2⟩
  have hb := isS_bounds h2
  have e := number_inv hb.1
  have ht := text_read ⟨h1, h2⟩
  obtain ⟨n, hn⟩ := Int.eq_ofNat_of_zero_le hb.1
  rw [hn] at e ht
  rw [Int.toNat_natCast] at e
  exact h n (by rw [e]; exact atoi_digits (by omega)) h1 ht

theorem readS_yes {s : List UInt8} {v : Int} (h1 : s.head? = some 115) (h2 : textS v = s) : readS s = (v, 0) := by
  have hv : isS v = true := by
    rcases hc : isS v with _ | _
    · exfalso
      unfold textS at h2
      rw [hc] at h2
      simp at h2
      rw [h2] at h1
      cases h1
    · rfl
  rw [← h2]
  exact read_text hv

end Go.Proofs.YtlofpooobabkjaaGreatDoor
/-
  A text cut at its first line end, split at blanks, its line end cut off, and the number of bytes of a file read: contracts, over this seat's translation.
-/
namespace Go.Proofs.YtlofpooobabkjaaGreatDoor
open Go.RowKit Go.Shelf

theorem slCutBy_none (c : UInt8) (l : List UInt8) (w : World) (h : cutBy c l = none) : Calls Tryz.prog 55 #[.string ⟨l.toArray⟩, .string ⟨#[c]⟩] w fun e w' => e = .returned (.tuple #[.string ⟨l.toArray⟩, .string ⟨#[]⟩, .bool false]) ∧ w' = w := by
  have HI : Hid (Lib.indexByte l c = -1) := indexBy_none (cutBy_no.1 h)
  clear h
  go_enter Tryz.func55, Tryz.ntmps55
  go_wp2_with fail
  refine (Tryz.stringslite_Index_one _ c _).mono ?_
  rintro e w' ⟨rfl, rfl⟩
  rw [show Lib.indexByte ({ data := l.toArray } : ByteArray).data.toList c = -1 from by simpa using HI.out]
  go_wp2
  go_ret3
  exact ⟨rfl, rfl⟩

theorem slCutBy_some (c : UInt8) (l a b : List UInt8) (w : World) (hl : l.length ≤ 100000) (h : cutBy c l = some (a, b)) : Calls Tryz.prog 55 #[.string ⟨l.toArray⟩, .string ⟨#[c]⟩] w fun e w' => e = .returned (.tuple #[.string ⟨a.toArray⟩, .string ⟨b.toArray⟩, .bool true]) ∧ ∃ n, w' = w.drewN n := by
  have HL : Hid (l = a ++ c :: b) := (cutBy_some h).1
  have HI : Hid (Lib.indexByte l c = a.length) := by
    show Lib.indexByte l c = _
    rw [HL.out]
    exact indexBy_at b (cutBy_some h).2
  have hlen : a.length + b.length + 1 = l.length := by rw [HL.out]; simp; omega
  clear h
  go_enter Tryz.func55, Tryz.ntmps55
  go_wp2_with fail
  refine (Tryz.stringslite_Index_one _ c _).mono ?_
  rintro e w' ⟨rfl, rfl⟩
  rw [show Lib.indexByte ({ data := l.toArray } : ByteArray).data.toList c = a.length from by simpa using HI.out]
  go_wp2_with fail
  go_quiet (fail)
  go_wp2
  go_ret3
  refine ⟨?_, nq, rfl⟩
  have e1 : ({ data := l.toArray } : ByteArray).extract 0 a.length = ⟨a.toArray⟩ := by
    rw [extract_list, HL.out]; simp
  have e2 : ({ data := l.toArray } : ByteArray).extract (a.length + 1) l.length = ⟨b.toArray⟩ := by
    rw [extract_list, HL.out]
    simp
    rw [List.take_of_length_le (by omega)]
  rw [← e1, ← e2]
  rfl

theorem cutBy_miss (c : UInt8) (l : List UInt8) (w : World) (h : cutBy c l = none) : Calls Tryz.prog 37 #[.string ⟨l.toArray⟩, .string ⟨#[c]⟩] w fun e w' => e = .returned (.tuple #[.string ⟨l.toArray⟩, .string ⟨#[]⟩, .bool false]) ∧ w' = w := by
  have H : Hid (cutBy c l = none) := h
  clear h
  go_enter Tryz.func37, Tryz.ntmps37
  go_wp2_with fail
  refine (slCutBy_none _ _ _ H.out).mono ?_
  rintro e w' ⟨rfl, rfl⟩
  go_wp2
  go_ret3
  exact ⟨rfl, rfl⟩
theorem cutBy_hit (c : UInt8) (l a b : List UInt8) (w : World) (hl : l.length ≤ 100000) (h : cutBy c l = some (a, b)) : Calls Tryz.prog 37 #[.string ⟨l.toArray⟩, .string ⟨#[c]⟩] w fun e w' => e = .returned (.tuple #[.string ⟨a.toArray⟩, .string ⟨b.toArray⟩, .bool true]) ∧ ∃ n, w' = w.drewN n := by
  have H : Hid (cutBy c l = some (a, b)) := h
  clear h
  go_enter Tryz.func37, Tryz.ntmps37
  go_wp2_with fail
  refine (slCutBy_some _ _ _ _ _ hl H.out).mono ?_
  rintro e w' ⟨rfl, nq, rfl⟩
  go_wp2
  go_ret3
  exact ⟨rfl, nq, rfl⟩

theorem cutPrefix_by (c : UInt8) (l : List UInt8) (w : World) : Calls Tryz.prog 39 #[.string ⟨l.toArray⟩, .string ⟨#[c]⟩] w fun e w' => e = .returned (.tuple #[.string ⟨(if l.head? = some c then l.tail else l).toArray⟩, .bool (decide (l.head? = some c))]) ∧ w' = w := by
  refine (Tryz.strings_CutPrefix ⟨l.toArray⟩ ⟨#[c]⟩ w).mono fun e w' ⟨h1, h2⟩ => ⟨?_, h2⟩
  rw [h1]
  cases l with
  | nil => simp [Lib.trimPrefix, Lib.hasPrefix, List.isPrefixOf]
  | cons b r =>
    by_cases hb : b = c
    · subst hb
      simp [Lib.trimPrefix, Lib.hasPrefix, List.isPrefixOf]
    · have hb' : ¬ c = b := fun e => hb e.symm
      simp [Lib.trimPrefix, Lib.hasPrefix, List.isPrefixOf, hb, hb']

theorem splitK_pieces (c : UInt8) : ∀ (k : Nat) (l : List UInt8), l.count c = k → Lib.splitK [c] 0 k l = piecesBy c l
  | k, l, hk => by
    cases hc : cutBy c l with
    | none =>
      have hn := cutBy_no.1 hc
      rw [piecesBy_none hn]
      have h0 : k = 0 := by rw [← hk]; exact List.count_eq_zero.2 hn
      subst h0
      rfl
    | some x =>
      obtain ⟨e, hn⟩ := cutBy_some (a := x.1) (b := x.2) hc
      have h1 : k = (x.2.count c) + 1 := by
        rw [← hk, e, List.count_append, List.count_eq_zero.2 hn, List.count_cons_self]
        omega
      subst h1
      have ih := splitK_pieces c (x.2.count c) x.2 rfl
      have hi : Lib.index l [c] = x.1.length := by
        rw [Lib.index_one, e]
        exact indexBy_at x.2 hn
      rw [piecesBy_cut (a := x.1) (b := x.2) hc, Lib.splitK, if_neg (by rw [hi]; simp), hi, ← ih]
      have e1 : l.take ((x.1.length : Int).toNat + 0) = x.1 := by rw [e]; simp
      have e2 : l.drop ((x.1.length : Int).toNat + [c].length) = x.2 := by rw [e]; simp
      rw [e1, e2]

theorem splitB_pieces (c : UInt8) (l : List UInt8) : (Lib.splitB ⟨#[c]⟩ 0 (l.count c) ⟨l.toArray⟩).map Value.string = (piecesBy c l).map sv := by
  have h := Lib.splitB_data ⟨#[c]⟩ 0 (l.count c) ⟨l.toArray⟩
  have h' : (Lib.splitB ⟨#[c]⟩ 0 (l.count c) ⟨l.toArray⟩).map (·.data.toList) = piecesBy c l := by
    rw [h, ← splitK_pieces c _ l rfl]
  rw [← h', List.map_map]
  apply List.map_congr_left
  intro b _
  simp [sv]

theorem split_any (c : UInt8) (l : List UInt8) (w : World) (hl : l.length ≤ 100000) : Calls Tryz.prog 56 #[.string ⟨l.toArray⟩, .string ⟨#[c]⟩] w fun e w' => e = .returned (.slice (some ⟨w.heap.size, 0, none⟩) (piecesBy c l).length (piecesBy c l).length) ∧ w' = w.alloc (.cells ((piecesBy c l).map sv).toArray 9) := by
  have hs : (⟨l.toArray⟩ : ByteArray).size = l.length := by simp [ByteArray.size]
  have hcnt : Lib.countB ⟨l.toArray⟩ ⟨#[c]⟩ = l.count c := Lib.count_one c l
  have hle : l.count c ≤ l.length := List.count_le_length
  have hlen := piecesBy_length c l
  have hB := splitB_pieces c l
  have hBl : (Lib.splitB ⟨#[c]⟩ 0 (l.count c) ⟨l.toArray⟩).length = l.count c + 1 := by
    have := congrArg List.length hB
    rw [List.length_map, List.length_map] at this
    omega
  have core := Any.strings_genSplit_core Tryz.lays221 (by kernel_rfl) ⟨l.toArray⟩ ⟨#[c]⟩ 0 (-1) (l.count c + 1) w (by omega) (by simp [ByteArray.size]) (Nat.zero_le _)
    (fun x cs _ => (Tryz.strings_Index_one x c _).mono fun e w' ⟨h1, h2⟩ => ⟨by rw [h1]; show Ending.returned (.int .i64 (Lib.indexByte x.data.toList c)) = .returned (.int .i64 (Lib.index x.data.toList [c])); rw [Lib.index_one], h2⟩)
    ((Tryz.strings_Count_one ⟨l.toArray⟩ c w).mono fun e w' ⟨h1, h2⟩ => ⟨by rw [h1, hcnt]; rfl, h2⟩)
    (by decide) (by decide) (by rw [if_pos (by decide), hcnt, hs]; omega)
  rw [Nat.add_sub_cancel, hBl] at core
  have e2 : Lib.cellsOf (Lib.splitB ⟨#[c]⟩ 0 (l.count c) ⟨l.toArray⟩) (l.count c + 1) = ((piecesBy c l).map sv).toArray := by
    rw [← hB, ← hBl]
    exact Lib.cellsOf_full _
  rw [e2] at core
  have HC := Lib.hid core
  have HL := Lib.hid hlen
  clear core e2 hBl hB hcnt hlen
  go_enter Tryz.func56, Tryz.ntmps56
  go_wp2_with fail
  refine HC.out.mono ?_
  rintro e w' ⟨rfl, rfl⟩
  go_wp2
  go_ret
  rw [HL.out]
  exact ⟨rfl, rfl⟩

theorem digits_bound {v k : Nat} (h : (digitsL v).length ≤ k) : v < 10 ^ k := by
  have h1 := value_from (digitsL v) 0 (digits_digit v)
  rw [digits_value] at h1
  have h2 : 10 ^ (digitsL v).length ≤ 10 ^ k := Nat.pow_le_pow_right (by decide) h
  omega
theorem number_atoi {l : List UInt8} {v : Int} (h : 0 ≤ numberL l 6) (hv : Lib.atoiAll l = .ok v) : v = numberL l 6 ∧ l = digitsL v.toNat := by
  obtain ⟨m, hm⟩ := Int.eq_ofNat_of_zero_le h
  have e := number_inv h
  rw [hm, Int.toNat_natCast] at e
  have hl : (digitsL m).length ≤ 6 := by
    rw [← e]
    unfold numberL at h
    split at h
    · omega
    · omega
  have hb := digits_bound hl
  have := atoi_digits (n := m) (by omega)
  rw [← e, hv] at this
  cases this
  exact ⟨hm.symm, by simpa using e⟩
theorem number_of_digits {l : List UInt8} {v : Nat} (h : digitsL v = l) (hl : l.length ≤ 6) : numberL l 6 = v := by
  subst h
  exact number_digits (k := 5) (digits_bound hl)

/-- How many bytes: whether a word tells it, and what. -/
def sizeOfL (l : List UInt8) : Int × Bool := if 0 ≤ numberL l 6 then (numberL l 6, true) else (0, false)
theorem size_yes {l : List UInt8} {v : Nat} (h : digitsL v = l) (hl : l.length ≤ 6) : sizeOfL l = ((v : Int), true) := by
  unfold sizeOfL
  rw [number_of_digits h hl, if_pos (by omega)]
theorem size_no {l : List UInt8} (h : ∀ v, Lib.atoiAll l = .ok v → 0 ≤ v → l.length ≤ 6 → digitsL v.toNat ≠ l) : sizeOfL l = (0, false) := by
  unfold sizeOfL
  rw [if_neg]
  intro h0
  obtain ⟨m, hm⟩ := Int.eq_ofNat_of_zero_le h0
  have e := number_inv h0
  rw [hm, Int.toNat_natCast] at e
  have hl : l.length ≤ 6 := by
    unfold numberL at h0
    split at h0
    · omega
    · omega
  have hb := digits_bound (v := m) (k := 6) (by rw [← e]; exact hl)
  have ha := atoi_digits (n := m) (by omega)
  rw [← e] at ha
  exact h m ha (by omega) hl (by simpa using e.symm)

set_option maxRecDepth 100000 in
set_option maxHeartbeats 1000000 in
theorem readSize_any (p : Nat → Addr) (l : List UInt8) (w : World) (hE : SEnv p w) (hl : l.length ≤ 100000) :
    Calls Tryz.prog 57 #[.string ⟨l.toArray⟩] w fun e w' => e = .returned (.tuple #[.int .i64 (sizeOfL l).1, .bool (sizeOfL l).2]) ∧ Below w.heap.size w w' := by
  have HE : Hid (SEnv p w) := hE
  clear hE
  go_enter Tryz.func57, Tryz.ntmps57
  go_wp2_with fail
  refine (atoi_any p l _ HE.out (by omega)).mono ?_
  rintro e w1 ⟨hcase, hb1⟩
  have HB1 := Lib.hid hb1
  have HE1 := Lib.hid (HE.out.below hb1)
  clear hb1
  rcases hcase with ⟨v, hv, rfl⟩ | ⟨hv, v, N, rfl⟩
  · have HV := Lib.hid hv
    clear hv
    by_cases h0 : v < 0
    · have HR : Hid (sizeOfL l = (0, false)) := size_no fun u hu hu0 _ => by
        have := HV.out.symm.trans hu
        cases this
        omega
      go_wp2
      go_ret2
      exact ⟨by rw [HR.out]; rfl, HB1.out⟩
    · obtain ⟨n, rfl⟩ := Int.eq_ofNat_of_zero_le (Int.not_lt.1 h0)
      have h0' : decide ((n : Int) < 0) = false := by simp
      clear h0
      by_cases h6 : 6 < l.length
      · have HR : Hid (sizeOfL l = (0, false)) := size_no fun u hu hu0 h => by omega
        have h6' : (6 : Int) < (l.length : Int) := by omega
        go_wp2
        go_ret2
        exact ⟨by rw [HR.out]; rfl, HB1.out⟩
      · have h6' : decide ((6 : Int) < (l.length : Int)) = false := by simp; omega
        have hn : n < 9223372036854775808 := by
          have := Lib.atoiAll_bounds HV.out
          omega
        go_wp2_with fail
        refine (itoa_any n _ hn HE1.out.tab).mono ?_
        rintro e w2 ⟨rfl, hb2⟩
        have HB2 := Lib.hid (HB1.out.trans (hb2.mono HB1.out.size))
        clear hb2
        by_cases ht : digitsL n = l
        · have HR := Lib.hid (size_yes ht (by omega))
          rw [ht]
          clear ht
          go_wp2
          go_ret2
          exact ⟨by rw [HR.out]; rfl, HB2.out⟩
        · have HR : Hid (sizeOfL l = (0, false)) := size_no fun u hu _ _ => by
            have := HV.out.symm.trans hu
            cases this
            simpa using ht
          generalize digitsL n = tx at ht
          have ht' : (tx == l) = false := by simpa using ht
          clear ht
          go_wp2
          go_ret2
          exact ⟨by rw [HR.out]; rfl, HB2.out⟩
  · have HR : Hid (sizeOfL l = (0, false)) := size_no fun u hu => absurd hu (hv u)
    clear hv
    go_wp2
    go_ret2
    exact ⟨by rw [HR.out]; rfl, HB1.out⟩
end Go.Proofs.YtlofpooobabkjaaGreatDoor
/-
  Files in memory: three cells each, one behind the other; two files compared: over this seat's translation.
-/
namespace Go.Proofs.YtlofpooobabkjaaGreatDoor
open Go.RowKit Go.Shelf

/-- Files that lie in memory from an address on. -/
def LiesAt (w : World) (a : Option Addr) (l : List F) : Prop :=
  l ≠ [] → ∃ b o, a = some ⟨b, o, none⟩ ∧ ∀ k (h : k < l.length), w.cell? ⟨b, o + k * 3, none⟩ = some (sv l[k].p) ∧ w.cell? ⟨b, o + k * 3 + 1, none⟩ = some (.bool l[k].r) ∧ w.cell? ⟨b, o + k * 3 + 2, none⟩ = some (sv l[k].t)

theorem LiesAt.below {w w' : World} {a : Option Addr} {l : List F} (h : LiesAt w a l) (hb : Below w.heap.size w w') : LiesAt w' a l := fun hl => by
  obtain ⟨b, o, e, hc⟩ := h hl
  refine ⟨b, o, e, fun k hk => ?_⟩
  obtain ⟨h0, h1, h2⟩ := hc k hk
  exact ⟨(hb.cell (p := ⟨b, o + k * 3, none⟩) (block_lt_of_cell h0)).trans h0, (hb.cell (p := ⟨b, o + k * 3 + 1, none⟩) (block_lt_of_cell h1)).trans h1, (hb.cell (p := ⟨b, o + k * 3 + 2, none⟩) (block_lt_of_cell h2)).trans h2⟩

theorem LiesAt.at {w : World} {a : Option Addr} {l : List F} (h : LiesAt w a l) {k : Nat} (hk : k < l.length) : ∃ b o, a = some ⟨b, o, none⟩ ∧ w.cell? ⟨b, o + k * 3, none⟩ = some (sv l[k].p) ∧ w.cell? ⟨b, o + k * 3 + 1, none⟩ = some (.bool l[k].r) ∧ w.cell? ⟨b, o + k * 3 + 2, none⟩ = some (sv l[k].t) := by
  obtain ⟨b, o, e, hc⟩ := h (fun e => by simp [e] at hk)
  exact ⟨b, o, e, hc k hk⟩

theorem Tryz.heldFile : Tryz.prog.stoodInHeld 46 = false := by kernel_rfl
theorem Tryz.guardFile : Tryz.prog.eqGuardType Tryz.prog.depth 46 = false := by kernel_rfl

/-- A file as a value. -/
abbrev fv (f : F) : Value := .agg #[sv f.p, .bool f.r, sv f.t]

theorem file_equal (f g : F) (w : World) : (Op.equalIn 10000 46 (fv f) (fv g)).run Tryz.prog w = .ok (decide (f = g)) w := by
  rw [run_equalIn_agg w 9999 46 _ _ (by kernel_rfl) Tryz.heldFile]
  simp only [Program.fieldsOf, Tryz.underlying46, Op.eqFields]
  have e9 := fun d a b w => run_equalIn_string (P := Tryz.prog) w d 9 a b Tryz.underlying9
  have e4 := fun d a b w => run_equalIn_bool' (P := Tryz.prog) w d 4 a b Tryz.underlying4
  simp [part, isAgg, run_underlying Tryz.underlying9, run_underlying Tryz.underlying4, e9, e4]
  obtain ⟨p1, r1, t1⟩ := f
  obtain ⟨p2, r2, t2⟩ := g
  by_cases h1 : p1 = p2 <;> by_cases h2 : r1 = r2 <;> by_cases h3 : t1 = t2 <;> simp [h1, h2, h3]

theorem file_neq (f g : F) (r : Bool) (h : decide (f = g) = r) (w : World) : (binOp .neq 46 (fv f) (fv g)).run Tryz.prog w = .ok (.bool (!r)) w := by
  rw [run_neq_struct, file_equal, h]
  rfl
end Go.Proofs.YtlofpooobabkjaaGreatDoor
