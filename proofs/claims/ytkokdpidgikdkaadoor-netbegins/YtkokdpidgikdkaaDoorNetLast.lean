/-
  What was put last: for the law NetBegins, plainly: no machine.
-/
import Derived.Test.YtkokdpidgikdkaaDoorNetPure
namespace Go.Proofs.YtkokdpidgikdkaaDoor

/-- The last place of a text in a row (-1: none). -/
def IsLast (us : List (List UInt8)) (u : List UInt8) (j : Int) : Prop :=
  (j = -1 ∧ ∀ m : Nat, us[m]? ≠ some u) ∨ ∃ k : Nat, j = (k : Int) ∧ us[k]? = some u ∧ ∀ m, k < m → us[m]? ≠ some u
theorem IsLast.zero (u : List UInt8) : IsLast [] u (-1) := .inl ⟨rfl, fun m => by simp⟩
theorem IsLast.hit {us : List (List UInt8)} {u : List UInt8} {k : Nat} (hk : k < us.length) (e : us[k] = u) : IsLast (us.take (k + 1)) u (k : Int) := by
  refine .inr ⟨k, rfl, ?_, fun m hm => ?_⟩
  · rw [List.getElem?_take_of_lt (by omega), List.getElem?_eq_getElem hk, e]
  · rw [List.getElem?_eq_none (by simp; omega)]
    simp
theorem IsLast.miss {us : List (List UInt8)} {u : List UInt8} {k : Nat} {j : Int} (hk : k < us.length) (e : us[k] ≠ u) (h : IsLast (us.take k) u j) : IsLast (us.take (k + 1)) u j := by
  have step : ∀ m : Nat, (us.take k)[m]? ≠ some u → (us.take (k + 1))[m]? ≠ some u := fun m hm => by
    by_cases h1 : m < k
    · rw [List.getElem?_take_of_lt (by omega)]
      rwa [List.getElem?_take_of_lt h1] at hm
    · by_cases h2 : m = k
      · subst h2
        rw [List.getElem?_take_of_lt (by omega), List.getElem?_eq_getElem hk]
        simpa using e
      · rw [List.getElem?_eq_none (by simp; omega)]
        simp
  rcases h with ⟨h0, h1⟩ | ⟨i, h0, h1, h2⟩
  · exact .inl ⟨h0, fun m => step m (h1 m)⟩
  · refine .inr ⟨i, h0, ?_, fun m hm => step m (h2 m hm)⟩
    have hi : i < k := by
      by_cases hi : i < k
      · exact hi
      · rw [List.getElem?_eq_none (by simp; omega)] at h1
        simp at h1
    rw [List.getElem?_take_of_lt (by omega)]
    rwa [List.getElem?_take_of_lt hi] at h1

/-- Each text that is in the net was put last at its link. -/
def Tracks (us ts : List (List UInt8)) (s : Ns) : Prop :=
  us.length = ts.length ∧ ∀ u k (_ : spotN s.l u = some k), ∃ j : Nat, us[j]? = some u ∧ ts[j]? = (s.l[k]?).map Si.t ∧ ∀ m, j < m → us[m]? ≠ some u
theorem Tracks.zero : Tracks [] [] Ns.none := ⟨rfl, fun u k h => by simp [Ns.none, spotN] at h⟩
/-- The same links and texts. -/
theorem Tracks.same {us ts : List (List UInt8)} {s s' : Ns} (h : Tracks us ts s) (hs : ∀ u, spotN s'.l u = spotN s.l u) (ht : ∀ k : Nat, (s'.l[k]?).map Si.t = (s.l[k]?).map Si.t) : Tracks us ts s' :=
  ⟨h.1, fun u k hk => by rw [ht]; exact h.2 u k (by rw [← hs]; exact hk)⟩
theorem spot_map {l l' : List Si} (h : l'.map Si.u = l.map Si.u) (u : List UInt8) : spotN l' u = spotN l u := by
  have e : ∀ x : List Si, spotN x u = (x.map Si.u).findIdx? fun y => y == u := fun x => by
    unfold spotN
    rw [List.findIdx?_map]
    rfl
  rw [e, e, h]
theorem Tracks.host {us ts : List (List UInt8)} {s : Ns} (h : Tracks us ts s) (u : List UInt8) (on : Bool) : Tracks us ts (hostN s u on).1 := by
  unfold hostN
  split
  · exact h
  · exact h
theorem Tracks.get {us ts : List (List UInt8)} {s : Ns} (h : Tracks us ts s) (u : List UInt8) : Tracks us ts (getN s u).1 := by
  unfold getN
  repeat' split
  all_goals exact h
theorem Tracks.cut {us ts : List (List UInt8)} {s : Ns} (h : Tracks us ts s) (u : List UInt8) (k : Int) : Tracks us ts (cutN s u k).1 := by
  unfold cutN
  split
  · exact h
  · split
    · exact h
    · rename_i i _ _
      refine h.same (fun v => spot_map ?_ v) (fun m => ?_)
      · apply List.ext_getElem
        · simp
        · intro n h1 h2
          simp only [List.getElem_map, List.getElem_modify]
          split <;> rfl
      · show ((s.l.modify i fun x => { x with c := k })[m]?).map Si.t = _
        rw [List.getElem?_modify]
        cases s.l[m]? with
        | none => simp
        | some x => by_cases e : i = m <;> simp [e]
theorem putN_same {s : Ns} {u t : List UInt8} (h : (putN s u t).2 ≠ 0) : (putN s u t).1 = s := by
  unfold putN at h ⊢
  split
  · rfl
  · rename_i h0
    rw [if_neg h0] at h
    split
    · rfl
    · rename_i h1
      rw [if_neg h1] at h
      split
      · rename_i k hk
        rw [hk] at h
        exact absurd rfl h
      · rename_i hk
        rw [hk] at h
        simp only at h
        split
        · rfl
        · rename_i h2
          rw [if_neg h2] at h
          exact absurd rfl h
theorem Tracks.put {us ts : List (List UInt8)} {s : Ns} {u t : List UInt8} (h : Tracks us ts s) (h0 : (putN s u t).2 = 0) : Tracks (us ++ [u]) (ts ++ [t]) (putN s u t).1 := by
  have hlen : (us ++ [u]).length = (ts ++ [t]).length := by simp [h.1]
  -- what was put, at the end
  have hnew : ∃ j : Nat, (us ++ [u])[j]? = some u ∧ (ts ++ [t])[j]? = some t ∧ ∀ m, j < m → (us ++ [u])[m]? ≠ some u := by
    refine ⟨us.length, by simp, by rw [h.1]; simp, fun m hm => ?_⟩
    rw [List.getElem?_eq_none (by simp; omega)]
    simp
  have hold : ∀ v, v ≠ u → ∀ x, (∃ j : Nat, us[j]? = some v ∧ ts[j]? = some x ∧ ∀ m, j < m → us[m]? ≠ some v) → ∃ j : Nat, (us ++ [u])[j]? = some v ∧ (ts ++ [t])[j]? = some x ∧ ∀ m, j < m → (us ++ [u])[m]? ≠ some v := by
    rintro v hv x ⟨j, h1, h2, h3⟩
    have hj := (List.getElem?_eq_some_iff.1 h1).1
    refine ⟨j, by rw [List.getElem?_append_left hj]; exact h1, by rw [List.getElem?_append_left (by have := h.1; omega)]; exact h2, fun m hm => ?_⟩
    by_cases hm1 : m < us.length
    · rw [List.getElem?_append_left hm1]; exact h3 m hm
    · by_cases hm2 : m = us.length
      · subst hm2; simpa using fun e => hv e.symm
      · rw [List.getElem?_eq_none (by simp; omega)]; simp
  unfold putN at h0 ⊢
  split at h0
  · exact absurd h0 ‹_›
  rename_i hc
  rw [if_neg hc]
  split at h0
  · simp at h0
  rename_i hlong
  rw [if_neg hlong]
  cases hs : spotN s.l u with
  | some k =>
    simp only
    obtain ⟨hk, hku⟩ := spot_some hs
    refine ⟨hlen, fun v i hi => ?_⟩
    have hmap : (s.l.set k ⟨u, t, -1⟩).map Si.u = s.l.map Si.u := by
      apply List.ext_getElem
      · simp
      · intro n h1 h2
        simp only [List.getElem_map, List.getElem_set]
        split
        · rename_i e; subst e; exact hku.symm
        · rfl
    have hi' : spotN (s.l.set k ⟨u, t, -1⟩) v = some i := hi
    rw [spot_map hmap] at hi'
    show ∃ j : Nat, _ ∧ (ts ++ [t])[j]? = ((s.l.set k ⟨u, t, -1⟩)[i]?).map Si.t ∧ _
    by_cases hv : v = u
    · subst hv
      rw [hs] at hi'
      cases hi'
      rw [List.getElem?_set_self hk]
      exact hnew
    · obtain ⟨hi1, hi2⟩ := spot_some hi'
      have hik : k ≠ i := fun e => by subst e; exact hv (hi2.symm.trans hku)
      rw [List.getElem?_set_ne hik, List.getElem?_eq_getElem hi1]
      have := h.2 v i hi'
      rw [List.getElem?_eq_getElem hi1] at this
      exact hold v hv _ this
  | none =>
    rw [hs] at h0
    simp only at h0 ⊢
    split at h0
    · simp at h0
    rename_i hfull
    rw [if_neg hfull]
    refine ⟨hlen, fun v i hi => ?_⟩
    have hi' : spotN (s.l ++ [⟨u, t, -1⟩]) v = some i := hi
    show ∃ j : Nat, _ ∧ (ts ++ [t])[j]? = ((s.l ++ [⟨u, t, -1⟩])[i]?).map Si.t ∧ _
    obtain ⟨hi1, hi2⟩ := spot_some hi'
    unfold spotN at hi'
    rw [List.findIdx?_append] at hi'
    cases ho : spotN s.l v with
    | some q =>
      have ho' : s.l.findIdx? (fun x => x.u == v) = some q := ho
      rw [ho'] at hi'
      simp at hi'
      subst hi'
      obtain ⟨hq, hqv⟩ := spot_some ho
      have hv : v ≠ u := fun e => by subst e; rw [hs] at ho; cases ho
      rw [List.getElem?_append_left hq, List.getElem?_eq_getElem hq]
      have := h.2 v q ho
      rw [List.getElem?_eq_getElem hq] at this
      exact hold v hv _ this
    | none =>
      have ho' : s.l.findIdx? (fun x => x.u == v) = none := ho
      rw [ho'] at hi'
      simp only [List.findIdx?_cons, List.findIdx?_nil] at hi'
      split at hi'
      · rename_i e
        simp at hi' e
        subst e
        subst hi'
        simp only [List.getElem?_append_right (Nat.le_refl _), Nat.sub_self]
        exact hnew
      · simp at hi'

/-- What comes is the beginning of the text. -/
theorem comes_begins (x : Si) : Lib.hasPrefix x.t (comesN x) = true := by
  unfold comesN Lib.hasPrefix
  split
  · simpa [List.isPrefixOf_iff_prefix] using List.take_prefix _ _
  · simp [List.isPrefixOf_iff_prefix]
/-- What comes with no error was put last at that link, or is its beginning. -/
theorem Tracks.comes {us ts : List (List UInt8)} {s : Ns} {u : List UInt8} {j : Int} (h : Tracks us ts s) (h0 : (getN s u).2.2 = 0) (hj : IsLast us u j) : ∃ k : Nat, j = (k : Int) ∧ ∃ hk : k < ts.length, Lib.hasPrefix ts[k] (getN s u).2.1 = true := by
  unfold getN at h0 ⊢
  split at h0
  · exact absurd h0 ‹_›
  rename_i hc
  rw [if_neg hc]
  split at h0
  · simp at h0
  rename_i hoff
  rw [if_neg hoff]
  cases hs : spotN s.l u with
  | none => rw [hs] at h0; simp at h0
  | some i =>
    obtain ⟨hi, _⟩ := spot_some hs
    obtain ⟨q, h1, h2, h3⟩ := h.2 u i hs
    rw [List.getElem?_eq_getElem hi] at h2
    have hq := (List.getElem?_eq_some_iff.1 h2)
    obtain ⟨hq1, hq2⟩ := hq
    rcases hj with ⟨_, hn⟩ | ⟨k, rfl, hk1, hk2⟩
    · exact absurd h1 (hn q)
    · have hqk : q = k := by
        rcases Nat.lt_trichotomy q k with e | e | e
        · exact absurd hk1 (h3 k e)
        · exact e
        · exact absurd h1 (hk2 q e)
      subst hqk
      refine ⟨q, rfl, hq1, ?_⟩
      simp only [List.getElem?_eq_getElem hi, Option.map_some, Option.getD_some]
      rw [hq2]
      exact comes_begins _

/-- A link at a host. -/
def atHost (u : List UInt8) : List UInt8 := [104, 116, 116, 112, 58, 47, 47] ++ u ++ [47, 120]
theorem link_atHost {u : List UInt8} (h : isPart u = true) : linkL (atHost u) = (u, [120], 0) := by
  have e1 : cutM (atHost u) = some ([104, 116, 116, 112], u ++ 47 :: [120]) := by
    unfold atHost
    simp [cutM, List.isPrefixOf]
  have e2 : cutL (u ++ 47 :: [120]) = some (u, [120]) := cutL_of _ (isPart_noSlash h)
  exact link_ok e1 e2 (by decide) h
/-- Of a host that is off nothing comes. -/
theorem host_off {s : Ns} {u : List UInt8} (h0 : (hostN s u false).2 = 0) (hc : checkK (atHost u) = 0) : (getN (hostN s u false).1 (atHost u)).2 = ([], 13) := by
  have hp : isPart u = true := by
    unfold hostN at h0
    cases e : isPart u with
    | true => rfl
    | false => rw [e] at h0; simp at h0
  have hm : (linkL (atHost u)).1 ∈ (hostN s u false).1.off := by
    rw [link_atHost hp, hostN_good hp]
    simp
  rw [getN_off hc hm]
end Go.Proofs.YtkokdpidgikdkaaDoor
