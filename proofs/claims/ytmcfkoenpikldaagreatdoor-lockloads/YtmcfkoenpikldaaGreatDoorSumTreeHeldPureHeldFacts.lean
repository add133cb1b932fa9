/-
  Own texts of the proof, joined by program: SumTree, HeldPure, HeldFacts.
-/
import Derived.Test.YtmcfkoenpikldaaGreatDoorPackPurePackFactsWantPure
import Derived.Test.YtmcfkoenpikldaaGreatDoorDigitsReadPurePressPureSumPure
/-
  The sum of a tree, plainly: no machine.
-/
namespace Go.Proofs.YtmcfkoenpikldaaGreatDoor

/-- The sum of a tree (none: 0). -/
def sumT (l : List F) : Nat := if (treeFault l).1 = 0 then sumL (packL l) else 0
theorem sum_yes {l : List F} (h : (treeFault l).1 = 0) : sumT l = sumL (packL l) := by unfold sumT; rw [if_pos h]
theorem sum_no {l : List F} (h : (treeFault l).1 ≠ 0) : sumT l = 0 := by unfold sumT; rw [if_neg h]
end Go.Proofs.YtmcfkoenpikldaaGreatDoor
/-
  What is held, plainly: trees by their sums, as they came: no machine.
-/
namespace Go.Proofs.YtmcfkoenpikldaaGreatDoor

/-- A tree that is held, and its sum. -/
structure Tr where
  n : Nat
  l : List F
/-- What is held: for so many. -/
structure Hs where
  most : Nat
  l : List Tr
def Hs.none (m : Nat) : Hs := ⟨m, []⟩
/-- For how many. -/
def mostH (m : Int) : Nat := if m < 0 then 0 else if 40 < m then 40 else m.toNat
theorem mostH_le (m : Int) : mostH m ≤ 40 := by unfold mostH; split <;> (try split) <;> omega
theorem mostH_most (m : Int) (h : 0 ≤ m) : (mostH m : Int) ≤ m := by unfold mostH; split <;> (try split) <;> omega

/-- The place of a sum. -/
def spotH (l : List Tr) (n : Int) : Option Nat := l.findIdx? fun x => (x.n : Int) == n
def atH (l : List Tr) (n : Int) : Int := match spotH l n with | some k => (k : Int) | .none => -1
theorem spotH_some {l : List Tr} {n : Int} {k : Nat} (h : spotH l n = some k) : ∃ hk : k < l.length, (l[k].n : Int) = n := by
  unfold spotH at h
  obtain ⟨hk, hx, _⟩ := List.findIdx?_eq_some_iff_getElem.1 h
  exact ⟨hk, by simpa using hx⟩
theorem spotH_first {l : List Tr} {n : Int} {k : Nat} (hk : k < l.length) (hu : (l[k].n : Int) = n) (h0 : ∀ j (h : j < l.length), j < k → (l[j].n : Int) ≠ n) : spotH l n = some k := by
  unfold spotH
  refine List.findIdx?_eq_some_iff_getElem.2 ⟨hk, by simpa using hu, fun j hj => ?_⟩
  simpa using h0 j (by omega) hj
theorem spotH_none {l : List Tr} {n : Int} (h : ∀ j (h : j < l.length), (l[j].n : Int) ≠ n) : spotH l n = Option.none := by
  unfold spotH
  refine List.findIdx?_eq_none_iff.2 fun x hx => ?_
  obtain ⟨j, hj, rfl⟩ := List.getElem_of_mem hx
  simpa using h j hj
theorem spotH_absent {l : List Tr} {n : Int} (h : spotH l n = Option.none) : ∀ x ∈ l, (x.n : Int) ≠ n := fun x hx => by
  unfold spotH at h
  simpa using List.findIdx?_eq_none_iff.1 h x hx

/-- A tree is put: what is held then, the sum that is told, an error's number and place. -/
def putH (s : Hs) (l : List F) : Hs × Nat × Nat × Int :=
  if (treeFault l).1 ≠ 0 then (s, 0, treeFault l) else if s.most = 0 then (s, 0, 8, -1)
  else match spotH s.l (sumT l) with
    | some _ => (s, sumT l, 0, -1)
    | .none => ({ s with l := (if s.most ≤ s.l.length then s.l.drop 1 else s.l) ++ [⟨sumT l, l⟩] }, sumT l, 0, -1)
/-- A tree is dropped. -/
def dropH (s : Hs) (n : Int) : Hs × Nat := match spotH s.l n with | .none => (s, 6) | some k => ({ s with l := s.l.eraseIdx k }, 0)
/-- A tree is got. -/
def getH (s : Hs) (n : Int) : List F × Nat := match spotH s.l n with | .none => ([], 6) | some k => (((s.l[k]?).map Tr.l).getD [], 0)
theorem putH_bad {s : Hs} {l : List F} (h : (treeFault l).1 ≠ 0) : putH s l = (s, 0, treeFault l) := by unfold putH; rw [if_pos h]
theorem putH_full {s : Hs} {l : List F} (h : (treeFault l).1 = 0) (h1 : s.most = 0) : putH s l = (s, 0, 8, -1) := by unfold putH; rw [if_neg (by omega), if_pos h1]
theorem putH_there {s : Hs} {l : List F} {k : Nat} (h : (treeFault l).1 = 0) (h1 : s.most ≠ 0) (h2 : spotH s.l (sumT l) = some k) : putH s l = (s, sumT l, 0, -1) := by unfold putH; rw [if_neg (by omega), if_neg h1, h2]
theorem putH_goes {s : Hs} {l : List F} (h : (treeFault l).1 = 0) (h1 : s.most ≠ 0) (h2 : spotH s.l (sumT l) = .none) (h3 : s.most ≤ s.l.length) : putH s l = ({ s with l := s.l.drop 1 ++ [⟨sumT l, l⟩] }, sumT l, 0, -1) := by unfold putH; rw [if_neg (by omega), if_neg h1, h2]; simp only [if_pos h3]
theorem putH_comes {s : Hs} {l : List F} (h : (treeFault l).1 = 0) (h1 : s.most ≠ 0) (h2 : spotH s.l (sumT l) = .none) (h3 : ¬ s.most ≤ s.l.length) : putH s l = ({ s with l := s.l ++ [⟨sumT l, l⟩] }, sumT l, 0, -1) := by unfold putH; rw [if_neg (by omega), if_neg h1, h2]; simp only [if_neg h3]
theorem dropH_none {s : Hs} {n : Int} (h : spotH s.l n = .none) : dropH s n = (s, 6) := by unfold dropH; rw [h]
theorem dropH_some {s : Hs} {n : Int} {k : Nat} (h : spotH s.l n = some k) : dropH s n = ({ s with l := s.l.eraseIdx k }, 0) := by unfold dropH; rw [h]
theorem getH_none {s : Hs} {n : Int} (h : spotH s.l n = .none) : getH s n = ([], 6) := by unfold getH; rw [h]
theorem getH_some {s : Hs} {n : Int} {k : Nat} (h : spotH s.l n = some k) (hk : k < s.l.length) : getH s n = (s.l[k].l, 0) := by unfold getH; rw [h]; simp [hk]

/-- What is held is right: each tree has its sum, each sum once, never more than may be. -/
structure OkH (s : Hs) : Prop where
  most : s.most ≤ 40
  few : s.l.length ≤ s.most
  right : ∀ x ∈ s.l, (treeFault x.l).1 = 0 ∧ x.n = sumT x.l
  once : (s.l.map Tr.n).Nodup
theorem OkH.zero (m : Int) : OkH (Hs.none (mostH m)) := ⟨mostH_le m, Nat.zero_le _, fun x hx => by simp [Hs.none] at hx, by simp [Hs.none]⟩
theorem OkH.add {m : Nat} {k : List Tr} {l : List F} (hm : m ≤ 40) (hk : k.length + 1 ≤ m) (hr : ∀ x ∈ k, (treeFault x.l).1 = 0 ∧ x.n = sumT x.l) (ho : (k.map Tr.n).Nodup) (h : (treeFault l).1 = 0) (hn : ∀ x ∈ k, x.n ≠ sumT l) : OkH ⟨m, k ++ [⟨sumT l, l⟩]⟩ := by
  refine ⟨hm, by simpa using hk, fun x hx => ?_, ?_⟩
  · rcases List.mem_append.1 hx with hx | hx
    · exact hr x hx
    · simp at hx; subst hx; exact ⟨h, rfl⟩
  · rw [List.map_append]
    refine List.nodup_append.2 ⟨ho, by simp, fun a ha b hb e => ?_⟩
    subst e
    obtain ⟨x, hx, rfl⟩ := List.mem_map.1 ha
    simp at hb
    exact hn x hx hb
theorem OkH.put {s : Hs} (h : OkH s) (l : List F) : OkH (putH s l).1 := by
  by_cases hf : (treeFault l).1 = 0
  · by_cases hm : s.most = 0
    · rw [putH_full hf hm]; exact h
    · cases hs : spotH s.l (sumT l) with
      | some k => rw [putH_there hf hm hs]; exact h
      | none =>
        have hab : ∀ x ∈ s.l, x.n ≠ sumT l := fun x hx e => spotH_absent hs x hx (by rw [e])
        have h1 := h.few
        by_cases hg : s.most ≤ s.l.length
        · rw [putH_goes hf hm hs hg]
          have hsub : (s.l.drop 1).Sublist s.l := List.drop_sublist 1 s.l
          exact OkH.add h.most (by rw [List.length_drop]; omega) (fun x hx => h.right x (hsub.subset hx)) (h.once.sublist (hsub.map _)) hf (fun x hx => hab x (hsub.subset hx))
        · rw [putH_comes hf hm hs hg]
          exact OkH.add h.most (by omega) h.right h.once hf hab
  · rw [putH_bad hf]; exact h
theorem OkH.drop {s : Hs} (h : OkH s) (n : Int) : OkH (dropH s n).1 := by
  unfold dropH
  split
  · exact h
  · rename_i k _
    have hsub : (s.l.eraseIdx k).Sublist s.l := List.eraseIdx_sublist _ _
    exact ⟨h.most, Nat.le_trans hsub.length_le h.few, fun x hx => h.right x (hsub.subset hx), h.once.sublist (hsub.map _)⟩
/-- What is got is right, and has the sum by which it was asked for. -/
theorem OkH.get {s : Hs} (h : OkH s) {n : Int} (hg : (getH s n).2 = 0) : (treeFault (getH s n).1).1 = 0 ∧ (sumT (getH s n).1 : Int) = n := by
  cases hs : spotH s.l n with
  | none => rw [getH_none hs] at hg; cases hg
  | some k =>
    obtain ⟨hk, hn⟩ := spotH_some hs
    rw [getH_some hs hk]
    obtain ⟨h1, h2⟩ := h.right _ (List.getElem_mem hk)
    exact ⟨h1, by rw [← h2]; exact hn⟩
theorem putH_most (s : Hs) (l : List F) : (putH s l).1.most = s.most := by
  unfold putH
  repeat' split
  all_goals rfl
theorem dropH_most (s : Hs) (n : Int) : (dropH s n).1.most = s.most := by
  unfold dropH
  split <;> rfl
end Go.Proofs.YtmcfkoenpikldaaGreatDoor
/-
  Facts on what is held: what is put is got; what is dropped is not, and all else is: no machine.
-/
namespace Go.Proofs.YtmcfkoenpikldaaGreatDoor

theorem once_lt {l : List Tr} (h : (l.map Tr.n).Nodup) {j k : Nat} (hj : j < l.length) (hk : k < l.length) (hne : j ≠ k) : l[j].n ≠ l[k].n := by
  have hp : l.Pairwise (fun x y => x.n ≠ y.n) := List.pairwise_map.1 h
  rcases Nat.lt_or_gt_of_ne hne with hlt | hlt
  · exact List.pairwise_iff_getElem.1 hp j k hj hk hlt
  · exact fun e => List.pairwise_iff_getElem.1 hp k j hk hj hlt e.symm
theorem spotH_at {l : List Tr} (h : (l.map Tr.n).Nodup) {k : Nat} (hk : k < l.length) : spotH l (l[k].n : Int) = some k :=
  spotH_first hk rfl fun j hj hjk => by have := once_lt h hj hk (by omega); omega
theorem getH_at {s : Hs} (h : OkH s) {k : Nat} (hk : k < s.l.length) : getH s (s.l[k].n : Int) = (s.l[k].l, 0) := getH_some (spotH_at h.once hk) hk
theorem sum_fresh {s : Hs} (h : OkH s) {k : Nat} (hk : k < s.l.length) : ¬ (s.l[k].n : Int) ∈ (s.l.map fun x => (x.n : Int)).take k := fun hm => by
  obtain ⟨j, hj, e⟩ := List.getElem_of_mem hm
  simp at hj e
  exact once_lt h.once (j := j) (k := k) (by omega) hk (by omega) (by omega)

/-- What is put is got by its sum: as it was, if it was there. -/
theorem put_get {s : Hs} {l : List F} (hp : (putH s l).2.2.1 = 0) : (treeFault l).1 = 0 ∧ (putH s l).2 = (sumT l, 0, -1) ∧ (getH (putH s l).1 (sumT l : Int)).2 = 0 ∧
    ((getH s (sumT l : Int)).2 = 0 → (getH (putH s l).1 (sumT l : Int)).1 = (getH s (sumT l : Int)).1) ∧ ((getH s (sumT l : Int)).2 ≠ 0 → (getH (putH s l).1 (sumT l : Int)).1 = l) := by
  by_cases hf : (treeFault l).1 = 0
  · refine ⟨hf, ?_⟩
    by_cases hm : s.most = 0
    · rw [putH_full hf hm] at hp; cases hp
    · cases hs : spotH s.l (sumT l) with
      | some k =>
        obtain ⟨hk, _⟩ := spotH_some hs
        have hg := getH_some hs hk
        rw [putH_there hf hm hs, hg]
        exact ⟨rfl, rfl, fun _ => rfl, fun h => absurd rfl h⟩
      | none =>
        have hab := spotH_absent hs
        have last : ∀ (k : List Tr) (m : Nat), (∀ x ∈ k, (x.n : Int) ≠ sumT l) → getH ⟨m, k ++ [⟨sumT l, l⟩]⟩ (sumT l : Int) = (l, 0) := fun k m hk => by
          have hlt : k.length < (k ++ [(⟨sumT l, l⟩ : Tr)]).length := by simp
          have hsp : spotH (k ++ [(⟨sumT l, l⟩ : Tr)]) (sumT l : Int) = some k.length := spotH_first hlt (by simp) fun j hj hjk => by
            rw [List.getElem_append_left hjk]
            exact hk _ (List.getElem_mem hjk)
          exact (getH_some (s := ⟨m, k ++ [(⟨sumT l, l⟩ : Tr)]⟩) hsp hlt).trans (by simp)
        rw [getH_none hs]
        by_cases hg : s.most ≤ s.l.length
        · rw [putH_goes hf hm hs hg]
          have e := last (s.l.drop 1) s.most fun x hx => hab x ((List.drop_sublist 1 s.l).subset hx)
          exact ⟨rfl, congrArg Prod.snd e, fun h => (by cases h), fun _ => congrArg Prod.fst e⟩
        · rw [putH_comes hf hm hs hg]
          have e := last s.l s.most hab
          exact ⟨rfl, congrArg Prod.snd e, fun h => (by cases h), fun _ => congrArg Prod.fst e⟩
  · rw [putH_bad hf] at hp
    exact absurd hp hf

theorem dropH_at {s : Hs} (h : OkH s) {k : Nat} (hk : k < s.l.length) : dropH s (s.l[k].n : Int) = ({ s with l := s.l.eraseIdx k }, 0) := dropH_some (spotH_at h.once hk)
theorem erased_gone {s : Hs} (h : OkH s) {k : Nat} (hk : k < s.l.length) : spotH (s.l.eraseIdx k) (s.l[k].n : Int) = none := spotH_none fun j hj => by
  rw [List.getElem_eraseIdx]
  rw [List.length_eraseIdx_of_lt hk] at hj
  split
  · rename_i hjk
    have := once_lt h.once (j := j) (k := k) (by omega) hk (by omega)
    omega
  · rename_i hjk
    have := once_lt h.once (j := j + 1) (k := k) (by omega) hk (by omega)
    omega
theorem erased_sums {s : Hs} (k : Nat) : ((s.l.eraseIdx k).map fun x => (x.n : Int)) = (s.l.map fun x => (x.n : Int)).take k ++ (s.l.map fun x => (x.n : Int)).drop (k + 1) := by
  rw [List.eraseIdx_eq_take_drop_succ, List.map_append, List.map_take, List.map_drop]
theorem ok_erased {s : Hs} (h : OkH s) {k : Nat} (hk : k < s.l.length) : OkH { s with l := s.l.eraseIdx k } := by
  have := h.drop (s.l[k].n : Int)
  rwa [dropH_at h hk] at this
/-- Put again it comes last. -/
theorem put_again {s : Hs} (h : OkH s) {k : Nat} (hk : k < s.l.length) : putH { s with l := s.l.eraseIdx k } s.l[k].l = ({ s with l := s.l.eraseIdx k ++ [s.l[k]] }, s.l[k].n, 0, -1) := by
  obtain ⟨h1, h2⟩ := h.right _ (List.getElem_mem hk)
  have hf := h.few
  have hs := erased_gone h hk
  rw [h2] at hs
  rw [putH_comes (s := { s with l := s.l.eraseIdx k }) h1 (by show s.most ≠ 0; omega) hs (by rw [List.length_eraseIdx_of_lt hk]; show ¬ s.most ≤ s.l.length - 1; omega), ← h2]
end Go.Proofs.YtmcfkoenpikldaaGreatDoor
