/-
  A net, plainly: texts at links, hosts that are off: no machine.
-/
import Derived.Test.YtkokdpidgikdkaaDoorLinkPure
namespace Go.Proofs.YtkokdpidgikdkaaDoor

/-- A text at a link, and how much of it comes (below 0: all). -/
structure Si where
  u : List UInt8
  t : List UInt8
  c : Int
/-- A net: what is put, which hosts are off, how often it was asked. -/
structure Ns where
  l : List Si
  off : List (List UInt8)
  calls : Nat
def Ns.none : Ns := ⟨[], [], 0⟩

/-- The place of a link. -/
def spotN (l : List Si) (u : List UInt8) : Option Nat := l.findIdx? fun x => x.u == u
/-- The same as a number (-1: none). -/
def atN (l : List Si) (u : List UInt8) : Int := match spotN l u with | some k => (k : Int) | .none => -1

theorem spot_some {l : List Si} {u : List UInt8} {k : Nat} (h : spotN l u = some k) : ∃ hk : k < l.length, l[k].u = u := by
  unfold spotN at h
  obtain ⟨hk, hx, _⟩ := List.findIdx?_eq_some_iff_getElem.1 h
  exact ⟨hk, by simpa using hx⟩
theorem spot_first {l : List Si} {u : List UInt8} {k : Nat} (hk : k < l.length) (hu : l[k].u = u) (h0 : ∀ j (h : j < l.length), j < k → l[j].u ≠ u) : spotN l u = some k := by
  unfold spotN
  refine List.findIdx?_eq_some_iff_getElem.2 ⟨hk, by simpa using hu, fun j hj => ?_⟩
  simpa using h0 j (by omega) hj
theorem spot_none {l : List Si} {u : List UInt8} (h : ∀ j (h : j < l.length), l[j].u ≠ u) : spotN l u = Option.none := by
  unfold spotN
  refine List.findIdx?_eq_none_iff.2 fun x hx => ?_
  obtain ⟨j, hj, rfl⟩ := List.getElem_of_mem hx
  simpa using h j hj

/-- A text is put at a link. -/
def putN (s : Ns) (u t : List UInt8) : Ns × Nat :=
  if checkK u ≠ 0 then (s, checkK u) else if 20000 < t.length then (s, 2)
  else match spotN s.l u with
    | some k => ({ s with l := s.l.set k ⟨u, t, -1⟩ }, 0)
    | .none => if 60 ≤ s.l.length then (s, 8) else ({ s with l := s.l ++ [⟨u, t, -1⟩] }, 0)
/-- A host is on, or off. -/
def hostN (s : Ns) (h : List UInt8) (on : Bool) : Ns × Nat :=
  if isPart h = false then (s, 5) else ({ s with off := s.off.filter (fun x => !(x == h)) ++ (if on = true then [] else [h]) }, 0)
/-- Only so much comes. -/
def cutN (s : Ns) (u : List UInt8) (k : Int) : Ns × Nat :=
  match spotN s.l u with
  | .none => (s, 6)
  | some i => if k < 0 then (s, 2) else ({ s with l := s.l.modify i fun x => { x with c := k } }, 0)
/-- What comes of a text. -/
def comesN (x : Si) : List UInt8 := if 0 ≤ x.c ∧ x.c < x.t.length then x.t.take x.c.toNat else x.t
/-- What is at a link. -/
def getN (s : Ns) (u : List UInt8) : Ns × List UInt8 × Nat :=
  if checkK u ≠ 0 then (s, [], checkK u) else if (linkL u).1 ∈ s.off then ({ s with calls := s.calls + 1 }, [], 13)
  else match spotN s.l u with
    | .none => ({ s with calls := s.calls + 1 }, [], 6)
    | some k => ({ s with calls := s.calls + 1 }, ((s.l[k]?).map comesN).getD [], 0)

theorem putN_bad {s : Ns} {u t : List UInt8} {k : Nat} (h : checkK u = k + 1) : putN s u t = (s, k + 1) := by unfold putN; rw [if_pos (by omega), h]
theorem putN_long {s : Ns} {u t : List UInt8} (h : checkK u = 0) (h1 : 20000 < t.length) : putN s u t = (s, 2) := by unfold putN; rw [if_neg (by omega), if_pos h1]
theorem putN_there {s : Ns} {u t : List UInt8} {k : Nat} (h : checkK u = 0) (h1 : ¬ 20000 < t.length) (h2 : spotN s.l u = some k) : putN s u t = ({ s with l := s.l.set k ⟨u, t, -1⟩ }, 0) := by unfold putN; rw [if_neg (by omega), if_neg h1, h2]
theorem putN_full {s : Ns} {u t : List UInt8} (h : checkK u = 0) (h1 : ¬ 20000 < t.length) (h2 : spotN s.l u = .none) (h3 : 60 ≤ s.l.length) : putN s u t = (s, 8) := by unfold putN; rw [if_neg (by omega), if_neg h1, h2]; exact if_pos h3
theorem putN_new {s : Ns} {u t : List UInt8} (h : checkK u = 0) (h1 : ¬ 20000 < t.length) (h2 : spotN s.l u = .none) (h3 : ¬ 60 ≤ s.l.length) : putN s u t = ({ s with l := s.l ++ [⟨u, t, -1⟩] }, 0) := by unfold putN; rw [if_neg (by omega), if_neg h1, h2]; exact if_neg h3
theorem hostN_bad {s : Ns} {h : List UInt8} {on : Bool} (e : isPart h = false) : hostN s h on = (s, 5) := by unfold hostN; rw [if_pos e]
theorem hostN_good {s : Ns} {h : List UInt8} {on : Bool} (e : isPart h = true) : hostN s h on = ({ s with off := s.off.filter (fun x => !(x == h)) ++ (if on = true then [] else [h]) }, 0) := by unfold hostN; rw [if_neg (by simp [e])]
theorem cutN_none {s : Ns} {u : List UInt8} {k : Int} (h : spotN s.l u = .none) : cutN s u k = (s, 6) := by unfold cutN; rw [h]
theorem cutN_neg {s : Ns} {u : List UInt8} {k : Int} {i : Nat} (h : spotN s.l u = some i) (hk : k < 0) : cutN s u k = (s, 2) := by unfold cutN; rw [h]; exact if_pos hk
theorem cutN_good {s : Ns} {u : List UInt8} {k : Int} {i : Nat} (h : spotN s.l u = some i) (hk : ¬ k < 0) : cutN s u k = ({ s with l := s.l.modify i fun x => { x with c := k } }, 0) := by unfold cutN; rw [h]; exact if_neg hk
theorem getN_bad {s : Ns} {u : List UInt8} {k : Nat} (h : checkK u = k + 1) : getN s u = (s, [], k + 1) := by unfold getN; rw [if_pos (by omega), h]
theorem getN_off {s : Ns} {u : List UInt8} (h : checkK u = 0) (h1 : (linkL u).1 ∈ s.off) : getN s u = ({ s with calls := s.calls + 1 }, [], 13) := by unfold getN; rw [if_neg (by omega), if_pos h1]
theorem getN_none {s : Ns} {u : List UInt8} (h : checkK u = 0) (h1 : ¬ (linkL u).1 ∈ s.off) (h2 : spotN s.l u = .none) : getN s u = ({ s with calls := s.calls + 1 }, [], 6) := by unfold getN; rw [if_neg (by omega), if_neg h1, h2]
theorem getN_good {s : Ns} {u : List UInt8} {k : Nat} (h : checkK u = 0) (h1 : ¬ (linkL u).1 ∈ s.off) (h2 : spotN s.l u = some k) (hk : k < s.l.length) : getN s u = ({ s with calls := s.calls + 1 }, comesN s.l[k], 0) := by unfold getN; rw [if_neg (by omega), if_neg h1, h2]; simp [hk]
end Go.Proofs.YtkokdpidgikdkaaDoor
