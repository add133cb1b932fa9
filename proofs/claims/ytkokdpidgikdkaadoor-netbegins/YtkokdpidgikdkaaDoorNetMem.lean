/-
  The program's net in memory: its three cells, a map of texts by their links, a map of hosts that are off; what is kept where others write: over this seat's translation.
-/
import Derived.Test.YtkokdpidgikdkaaDoorMapAt
import Derived.Test.YtkokdpidgikdkaaDoorNetDo
namespace Go.Proofs.YtkokdpidgikdkaaDoor
open Go.RowKit Go.Maps

/-- A text of the program's net: all of it, and how much comes. -/
def textV (x : Si) : Value := .agg #[.string ⟨x.t.toArray⟩, .int .i64 (comesN x).length]
def textsF (l : List Si) (u : List UInt8) : Option Value := (l.find? fun x => x.u == u).map textV
def offF (off : List (List UInt8)) (h : List UInt8) : Option Value := if h ∈ off then some (.agg #[]) else none

theorem texts_none {l : List Si} {u : List UInt8} (h : spotN l u = none) : textsF l u = none := by
  unfold spotN at h
  have : l.find? (fun x => x.u == u) = none := List.find?_eq_none.2 fun x hx => by simpa using List.findIdx?_eq_none_iff.1 h x hx
  simp [textsF, this]
theorem find_spot {l : List Si} {u : List UInt8} {k : Nat} (h : spotN l u = some k) (hk : k < l.length) : l.find? (fun x => x.u == u) = some l[k] := by
  unfold spotN at h
  obtain ⟨hk', hx, h0⟩ := List.findIdx?_eq_some_iff_getElem.1 h
  exact List.find?_eq_some_iff_getElem.2 ⟨hx, k, hk, rfl, fun j hj => by simpa using h0 j hj⟩
theorem texts_some {l : List Si} {u : List UInt8} {k : Nat} (h : spotN l u = some k) (hk : k < l.length) : textsF l u = some (textV l[k]) := by simp [textsF, find_spot h hk]
theorem texts_app {l : List Si} {u : List UInt8} (h : spotN l u = none) (x : Si) (hx : x.u = u) : textsF (l ++ [x]) = fun q => if q = u then some (textV x) else textsF l q := by
  funext q
  by_cases hq : q = u
  · subst hq
    have h0 : l.find? (fun x => x.u == q) = none := List.find?_eq_none.2 fun y hy => by simpa using List.findIdx?_eq_none_iff.1 h y hy
    simp [textsF, List.find?_append, h0, hx]
  · have hne : ¬ x.u = q := fun e => hq (by rw [← e, hx])
    simp [textsF, List.find?_append, hq, hne]
theorem find_set {p : Si → Bool} {x : Si} (hx : p x = false) : ∀ (l : List Si) (k : Nat) (hk : k < l.length), p l[k] = false → (l.set k x).find? p = l.find? p
  | [], _, hk, _ => by simp at hk
  | y :: r, 0, _, h => by
    have h' : p y = false := h
    simp [hx, h']
  | y :: r, k + 1, hk, h => by
    have ih := find_set hx r k (by simpa using hk) (by simpa using h)
    simp [List.find?_cons, ih]
theorem texts_set {l : List Si} {u : List UInt8} {k : Nat} (h : spotN l u = some k) (x : Si) (hx : x.u = u) : textsF (l.set k x) = fun q => if q = u then some (textV x) else textsF l q := by
  obtain ⟨hk, hu⟩ := spot_some h
  funext q
  by_cases hq : q = u
  · subst hq
    unfold spotN at h
    obtain ⟨_, _, h0⟩ := List.findIdx?_eq_some_iff_getElem.1 h
    have hk2 : k < (l.set k x).length := by simpa using hk
    have : (l.set k x).find? (fun x => x.u == q) = some x := List.find?_eq_some_iff_getElem.2 ⟨by simp [hx], k, hk2, by simp, fun j hj => by
      have := h0 j hj
      rw [List.getElem_set_ne (by omega)]
      simpa using this⟩
    simp [textsF, this]
  · have h1 : (x.u == q) = false := by simpa [hx] using fun e => hq (Eq.symm e)
    have h2 : (l[k].u == q) = false := by simpa [hu] using fun e => hq (Eq.symm e)
    simp [textsF, hq, find_set (p := fun y => y.u == q) h1 l k hk h2]
theorem modify_set {l : List Si} {k : Nat} (hk : k < l.length) (g : Si → Si) : l.modify k g = l.set k (g l[k]) := by
  apply List.ext_getElem?
  intro j
  rw [List.getElem?_modify, List.getElem?_set]
  by_cases e : k = j
  · subst e
    simp [hk]
  · simp [e]

theorem host_good_on {s : Ns} {h : List UInt8} (e : isPart h = true) : hostN s h true = ({ s with off := s.off.filter (fun x => !(x == h)) }, 0) := by rw [hostN_good e]; simp
theorem host_good_off {s : Ns} {h : List UInt8} (e : isPart h = true) : hostN s h false = ({ s with off := s.off.filter (fun x => !(x == h)) ++ [h] }, 0) := by rw [hostN_good e]; simp
theorem off_on (off : List (List UInt8)) (h : List UInt8) : offF (off.filter (fun x => !(x == h))) = fun q => if q = h then none else offF off q := by
  funext q
  by_cases hq : q = h
  · subst hq
    simp [offF]
  · simp [offF, hq]
theorem off_off (off : List (List UInt8)) (h : List UInt8) : offF (off.filter (fun x => !(x == h)) ++ [h]) = fun q => if q = h then some (.agg #[]) else offF off q := by
  funext q
  by_cases hq : q = h
  · subst hq
    simp [offF]
  · simp [offF, hq]
theorem off_nodup {off : List (List UInt8)} (hn : off.Nodup) (h : List UInt8) : (off.filter (fun x => !(x == h)) ++ [h]).Nodup := by
  refine List.nodup_append.2 ⟨hn.filter _, by simp, fun a ha b hb e => ?_⟩
  subst e
  have h1 := (List.mem_filter.1 ha).2
  simp at hb
  simp [hb] at h1
theorem off_length {off : List (List UInt8)} (hn : off.Nodup) (h : List UInt8) : (off.filter (fun x => !(x == h))).length = if h ∈ off then off.length - 1 else off.length := by
  have e : off.filter (fun x => !(x == h)) = off.erase h := (hn.erase_eq_filter h).symm
  rw [e, List.length_erase]
theorem off_less {off : List (List UInt8)} (hd : off.Nodup) {n : Nat} (hn : n ≤ off.length) (h : List UInt8) : (if (offF off h).isSome = true then n - 1 else n) ≤ (off.filter (fun x => !(x == h))).length := by
  rw [off_length hd]
  unfold offF
  by_cases hx : h ∈ off
  · simp [hx]; omega
  · simp [hx]; omega
theorem off_more {off : List (List UInt8)} (hd : off.Nodup) {n : Nat} (hn : n ≤ off.length) (h : List UInt8) : (if (offF off h).isSome = true then n else n + 1) ≤ (off.filter (fun x => !(x == h)) ++ [h]).length := by
  rw [List.length_append, off_length hd]
  unfold offF
  by_cases hx : h ∈ off
  · have := List.length_pos_of_mem hx
    simp [hx]; omega
  · simp [hx]; omega

/-- A cell, where a block is made. -/
theorem cell_new {w : World} {a : Addr} {v : Value} (h : w.cell? a = some v) (o : Obj) : (w.alloc o).cell? a = some v := (((Below.refl _ _).alloc (Nat.le_refl _) o).cell (block_lt_of_cell h)).trans h

/-- The program's net at a block, its two maps. -/
structure NetIn (w : World) (nb bt bo : Nat) (s : Ns) : Prop where
  c0 : w.cell? ⟨nb, 0, none⟩ = some (.map (some bt))
  c1 : w.cell? ⟨nb, 1, none⟩ = some (.map (some bo))
  c2 : w.cell? ⟨nb, 2, none⟩ = some (.int .i64 s.calls)
  live : ∀ j, w.frozen? ⟨nb, j, none⟩ = false
  texts : MapAt Tryd.prog w 9 bt s.l.length (textsF s.l)
  off : ∃ n, n ≤ s.off.length ∧ MapAt Tryd.prog w 9 bo n (offF s.off)
  short : ∀ x ∈ s.l, x.t.length ≤ 20000
  few : s.l.length ≤ 60
  nodup : s.off.Nodup
  ne : bt ≠ bo
def ProgAt (w : World) (nb : Nat) (S : Nat → Prop) (s : Ns) : Prop := ∃ bt bo, NetIn w nb bt bo s ∧ S = fun b => b = nb ∨ b = bt ∨ b = bo

theorem NetIn.kept {w w' : World} {nb bt bo : Nat} {s : Ns} (h : NetIn w nb bt bo s) (e0 : w'.heap[nb]? = w.heap[nb]?) (e1 : w'.heap[bt]? = w.heap[bt]?) (e2 : w'.heap[bo]? = w.heap[bo]?) : NetIn w' nb bt bo s := by
  have hc : ∀ j, w'.cell? ⟨nb, j, none⟩ = w.cell? ⟨nb, j, none⟩ := fun j => by simp [World.cell?, e0]
  have hf : ∀ j, w'.frozen? ⟨nb, j, none⟩ = w.frozen? ⟨nb, j, none⟩ := fun j => by simp [World.frozen?, e0]
  obtain ⟨n, hn, ho⟩ := h.off
  exact ⟨(hc 0).trans h.c0, (hc 1).trans h.c1, (hc 2).trans h.c2, fun j => (hf j).trans (h.live j), h.texts.kept e1, ⟨n, hn, ho.kept e2⟩, h.short, h.few, h.nodup, h.ne⟩
theorem NetIn.lt {w : World} {nb bt bo : Nat} {s : Ns} (h : NetIn w nb bt bo s) : nb < w.heap.size ∧ bt < w.heap.size ∧ bo < w.heap.size := by
  obtain ⟨n, _, ho⟩ := h.off
  exact ⟨block_lt_of_cell h.c0, h.texts.lt, ho.lt⟩
theorem NetIn.below {w w' : World} {nb bt bo : Nat} {s : Ns} (h : NetIn w nb bt bo s) (hb : Below w.heap.size w w') : NetIn w' nb bt bo s :=
  h.kept (hb.block _ h.lt.1) (hb.block _ h.lt.2.1) (hb.block _ h.lt.2.2)
theorem ProgAt.keep {w w' : World} {nb : Nat} {S T : Nat → Prop} {s : Ns} (h : ProgAt w nb S s) (k : Kept T w w') (hS : ∀ b, S b → ¬ T b) : ProgAt w' nb S s := by
  obtain ⟨bt, bo, h, rfl⟩ := h
  exact ⟨bt, bo, h.kept (k.block _ h.lt.1 (hS _ (.inl rfl))) (k.block _ h.lt.2.1 (hS _ (.inr (.inl rfl)))) (k.block _ h.lt.2.2 (hS _ (.inr (.inr rfl)))), rfl⟩
theorem ProgAt.lt {w : World} {nb : Nat} {S : Nat → Prop} {s : Ns} (h : ProgAt w nb S s) : ∀ b, S b → b < w.heap.size := by
  obtain ⟨bt, bo, h, rfl⟩ := h
  rintro b (rfl | rfl | rfl)
  · exact h.lt.1
  · exact h.lt.2.1
  · exact h.lt.2.2

/-- Nothing of the net is written. -/
theorem left_quiet {w w' : World} {nb bt bo : Nat} {s : Ns} (h : NetIn w nb bt bo s) (hb : Below w.heap.size w w') : ProgLeft ProgAt w nb (fun b => b = nb ∨ b = bt ∨ b = bo) s w' (fun b => b = nb ∨ b = bt ∨ b = bo) :=
  ⟨⟨bt, bo, h.below hb, rfl⟩, fun _ hB _ => hb.mono hB, Kept.of_below hb, fun _ => .inl⟩
/-- And then nothing more. -/
theorem left_then {w w1 w2 : World} {nb : Nat} {S S' : Nat → Prop} {s : Ns} (l : ProgLeft ProgAt w nb S s w1 S') (hb : Below w1.heap.size w1 w2) : ProgLeft ProgAt w nb S s w2 S' :=
  ⟨l.net.keep (T := fun _ => False) (Kept.of_below hb) (fun _ _ f => f), fun B hB hS => (l.below B hB hS).trans (hb.mono (Nat.le_trans hB l.kept.size)), l.kept.trans (Kept.of_below hb), l.own⟩
/-- Its texts are others. -/
theorem left_texts {w w1 w2 : World} {nb bt bo n : Nat} {s : Ns} {f : List UInt8 → Option Value} (h : NetIn w nb bt bo s) (hb : Below w.heap.size w w1) (ht : w1.mapTurned w2 bt) (hm : MapAt Tryd.prog w2 9 bt n f) (l : List Si) (hn : n = l.length) (hf : f = textsF l) (hs : ∀ x ∈ l, x.t.length ≤ 20000) (hw : l.length ≤ 60) :
    ProgLeft ProgAt w nb (fun b => b = nb ∨ b = bt ∨ b = bo) { s with l := l } w2 (fun b => b = nb ∨ b = bt ∨ b = bo) := by
  subst hn hf
  have h1 := h.below hb
  have hne : nb ≠ bt := fun e => h1.texts.apart h1.c0 e.symm
  have hk := turned_kept ht
  have e0 : w2.heap[nb]? = w1.heap[nb]? := hk.block _ h1.lt.1 hne
  have hc : ∀ j, w2.cell? ⟨nb, j, none⟩ = w1.cell? ⟨nb, j, none⟩ := fun j => by simp [World.cell?, e0]
  have hfr : ∀ j, w2.frozen? ⟨nb, j, none⟩ = w1.frozen? ⟨nb, j, none⟩ := fun j => by simp [World.frozen?, e0]
  obtain ⟨no, hno, ho⟩ := h1.off
  refine ⟨⟨bt, bo, ⟨(hc 0).trans h1.c0, (hc 1).trans h1.c1, (hc 2).trans h1.c2, fun j => (hfr j).trans (h1.live j), hm, ⟨no, hno, ho.kept (hk.block _ h1.lt.2.2 h1.ne.symm)⟩, hs, hw, h1.nodup, h1.ne⟩, rfl⟩, fun B hB hS => ?_, ?_, fun _ => .inl⟩
  · exact (hb.mono hB).trans (turned_below ht (hS bt (.inr (.inl rfl))) (Nat.le_trans hB hb.size))
  · exact (Kept.of_below hb).trans (hk.more fun b _ e => .inr (.inl e))
/-- Its hosts are others. -/
theorem left_hosts {w w2 : World} {nb bt bo n : Nat} {s : Ns} {f : List UInt8 → Option Value} (h1 : NetIn w nb bt bo s) (ht : w.mapTurned w2 bo) (hm : MapAt Tryd.prog w2 9 bo n f) (off : List (List UInt8)) (hn : n ≤ off.length) (hf : f = offF off) (hd : off.Nodup) :
    ProgLeft ProgAt w nb (fun b => b = nb ∨ b = bt ∨ b = bo) { s with off := off } w2 (fun b => b = nb ∨ b = bt ∨ b = bo) := by
  subst hf
  obtain ⟨no, hno, ho⟩ := h1.off
  have hne : nb ≠ bo := fun e => ho.apart h1.c0 e.symm
  have hk := turned_kept ht
  have e0 : w2.heap[nb]? = w.heap[nb]? := hk.block _ h1.lt.1 hne
  have hc : ∀ j, w2.cell? ⟨nb, j, none⟩ = w.cell? ⟨nb, j, none⟩ := fun j => by simp [World.cell?, e0]
  have hfr : ∀ j, w2.frozen? ⟨nb, j, none⟩ = w.frozen? ⟨nb, j, none⟩ := fun j => by simp [World.frozen?, e0]
  refine ⟨⟨bt, bo, ⟨(hc 0).trans h1.c0, (hc 1).trans h1.c1, (hc 2).trans h1.c2, fun j => (hfr j).trans (h1.live j), h1.texts.kept (hk.block _ h1.lt.2.1 h1.ne), ⟨n, hn, hm⟩, h1.short, h1.few, hd, h1.ne⟩, rfl⟩, fun B hB hS => ?_, ?_, fun _ => .inl⟩
  · exact turned_below ht (hS bo (.inr (.inr rfl))) hB
  · exact hk.more fun b _ e => .inr (.inr e)
/-- It is counted. -/
theorem left_count {w w1 : World} {nb bt bo : Nat} {s : Ns} (h : NetIn w nb bt bo s) (hb : Below w.heap.size w w1) (c : Nat) :
    ProgLeft ProgAt w nb (fun b => b = nb ∨ b = bt ∨ b = bo) { s with calls := c } (w1.setCell ⟨nb, 2, none⟩ (.int .i64 c)) (fun b => b = nb ∨ b = bt ∨ b = bo) ∧ NetIn (w1.setCell ⟨nb, 2, none⟩ (.int .i64 c)) nb bt bo { s with calls := c } := by
  have h1 := h.below hb
  obtain ⟨no, hno, ho⟩ := h1.off
  have hN : NetIn (w1.setCell ⟨nb, 2, none⟩ (.int .i64 c)) nb bt bo { s with calls := c } := by
    refine ⟨?_, ?_, World.cell?_setCell_same' _ _ _ (by rw [h1.c2]; rfl), fun j => by rw [World.frozen?_setCell]; exact h1.live j, h1.texts.setCell (h1.texts.apart h1.c0) _, ⟨no, hno, ho.setCell (ho.apart h1.c0) _⟩, h1.short, h1.few, h1.nodup, h1.ne⟩
    · rw [World.cell?_setCell_other (h := by simp)]; exact h1.c0
    · rw [World.cell?_setCell_other (h := by simp)]; exact h1.c1
  refine ⟨⟨⟨bt, bo, hN, rfl⟩, fun B hB hS => ?_, ?_, fun _ => .inl⟩, hN⟩
  · exact (hb.mono hB).setCell (p := ⟨nb, 2, none⟩) (hS nb (.inl rfl)) _
  · exact (Kept.of_below hb).trans (Kept.set w1 (.inl rfl) _)

theorem net_new (w : World) : NetIn (((w.alloc (.map #[] 0)).alloc (.map #[] 0)).alloc (.cells #[.map (some w.heap.size), .map (some (w.heap.size + 1)), .int .i64 0] 50)) (w.heap.size + 2) w.heap.size (w.heap.size + 1) Ns.none := by
  have m1 := MapAt.new Tryd.prog w 9
  have m2 := MapAt.new Tryd.prog (w.alloc (.map #[] 0)) 9
  have s1 : (w.alloc (.map #[] 0)).heap.size = w.heap.size + 1 := by simp
  have s2 : ((w.alloc (.map #[] 0)).alloc (.map #[] 0)).heap.size = w.heap.size + 2 := by simp
  have e := heap_new ((w.alloc (.map #[] 0)).alloc (.map #[] 0)) (.cells #[.map (some w.heap.size), .map (some (w.heap.size + 1)), .int .i64 0] 50)
  rw [s1] at m2
  rw [s2] at e
  have t1 := (m1.alloc (.map #[] 0)).alloc (.cells #[.map (some w.heap.size), .map (some (w.heap.size + 1)), .int .i64 0] 50)
  have t2 := m2.alloc (.cells #[.map (some w.heap.size), .map (some (w.heap.size + 1)), .int .i64 0] 50)
  generalize ((w.alloc (.map #[] 0)).alloc (.map #[] 0)).alloc (.cells #[.map (some w.heap.size), .map (some (w.heap.size + 1)), .int .i64 0] 50) = V at e t1 t2 ⊢
  exact ⟨by simp [World.cell?, e], by simp [World.cell?, e], by simp [World.cell?, e, Ns.none], fun j => by simp [World.frozen?, e], t1, ⟨0, Nat.le_refl _, t2⟩, by simp [Ns.none], by simp [Ns.none], by simp [Ns.none], by omega⟩
end Go.Proofs.YtkokdpidgikdkaaDoor
