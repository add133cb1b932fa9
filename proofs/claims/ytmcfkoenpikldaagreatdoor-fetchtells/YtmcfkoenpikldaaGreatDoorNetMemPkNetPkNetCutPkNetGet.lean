/-
  Own texts of the proof, joined by program: NetMem, PkNet, PkNetCut, PkNetGet.
-/
import Derived.Test.YtmcfkoenpikldaaGreatDoorMapOwnMapAtMapInt
import Derived.Test.YtmcfkoenpikldaaGreatDoorNetDo
/-
  The program's net in memory: its three cells, a map of texts by their links, a map of hosts that are off; what is kept where others write: over this seat's translation.
-/
namespace Go.Proofs.YtmcfkoenpikldaaGreatDoor
open Go.RowKit Go.Maps

/-- A text of the program's net: all of it, and how much comes. -/
def textV (x : Si) : Value := .agg #[.string ⟨x.t.toArray⟩, .int .i64 (comesN x).length]
def textsF (l : List Si) (u : List UInt8) : Option Value := (l.find? fun x => x.u == u).map textV
def offF (off : List (List UInt8)) (h : List UInt8) : Option Value := if h ∈ off then some (.agg #[]) else none

theorem texts_none {l : List Si} {u : List UInt8} (h : spotN l u = none) : textsF l u = none := by
  unfold spotN at h
  have : l.find? (fun x => x.u == u) = none := List.find?_eq_none.2 fun x hx => by simpa using List.findIdx?_eq_none_iff.1 h x hx
  simp [textsF, this]
theorem find_spot {l : List Si} {u : List UInt8} {k : Nat} (h : spotN l u = some k) (hk : k < l.length) : l.find? (fun x => x.u == u) = some l[k] := by
  unfold spotN at h
  obtain ⟨hk', hx, h0⟩ := List.findIdx?_eq_some_iff_getElem.1 h
  exact List.find?_eq_some_iff_getElem.2 ⟨hx, k, hk, rfl, fun j hj => by simpa using h0 j hj⟩
theorem texts_some {l : List Si} {u : List UInt8} {k : Nat} (h : spotN l u = some k) (hk : k < l.length) : textsF l u = some (textV l[k]) := by simp [textsF, find_spot h hk]
theorem texts_app {l : List Si} {u : List UInt8} (h : spotN l u = none) (x : Si) (hx : x.u = u) : textsF (l ++ [x]) = fun q => if q = u then some (textV x) else textsF l q := by
  funext q
  by_cases hq : q = u
  · subst hq
    have h0 : l.find? (fun x => x.u == q) = none := List.find?_eq_none.2 fun y hy => by simpa using List.findIdx?_eq_none_iff.1 h y hy
    simp [textsF, List.find?_append, h0, hx]
  · have hne : ¬ x.u = q := fun e => hq (by rw [← e, hx])
    simp [textsF, List.find?_append, hq, hne]
theorem find_set {p : Si → Bool} {x : Si} (hx : p x = false) : ∀ (l : List Si) (k : Nat) (hk : k < l.length), p l[k] = false → (l.set k x).find? p = l.find? p
  | [], _, hk, _ => by simp at hk
  | y :: r, 0, _, h => by
    have h' : p y = false := h
    simp [hx, h']
  | y :: r, k + 1, hk, h => by
    have ih := find_set hx r k (by simpa using hk) (by simpa using h)
    simp [List.find?_cons, ih]
theorem texts_set {l : List Si} {u : List UInt8} {k : Nat} (h : spotN l u = some k) (x : Si) (hx : x.u = u) : textsF (l.set k x) = fun q => if q = u then some (textV x) else textsF l q := by
  obtain ⟨hk, hu⟩ := spot_some h
  funext q
  by_cases hq : q = u
  · subst hq
    unfold spotN at h
    obtain ⟨_, _, h0⟩ := List.findIdx?_eq_some_iff_getElem.1 h
    have hk2 : k < (l.set k x).length := by simpa using hk
    have : (l.set k x).find? (fun x => x.u == q) = some x := List.find?_eq_some_iff_getElem.2 ⟨by simp [hx], k, hk2, by simp, fun j hj => by
      have := h0 j hj
      rw [List.getElem_set_ne (by omega)]
      simpa using this⟩
    simp [textsF, this]
  · have h1 : (x.u == q) = false := by simpa [hx] using fun e => hq (Eq.symm e)
    have h2 : (l[k].u == q) = false := by simpa [hu] using fun e => hq (Eq.symm e)
    simp [textsF, hq, find_set (p := fun y => y.u == q) h1 l k hk h2]
theorem modify_set {l : List Si} {k : Nat} (hk : k < l.length) (g : Si → Si) : l.modify k g = l.set k (g l[k]) := by
  apply List.ext_getElem?
  intro j
  rw [List.getElem?_modify, List.getElem?_set]
  by_cases e : k = j
  · subst e
    simp [hk]
  · simp [e]

theorem host_good_on {s : Ns} {h : List UInt8} (e : isPart h = true) : hostN s h true = ({ s with off := s.off.filter (fun x => !(x == h)) }, 0) := by rw [hostN_good e]; simp
theorem host_good_off {s : Ns} {h : List UInt8} (e : isPart h = true) : hostN s h false = ({ s with off := s.off.filter (fun x => !(x == h)) ++ [h] }, 0) := by rw [hostN_good e]; simp
theorem off_on (off : List (List UInt8)) (h : List UInt8) : offF (off.filter (fun x => !(x == h))) = fun q => if q = h then none else offF off q := by
  funext q
  by_cases hq : q = h
  · subst hq
    simp [offF]
  · simp [offF, hq]
theorem off_off (off : List (List UInt8)) (h : List UInt8) : offF (off.filter (fun x => !(x == h)) ++ [h]) = fun q => if q = h then some (.agg #[]) else offF off q := by
  funext q
  by_cases hq : q = h
  · subst hq
    simp [offF]
  · simp [offF, hq]
theorem off_nodup {off : List (List UInt8)} (hn : off.Nodup) (h : List UInt8) : (off.filter (fun x => !(x == h)) ++ [h]).Nodup := by
  refine List.nodup_append.2 ⟨hn.filter _, by simp, fun a ha b hb e => ?_⟩
  subst e
  have h1 := (List.mem_filter.1 ha).2
  simp at hb
  simp [hb] at h1
theorem off_length {off : List (List UInt8)} (hn : off.Nodup) (h : List UInt8) : (off.filter (fun x => !(x == h))).length = if h ∈ off then off.length - 1 else off.length := by
  have e : off.filter (fun x => !(x == h)) = off.erase h := (hn.erase_eq_filter h).symm
  rw [e, List.length_erase]
theorem off_less {off : List (List UInt8)} (hd : off.Nodup) {n : Nat} (hn : n ≤ off.length) (h : List UInt8) : (if (offF off h).isSome = true then n - 1 else n) ≤ (off.filter (fun x => !(x == h))).length := by
  rw [off_length hd]
  unfold offF
  by_cases hx : h ∈ off
  · simp [hx]; omega
  · simp [hx]; omega
theorem off_more {off : List (List UInt8)} (hd : off.Nodup) {n : Nat} (hn : n ≤ off.length) (h : List UInt8) : (if (offF off h).isSome = true then n else n + 1) ≤ (off.filter (fun x => !(x == h)) ++ [h]).length := by
  rw [List.length_append, off_length hd]
  unfold offF
  by_cases hx : h ∈ off
  · have := List.length_pos_of_mem hx
    simp [hx]; omega
  · simp [hx]; omega

/-- A cell, where a block is made. -/
theorem cell_new {w : World} {a : Addr} {v : Value} (h : w.cell? a = some v) (o : Obj) : (w.alloc o).cell? a = some v := (((Below.refl _ _).alloc (Nat.le_refl _) o).cell (block_lt_of_cell h)).trans h

/-- The program's net at a block, its two maps. -/
structure NetIn (w : World) (nb bt bo : Nat) (s : Ns) : Prop where
  c0 : w.cell? ⟨nb, 0, none⟩ = some (.map (some bt))
  c1 : w.cell? ⟨nb, 1, none⟩ = some (.map (some bo))
  c2 : w.cell? ⟨nb, 2, none⟩ = some (.int .i64 s.calls)
  live : ∀ j, w.frozen? ⟨nb, j, none⟩ = false
  texts : MapAt Tryz.prog w 9 bt s.l.length (textsF s.l)
  off : ∃ n, n ≤ s.off.length ∧ MapAt Tryz.prog w 9 bo n (offF s.off)
  short : ∀ x ∈ s.l, x.t.length ≤ 20000
  few : s.l.length ≤ 60
  nodup : s.off.Nodup
  ne : bt ≠ bo
def ProgAt (w : World) (nb : Nat) (S : Nat → Prop) (s : Ns) : Prop := ∃ bt bo, NetIn w nb bt bo s ∧ S = fun b => b = nb ∨ b = bt ∨ b = bo

theorem NetIn.kept {w w' : World} {nb bt bo : Nat} {s : Ns} (h : NetIn w nb bt bo s) (e0 : w'.heap[nb]? = w.heap[nb]?) (e1 : w'.heap[bt]? = w.heap[bt]?) (e2 : w'.heap[bo]? = w.heap[bo]?) : NetIn w' nb bt bo s := by
  have hc : ∀ j, w'.cell? ⟨nb, j, none⟩ = w.cell? ⟨nb, j, none⟩ := fun j => by simp [World.cell?, e0]
  have hf : ∀ j, w'.frozen? ⟨nb, j, none⟩ = w.frozen? ⟨nb, j, none⟩ := fun j => by simp [World.frozen?, e0]
  obtain ⟨n, hn, ho⟩ := h.off
  exact ⟨(hc 0).trans h.c0, (hc 1).trans h.c1, (hc 2).trans h.c2, fun j => (hf j).trans (h.live j), h.texts.kept e1, ⟨n, hn, ho.kept e2⟩, h.short, h.few, h.nodup, h.ne⟩
theorem NetIn.lt {w : World} {nb bt bo : Nat} {s : Ns} (h : NetIn w nb bt bo s) : nb < w.heap.size ∧ bt < w.heap.size ∧ bo < w.heap.size := by
  obtain ⟨n, _, ho⟩ := h.off
  exact ⟨block_lt_of_cell h.c0, h.texts.lt, ho.lt⟩
theorem NetIn.below {w w' : World} {nb bt bo : Nat} {s : Ns} (h : NetIn w nb bt bo s) (hb : Below w.heap.size w w') : NetIn w' nb bt bo s :=
  h.kept (hb.block _ h.lt.1) (hb.block _ h.lt.2.1) (hb.block _ h.lt.2.2)
theorem ProgAt.keep {w w' : World} {nb : Nat} {S T : Nat → Prop} {s : Ns} (h : ProgAt w nb S s) (k : Kept T w w') (hS : ∀ b, S b → ¬ T b) : ProgAt w' nb S s := by
  obtain ⟨bt, bo, h, rfl⟩ := h
  exact ⟨bt, bo, h.kept (k.block _ h.lt.1 (hS _ (.inl rfl))) (k.block _ h.lt.2.1 (hS _ (.inr (.inl rfl)))) (k.block _ h.lt.2.2 (hS _ (.inr (.inr rfl)))), rfl⟩
theorem ProgAt.lt {w : World} {nb : Nat} {S : Nat → Prop} {s : Ns} (h : ProgAt w nb S s) : ∀ b, S b → b < w.heap.size := by
  obtain ⟨bt, bo, h, rfl⟩ := h
  rintro b (rfl | rfl | rfl)
  · exact h.lt.1
  · exact h.lt.2.1
  · exact h.lt.2.2

/-- Nothing of the net is written. -/
theorem left_quiet {w w' : World} {nb bt bo : Nat} {s : Ns} (h : NetIn w nb bt bo s) (hb : Below w.heap.size w w') : ProgLeft ProgAt w nb (fun b => b = nb ∨ b = bt ∨ b = bo) s w' (fun b => b = nb ∨ b = bt ∨ b = bo) :=
  ⟨⟨bt, bo, h.below hb, rfl⟩, fun _ hB _ => hb.mono hB, Kept.of_below hb, fun _ => .inl⟩
/-- And then nothing more. -/
theorem left_then {w w1 w2 : World} {nb : Nat} {S S' : Nat → Prop} {s : Ns} (l : ProgLeft ProgAt w nb S s w1 S') (hb : Below w1.heap.size w1 w2) : ProgLeft ProgAt w nb S s w2 S' :=
  ⟨l.net.keep (T := fun _ => False) (Kept.of_below hb) (fun _ _ f => f), fun B hB hS => (l.below B hB hS).trans (hb.mono (Nat.le_trans hB l.kept.size)), l.kept.trans (Kept.of_below hb), l.own⟩
/-- Its texts are others. -/
theorem left_texts {w w1 w2 : World} {nb bt bo n : Nat} {s : Ns} {f : List UInt8 → Option Value} (h : NetIn w nb bt bo s) (hb : Below w.heap.size w w1) (ht : w1.mapTurned w2 bt) (hm : MapAt Tryz.prog w2 9 bt n f) (l : List Si) (hn : n = l.length) (hf : f = textsF l) (hs : ∀ x ∈ l, x.t.length ≤ 20000) (hw : l.length ≤ 60) :
    ProgLeft ProgAt w nb (fun b => b = nb ∨ b = bt ∨ b = bo) { s with l := l } w2 (fun b => b = nb ∨ b = bt ∨ b = bo) := by
  subst hn hf
  have h1 := h.below hb
  have hne : nb ≠ bt := fun e => h1.texts.apart h1.c0 e.symm
  have hk := turned_kept ht
  have e0 : w2.heap[nb]? = w1.heap[nb]? := hk.block _ h1.lt.1 hne
  have hc : ∀ j, w2.cell? ⟨nb, j, none⟩ = w1.cell? ⟨nb, j, none⟩ := fun j => by simp [World.cell?, e0]
  have hfr : ∀ j, w2.frozen? ⟨nb, j, none⟩ = w1.frozen? ⟨nb, j, none⟩ := fun j => by simp [World.frozen?, e0]
  obtain ⟨no, hno, ho⟩ := h1.off
  refine ⟨⟨bt, bo, ⟨(hc 0).trans h1.c0, (hc 1).trans h1.c1, (hc 2).trans h1.c2, fun j => (hfr j).trans (h1.live j), hm, ⟨no, hno, ho.kept (hk.block _ h1.lt.2.2 h1.ne.symm)⟩, hs, hw, h1.nodup, h1.ne⟩, rfl⟩, fun B hB hS => ?_, ?_, fun _ => .inl⟩
  · exact (hb.mono hB).trans (turned_below ht (hS bt (.inr (.inl rfl))) (Nat.le_trans hB hb.size))
  · exact (Kept.of_below hb).trans (hk.more fun b _ e => .inr (.inl e))
/-- Its hosts are others. -/
theorem left_hosts {w w2 : World} {nb bt bo n : Nat} {s : Ns} {f : List UInt8 → Option Value} (h1 : NetIn w nb bt bo s) (ht : w.mapTurned w2 bo) (hm : MapAt Tryz.prog w2 9 bo n f) (off : List (List UInt8)) (hn : n ≤ off.length) (hf : f = offF off) (hd : off.Nodup) :
    ProgLeft ProgAt w nb (fun b => b = nb ∨ b = bt ∨ b = bo) { s with off := off } w2 (fun b => b = nb ∨ b = bt ∨ b = bo) := by
  subst hf
  obtain ⟨no, hno, ho⟩ := h1.off
  have hne : nb ≠ bo := fun e => ho.apart h1.c0 e.symm
  have hk := turned_kept ht
  have e0 : w2.heap[nb]? = w.heap[nb]? := hk.block _ h1.lt.1 hne
  have hc : ∀ j, w2.cell? ⟨nb, j, none⟩ = w.cell? ⟨nb, j, none⟩ := fun j => by simp [World.cell?, e0]
  have hfr : ∀ j, w2.frozen? ⟨nb, j, none⟩ = w.frozen? ⟨nb, j, none⟩ := fun j => by simp [World.frozen?, e0]
  refine ⟨⟨bt, bo, ⟨(hc 0).trans h1.c0, (hc 1).trans h1.c1, (hc 2).trans h1.c2, fun j => (hfr j).trans (h1.live j), h1.texts.kept (hk.block _ h1.lt.2.1 h1.ne), ⟨n, hn, hm⟩, h1.short, h1.few, hd, h1.ne⟩, rfl⟩, fun B hB hS => ?_, ?_, fun _ => .inl⟩
  · exact turned_below ht (hS bo (.inr (.inr rfl))) hB
  · exact hk.more fun b _ e => .inr (.inr e)
/-- It is counted. -/
theorem left_count {w w1 : World} {nb bt bo : Nat} {s : Ns} (h : NetIn w nb bt bo s) (hb : Below w.heap.size w w1) (c : Nat) :
    ProgLeft ProgAt w nb (fun b => b = nb ∨ b = bt ∨ b = bo) { s with calls := c } (w1.setCell ⟨nb, 2, none⟩ (.int .i64 c)) (fun b => b = nb ∨ b = bt ∨ b = bo) ∧ NetIn (w1.setCell ⟨nb, 2, none⟩ (.int .i64 c)) nb bt bo { s with calls := c } := by
  have h1 := h.below hb
  obtain ⟨no, hno, ho⟩ := h1.off
  have hN : NetIn (w1.setCell ⟨nb, 2, none⟩ (.int .i64 c)) nb bt bo { s with calls := c } := by
    refine ⟨?_, ?_, World.cell?_setCell_same' _ _ _ (by rw [h1.c2]; rfl), fun j => by rw [World.frozen?_setCell]; exact h1.live j, h1.texts.setCell (h1.texts.apart h1.c0) _, ⟨no, hno, ho.setCell (ho.apart h1.c0) _⟩, h1.short, h1.few, h1.nodup, h1.ne⟩
    · rw [World.cell?_setCell_other (h := by simp)]; exact h1.c0
    · rw [World.cell?_setCell_other (h := by simp)]; exact h1.c1
  refine ⟨⟨⟨bt, bo, hN, rfl⟩, fun B hB hS => ?_, ?_, fun _ => .inl⟩, hN⟩
  · exact (hb.mono hB).setCell (p := ⟨nb, 2, none⟩) (hS nb (.inl rfl)) _
  · exact (Kept.of_below hb).trans (Kept.set w1 (.inl rfl) _)

theorem net_new (w : World) : NetIn (((w.alloc (.map #[] 0)).alloc (.map #[] 0)).alloc (.cells #[.map (some w.heap.size), .map (some (w.heap.size + 1)), .int .i64 0] 109)) (w.heap.size + 2) w.heap.size (w.heap.size + 1) Ns.none := by
  have m1 := MapAt.new Tryz.prog w 9
  have m2 := MapAt.new Tryz.prog (w.alloc (.map #[] 0)) 9
  have s1 : (w.alloc (.map #[] 0)).heap.size = w.heap.size + 1 := by simp
  have s2 : ((w.alloc (.map #[] 0)).alloc (.map #[] 0)).heap.size = w.heap.size + 2 := by simp
  have e := heap_new ((w.alloc (.map #[] 0)).alloc (.map #[] 0)) (.cells #[.map (some w.heap.size), .map (some (w.heap.size + 1)), .int .i64 0] 109)
  rw [s1] at m2
  rw [s2] at e
  have t1 := (m1.alloc (.map #[] 0)).alloc (.cells #[.map (some w.heap.size), .map (some (w.heap.size + 1)), .int .i64 0] 109)
  have t2 := m2.alloc (.cells #[.map (some w.heap.size), .map (some (w.heap.size + 1)), .int .i64 0] 109)
  generalize ((w.alloc (.map #[] 0)).alloc (.map #[] 0)).alloc (.cells #[.map (some w.heap.size), .map (some (w.heap.size + 1)), .int .i64 0] 109) = V at e t1 t2 ⊢
  exact ⟨by simp [World.cell?, e], by simp [World.cell?, e], by simp [World.cell?, e, Ns.none], fun j => by simp [World.frozen?, e], t1, ⟨0, Nat.le_refl _, t2⟩, by simp [Ns.none], by simp [Ns.none], by simp [Ns.none], by omega⟩
end Go.Proofs.YtmcfkoenpikldaaGreatDoor
/-
  Package net: New, Put, Host, Cut, Get, Calls: contracts, over this seat's translation; so the program's net keeps what NetProg asks.
-/
namespace Go.Proofs.YtmcfkoenpikldaaGreatDoor
open Go.RowKit Go.Shelf Go.Maps

theorem zero_text (w : World) : (zeroValue 195).run Tryz.prog w = .ok (.agg #[.string ⟨#[]⟩, .int .i64 0]) w := by kernel_rfl
theorem zero_unit (w : World) : (zeroValue 200).run Tryz.prog w = .ok (.agg #[]) w := by kernel_rfl

theorem netCalls_any (w : World) (nb : Nat) (S : Nat → Prop) (s : Ns) (h : ProgAt w nb S s) : Calls Tryz.prog 26 #[.pointer (some ⟨nb, 0, none⟩)] w fun e w' => e = .returned (.int .i64 s.calls) ∧ Below w.heap.size w w' := by
  obtain ⟨bt, bo, h, rfl⟩ := h
  have c2 := h.c2
  go_enter Tryz.func26, Tryz.ntmps26
  go_wp2
  go_ret
  exact ⟨rfl, Below.refl _ _⟩

theorem netNew_any (w : World) : Calls Tryz.prog 11 #[] w fun e w' => ∃ nb S, e = .returned (.pointer (some ⟨nb, 0, none⟩)) ∧ ProgAt w' nb S Ns.none ∧ (∀ b, S b → w.heap.size ≤ b) ∧ Below w.heap.size w w' := by
  have hmm := @run_makeMap Tryz.prog
  go_enter Tryz.func11, Tryz.ntmps11
  go_wp2
  go_ret
  refine ⟨_, _, rfl, ⟨_, _, net_new w, rfl⟩, ?_, ?_⟩
  · rintro b (rfl | rfl | rfl) <;> omega
  · exact (((Below.refl _ _).alloc (Nat.le_refl _) _).alloc (by simp) _).alloc (by simp; omega) _

set_option maxRecDepth 100000 in
set_option maxHeartbeats 2000000 in
theorem netHost_any (p : Nat → Addr) (w : World) (nb : Nat) (S : Nat → Prop) (s : Ns) (u : List UInt8) (on : Bool) (h : ProgAt w nb S s) (hE : NEnv p w) (ho : s.off.length ≤ 1000) (hu : u.length ≤ 90000) :
    Calls Tryz.prog 61 #[.pointer (some ⟨nb, 0, none⟩), .string ⟨u.toArray⟩, .bool on] w fun e w' => e = .returned (errV p (hostN s u on).2) ∧ ∃ S', ProgLeft ProgAt w nb S (hostN s u on).1 w' S' := by
  obtain ⟨bt, bo, h, rfl⟩ := h
  have H := Lib.hid h
  obtain ⟨n, hn, ho2⟩ := h.off
  have HO := Lib.hid ho2
  have c1 := h.c1
  have g4 := hE.env.s4
  clear h hE ho2
  go_enter Tryz.func61, Tryz.ntmps61
  cases hp : isPart u with
  | false =>
    have HC := Lib.hid (hostN_bad (s := s) (on := on) hp)
    go_wp2_with fail
    refine (isPart_is u false _ (by omega) hp).mono ?_
    rintro e w' ⟨rfl, hw'⟩
    obtain rfl : w = w' := hw'
    go_wp2
    go_ret
    exact ⟨by rw [HC.out]; rfl, _, by rw [HC.out]; exact left_quiet H.out (Below.refl _ _)⟩
  | true =>
    cases on with
    | true =>
      have HC := Lib.hid (host_good_on (s := s) hp)
      go_wp2_with fail
      refine (isPart_is u true _ (by omega) hp).mono ?_
      rintro e w' ⟨rfl, hw'⟩
      obtain rfl : w = w' := hw'
      clear hp
      go_wp2_with (at_delete; refine wpList_strike rfl _ _ 107 9 rfl 200 Tryz.underlying9 Tryz.underlying107 bo n _ rfl HO.out u rfl (by omega) ?_; intro w2 hm ht)
      go_ret
      refine ⟨by rw [HC.out]; rfl, (fun b => b = nb ∨ b = bt ∨ b = bo), ?_⟩
      rw [HC.out]
      exact left_hosts H.out ht hm _ (off_less H.out.nodup hn u) (off_on s.off u).symm (H.out.nodup.filter _)
    | false =>
      have HC := Lib.hid (host_good_off (s := s) hp)
      go_wp2_with fail
      refine (isPart_is u true _ (by omega) hp).mono ?_
      rintro e w' ⟨rfl, hw'⟩
      obtain rfl : w = w' := hw'
      clear hp
      go_wp2_with (at_mapUpdate; refine wpList_put rfl _ _ _ 107 rfl 9 200 Tryz.underlying9 Tryz.underlying107 bo n _ rfl HO.out (by unfold maxLen; omega) u rfl (by omega) (.agg #[]) rfl ?_; intro w2 hm ht)
      go_ret
      refine ⟨by rw [HC.out]; rfl, (fun b => b = nb ∨ b = bt ∨ b = bo), ?_⟩
      rw [HC.out]
      exact left_hosts H.out ht hm _ (off_more H.out.nodup hn u) (off_off s.off u).symm (off_nodup H.out.nodup u)

theorem putN_short {s : Ns} {u t : List UInt8} (h : ∀ x ∈ s.l, x.t.length ≤ 20000) : ∀ x ∈ (putN s u t).1.l, x.t.length ≤ 20000 := by
  intro x hx
  unfold putN at hx
  split at hx
  · exact h x hx
  split at hx
  · exact h x hx
  split at hx
  · rcases List.mem_or_eq_of_mem_set hx with hx | rfl
    · exact h x hx
    · show t.length ≤ _; omega
  · split at hx
    · exact h x hx
    · rcases List.mem_append.1 hx with hx | hx
      · exact h x hx
      · simp at hx; subst hx; show t.length ≤ _; omega
theorem text_put (u t : List UInt8) : textV ⟨u, t, -1⟩ = .agg #[.string ⟨t.toArray⟩, .int .i64 t.length] := rfl

set_option maxRecDepth 100000 in
set_option maxHeartbeats 2000000 in
theorem netPut_any (p : Nat → Addr) (w : World) (nb : Nat) (S : Nat → Prop) (s : Ns) (u t : List UInt8) (h : ProgAt w nb S s) (hE : NEnv p w) (hu : u.length ≤ 90000) (ht : t.length ≤ 100000) :
    Calls Tryz.prog 57 #[.pointer (some ⟨nb, 0, none⟩), .string ⟨u.toArray⟩, .string ⟨t.toArray⟩] w fun e w' => e = .returned (errV p (putN s u t).2) ∧ ∃ S', ProgLeft ProgAt w nb S (putN s u t).1 w' S' := by
  obtain ⟨bt, bo, h, rfl⟩ := h
  have H := Lib.hid h
  have HE := Lib.hid hE
  have HS := Lib.hid (putN_short (u := u) (t := t) h.short)
  have hl := h.few
  clear h hE
  go_enter Tryz.func57, Tryz.ntmps57
  cases hc : checkK u with
  | succ k =>
    have HC := Lib.hid (putN_bad (s := s) (t := t) hc)
    go_wp2_with fail
    refine (linkCheck_is p u _ _ HE.out.link hu hc).mono ?_
    rintro e w1 ⟨rfl, hb1⟩
    have HB1 := Lib.hid hb1
    clear hb1 hc
    rw [errV_some p (Nat.succ_ne_zero k)]
    go_wp2
    go_ret
    exact ⟨by rw [HC.out]; rfl, _, by rw [HC.out]; exact left_quiet H.out HB1.out⟩
  | zero =>
    have HK := Lib.hid hc
    clear hc
    go_wp2_with fail
    refine (linkCheck_is p u _ _ HE.out.link hu HK.out).mono ?_
    rintro e w1 ⟨rfl, hb1⟩
    have HB1 := Lib.hid hb1
    have H1 := Lib.hid (H.out.below hb1)
    have HE1 := Lib.hid (HE.out.below hb1)
    clear hb1
    rw [errV_zero]
    have g1 := HE1.out.env.s1
    have g7 := HE1.out.env.s7
    have c0 := H1.out.c0
    have c0' := cell_new c0
    have g7' := cell_new g7
    by_cases hlong : 20000 < t.length
    · have HC := Lib.hid (putN_long (s := s) HK.out hlong)
      have hlong' : (t.length : Int) > 20000 := by omega
      clear hlong
      go_wp2
      go_ret
      exact ⟨by rw [HC.out]; rfl, _, by rw [HC.out]; exact left_quiet H.out HB1.out⟩
    · have hlong' : ¬ (t.length : Int) > 20000 := by omega
      cases hs : spotN s.l u with
      | some k =>
        obtain ⟨hk, hku⟩ := spot_some hs
        have HC := Lib.hid (putN_there HK.out hlong hs)
        have HT := Lib.hid (texts_some hs hk)
        have HU := Lib.hid (texts_set hs ⟨u, t, -1⟩ rfl)
        clear hs hlong hku
        rw [HC.out] at HS
        generalize s.l[k] = x at HT
        go_wp2_with (first
          | (at_lookup; refine wpList_look rfl _ _ 106 rfl 9 195 Tryz.underlying9 Tryz.underlying106 (zero_text _) bt _ _ rfl H1.out.texts u rfl (by omega) (.agg #[.string ⟨x.t.toArray⟩, .int .i64 (comesN x).length]) true (by rw [HT.out]; rfl) (by rw [HT.out]; rfl) ?_)
          | (at_mapUpdate; refine wpList_put rfl _ _ _ 106 rfl 9 195 Tryz.underlying9 Tryz.underlying106 bt _ _ rfl (H1.out.texts.alloc _) (by unfold maxLen; omega) u rfl (by omega) (.agg #[.string ⟨t.toArray⟩, .int .i64 t.length]) rfl ?_; intro w2 hm ht))
        go_ret
        refine ⟨by rw [HC.out]; rfl, (fun b => b = nb ∨ b = bt ∨ b = bo), ?_⟩
        rw [HC.out]
        refine left_texts H.out (HB1.out.alloc HB1.out.size _) ht hm _ ?_ ?_ HS.out (by rw [List.length_set]; exact hl)
        · rw [HT.out]; simp
        · rw [HU.out, text_put]
      | none =>
        have HT := Lib.hid (texts_none hs)
        by_cases hfull : 60 ≤ s.l.length
        · have HC := Lib.hid (putN_full HK.out hlong hs hfull)
          have hfull' : (s.l.length : Int) ≥ 60 := by omega
          clear hs hlong hfull
          go_wp2_with (first
            | (at_lookup; refine wpList_look rfl _ _ 106 rfl 9 195 Tryz.underlying9 Tryz.underlying106 (zero_text _) bt _ _ rfl H1.out.texts u rfl (by omega) (.agg #[.string ⟨#[]⟩, .int .i64 0]) false (by rw [HT.out]; rfl) (by rw [HT.out]; rfl) ?_)
            | (at_len; refine wpList_count_wanted rfl _ 106 rfl 9 195 Tryz.underlying106 bt _ _ rfl (H1.out.texts.alloc _) ?_))
          go_ret
          exact ⟨by rw [HC.out]; rfl, _, by rw [HC.out]; exact left_quiet H.out (HB1.out.alloc HB1.out.size _)⟩
        · have HC := Lib.hid (putN_new HK.out hlong hs hfull)
          have HU := Lib.hid (texts_app hs ⟨u, t, -1⟩ rfl)
          have hfull' : ¬ (s.l.length : Int) ≥ 60 := by omega
          clear hs hlong hfull
          rw [HC.out] at HS
          go_wp2_with (first
            | (at_lookup; refine wpList_look rfl _ _ 106 rfl 9 195 Tryz.underlying9 Tryz.underlying106 (zero_text _) bt _ _ rfl H1.out.texts u rfl (by omega) (.agg #[.string ⟨#[]⟩, .int .i64 0]) false (by rw [HT.out]; rfl) (by rw [HT.out]; rfl) ?_)
            | (at_len; refine wpList_count_wanted rfl _ 106 rfl 9 195 Tryz.underlying106 bt _ _ rfl (H1.out.texts.alloc _) ?_)
            | (at_mapUpdate; refine wpList_put rfl _ _ _ 106 rfl 9 195 Tryz.underlying9 Tryz.underlying106 bt _ _ rfl (H1.out.texts.alloc _) (by unfold maxLen; omega) u rfl (by omega) (.agg #[.string ⟨t.toArray⟩, .int .i64 t.length]) rfl ?_; intro w2 hm ht))
          go_ret
          refine ⟨by rw [HC.out]; rfl, (fun b => b = nb ∨ b = bt ∨ b = bo), ?_⟩
          rw [HC.out]
          refine left_texts H.out (HB1.out.alloc HB1.out.size _) ht hm _ ?_ ?_ HS.out (by rw [List.length_append]; show s.l.length + 1 ≤ 60; omega)
          · rw [HT.out]; simp
          · rw [HU.out, text_put]
end Go.Proofs.YtmcfkoenpikldaaGreatDoor
/-
  Package net: Cut: a contract, over this seat's translation.
-/
namespace Go.Proofs.YtmcfkoenpikldaaGreatDoor
open Go.RowKit Go.Shelf Go.Maps

theorem comes_min (u t : List UInt8) (m : Nat) : (((comesN ⟨u, t, (m : Int)⟩).length : Nat) : Int) = min (m : Int) (t.length : Int) := by
  unfold comesN
  split
  · rename_i h
    have h2 : (m : Int) < (t.length : Int) := h.2
    simp only [Int.toNat_natCast, List.length_take]
    omega
  · rename_i h
    have h2 : ¬ (m : Int) < (t.length : Int) := fun h' => h ⟨Int.natCast_nonneg m, h'⟩
    show (t.length : Int) = _
    omega
theorem cells_two_new (w : World) (a b : Value) (t : TypeId) : (w.alloc (.cells #[a, b] t)).cell? ⟨w.heap.size, 0, none⟩ = some a ∧ (w.alloc (.cells #[a, b] t)).cell? ⟨w.heap.size, 1, none⟩ = some b := by
  have e := heap_new w (.cells #[a, b] t)
  generalize w.alloc (.cells #[a, b] t) = V at e ⊢
  exact ⟨by simp [World.cell?, e], by simp [World.cell?, e]⟩

set_option maxRecDepth 100000 in
set_option maxHeartbeats 2000000 in
theorem netCut_any (p : Nat → Addr) (w : World) (nb : Nat) (S : Nat → Prop) (s : Ns) (u : List UInt8) (c : Int) (h : ProgAt w nb S s) (hE : NEnv p w) (hu : u.length ≤ 90000) :
    Calls Tryz.prog 63 #[.pointer (some ⟨nb, 0, none⟩), .string ⟨u.toArray⟩, .int .i64 c] w fun e w' => e = .returned (errV p (cutN s u c).2) ∧ ∃ S', ProgLeft ProgAt w nb S (cutN s u c).1 w' S' := by
  obtain ⟨bt, bo, h, rfl⟩ := h
  have H := Lib.hid h
  have HE := Lib.hid hE
  have c0 := h.c0
  have hl := h.few
  have c0' := cell_new c0
  have g5 := cell_new hE.env.s5
  have g1 := cell_new hE.env.s1
  clear h hE
  go_enter Tryz.func63, Tryz.ntmps63
  cases hs : spotN s.l u with
  | none =>
    have HC := Lib.hid (cutN_none (k := c) hs)
    have HT := Lib.hid (texts_none hs)
    clear hs
    go_wp2_with (at_lookup; refine wpList_look rfl _ _ 106 rfl 9 195 Tryz.underlying9 Tryz.underlying106 (zero_text _) bt _ _ rfl H.out.texts u rfl (by omega) (.agg #[.string ⟨#[]⟩, .int .i64 0]) false (by rw [HT.out]; rfl) (by rw [HT.out]; rfl) ?_)
    go_ret
    exact ⟨by rw [HC.out]; rfl, _, by rw [HC.out]; exact left_quiet H.out ((Below.refl _ _).alloc (Nat.le_refl _) _)⟩
  | some k =>
    obtain ⟨hk, hku⟩ := spot_some hs
    have HT := Lib.hid (texts_some hs hk)
    by_cases hneg : c < 0
    · have HC := Lib.hid (cutN_neg hs hneg)
      clear hs hku
      generalize s.l[k] = x at HT
      go_wp2_with (at_lookup; refine wpList_look rfl _ _ 106 rfl 9 195 Tryz.underlying9 Tryz.underlying106 (zero_text _) bt _ _ rfl H.out.texts u rfl (by omega) (.agg #[.string ⟨x.t.toArray⟩, .int .i64 (comesN x).length]) true (by rw [HT.out]; rfl) (by rw [HT.out]; rfl) ?_)
      go_ret
      exact ⟨by rw [HC.out]; rfl, _, by rw [HC.out]; exact left_quiet H.out ((Below.refl _ _).alloc (Nat.le_refl _) _)⟩
    · have HC := Lib.hid (cutN_good hs hneg)
      have HU := Lib.hid (texts_set hs { s.l[k] with c := c } hku)
      have HS := Lib.hid (H.out.short _ (List.getElem_mem hk))
      have HM := Lib.hid (modify_set hk fun x => { x with c := c })
      have htl := HS.out
      clear hs hku
      generalize s.l[k] = x at HT HU HS HM htl
      obtain ⟨xu, xt, xc⟩ := x
      simp only at htl
      have hc0 : 0 ≤ c := by omega
      clear hneg
      obtain ⟨m, rfl⟩ := Int.eq_ofNat_of_zero_le hc0
      go_wp2_with (at_lookup; refine wpList_look rfl _ _ 106 rfl 9 195 Tryz.underlying9 Tryz.underlying106 (zero_text _) bt _ _ rfl H.out.texts u rfl (by omega) (.agg #[.string ⟨xt.toArray⟩, .int .i64 (comesN ⟨xu, xt, xc⟩).length]) true (by rw [HT.out]; rfl) (by rw [HT.out]; rfl) ?_)
      obtain ⟨d0, d1⟩ := cells_two_new w (.string ⟨xt.toArray⟩) (.int .i64 (min (m : Int) (xt.length : Int))) 195
      have HB := Lib.hid ((Below.refl w.heap.size w).alloc (Nat.le_refl _) (.cells #[.string ⟨xt.toArray⟩, .int .i64 (min (m : Int) (xt.length : Int))] 195))
      have k0 := c0' (.cells #[.string ⟨xt.toArray⟩, .int .i64 (min (m : Int) (xt.length : Int))] 195)
      clear c0 c0' g5 g1
      generalize w.alloc (.cells #[.string ⟨xt.toArray⟩, .int .i64 (min (m : Int) (xt.length : Int))] 195) = w2 at d0 d1 HB k0 ⊢
      generalize w.heap.size = X at d0 d1 ⊢
      obtain ⟨w3, hrun, hm, ht⟩ := ((H.out.below HB.out).texts.drew).store (e := 195) (t := 106) Tryz.underlying9 Tryz.underlying106 (by unfold maxLen; omega) u (by omega) (.agg #[.string ⟨xt.toArray⟩, .int .i64 (min (m : Int) (xt.length : Int))])
      have HM2 := Lib.hid hm
      have HT2 := Lib.hid ht
      clear hm ht
      go_region
      all_goals go_wp2
      all_goals go_ret
      all_goals
        refine ⟨by rw [HC.out]; rfl, (fun b => b = nb ∨ b = bt ∨ b = bo), ?_⟩
        rw [HC.out, HM.out]
        refine left_texts H.out HB.out.drew HT2.out HM2.out _ ?_ ?_ ?_ (by rw [List.length_set]; exact hl)
        · rw [HT.out]; simp
        · rw [HU.out]
          show _ = fun q => if q = u then some (.agg #[.string ⟨xt.toArray⟩, .int .i64 ((comesN ⟨xu, xt, (m : Int)⟩).length : Nat)]) else textsF s.l q
          rw [comes_min]
        · intro y hy
          rcases List.mem_or_eq_of_mem_set hy with hy | rfl
          · exact H.out.short y hy
          · exact HS.out
end Go.Proofs.YtmcfkoenpikldaaGreatDoor
/-
  Package net: Get: a contract, over this seat's translation; and so the program's net keeps what NetProg asks.
-/
namespace Go.Proofs.YtmcfkoenpikldaaGreatDoor
open Go.RowKit Go.Shelf Go.Maps

theorem read_host {u : List UInt8} (h : checkK u = 0) : (readK u).1 = (linkL u).1 := by
  obtain ⟨⟨a, q, c⟩, hl⟩ : ∃ r, linkL u = r := ⟨_, rfl⟩
  have h' : (readK u).2.2 = 0 := h
  cases c with
  | succ k => rw [readK_link hl] at h'; cases h'
  | zero =>
    cases hc : checkCode q with
    | succ k => rw [readK_path hl hc] at h'; cases h'
    | zero => rw [readK_ok hl hc, hl]
theorem comes_take (x : Si) : x.t.take (comesN x).length = comesN x := by
  unfold comesN
  split
  · rename_i h
    obtain ⟨h1, h2⟩ := h
    rw [List.length_take, Nat.min_eq_left (by omega)]
  · exact List.take_length
theorem comes_le (x : Si) : (comesN x).length ≤ x.t.length := by
  unfold comesN
  split
  · exact List.length_take_le' _ _
  · exact Nat.le_refl _

/-- A variable, where a net's count is written. -/
theorem var_far {w : World} {g : Nat} {y : Value} (e : w.cell? ⟨g, 0, none⟩ = some y) (nb : Nat) (v : Value) : (w.setCell ⟨nb, 2, none⟩ v).cell? ⟨g, 0, none⟩ = some y := by
  rw [World.cell?_setCell_other (h := by simp)]
  exact e

set_option maxRecDepth 100000 in
set_option maxHeartbeats 4000000 in
theorem netGet_any (p : Nat → Addr) (w : World) (nb : Nat) (S : Nat → Prop) (s : Ns) (u : List UInt8) (h : ProgAt w nb S s) (hE : NEnv p w) (hc : s.calls ≤ 1000) (hu : u.length ≤ 90000) :
    Calls Tryz.prog 65 #[.pointer (some ⟨nb, 0, none⟩), .string ⟨u.toArray⟩] w fun e w' => e = .returned (.tuple #[.string ⟨(getN s u).2.1.toArray⟩, errV p (getN s u).2.2]) ∧ ∃ S', ProgLeft ProgAt w nb S (getN s u).1 w' S' := by
  obtain ⟨bt, bo, h, rfl⟩ := h
  have H := Lib.hid h
  have HE := Lib.hid hE
  clear h hE
  go_enter Tryz.func65, Tryz.ntmps65
  cases hck : checkK u with
  | succ k =>
    have HC := Lib.hid (getN_bad (s := s) hck)
    go_wp2_with fail
    refine (hostOf_any p u _ HE.out.link hu).mono ?_
    rintro e w1 ⟨rfl, hb1⟩
    have HB1 := Lib.hid hb1
    clear hb1
    rw [hck, errV_some p (Nat.succ_ne_zero k)]
    clear hck
    go_wp2
    go_ret2
    exact ⟨by rw [HC.out]; rfl, _, by rw [HC.out]; exact left_quiet H.out HB1.out⟩
  | zero =>
    have HK := Lib.hid hck
    have HH := Lib.hid (read_host hck)
    go_wp2_with fail
    refine (hostOf_any p u _ HE.out.link hu).mono ?_
    rintro e w1 ⟨rfl, hb1⟩
    have H1 := Lib.hid (H.out.below hb1)
    have HB1 := Lib.hid hb1
    have HE1 := Lib.hid (HE.out.below hb1)
    rw [hck, errV_zero, HH.out]
    clear hb1 hck
    have c2 := H1.out.c2
    have z2 := H1.out.live 2
    have hhl : (linkL u).1.length ≤ 100000 := by have := link_short u; omega
    have HL : Hid (ProgLeft ProgAt w nb (fun b => b = nb ∨ b = bt ∨ b = bo) { s with calls := s.calls + 1 } (w1.setCell ⟨nb, 2, none⟩ (.int .i64 ((s.calls : Int) + 1))) (fun b => b = nb ∨ b = bt ∨ b = bo) ∧ NetIn (w1.setCell ⟨nb, 2, none⟩ (.int .i64 ((s.calls : Int) + 1))) nb bt bo { s with calls := s.calls + 1 }) := left_count H.out HB1.out (s.calls + 1)
    have g12 := cell_new (var_far HE1.out.env.s12 nb (.int .i64 ((s.calls : Int) + 1)))
    have g5 := cell_new (var_far HE1.out.env.s5 nb (.int .i64 ((s.calls : Int) + 1)))
    have k0 := HL.out.2.c0
    have k1 := HL.out.2.c1
    obtain ⟨no, _, ho⟩ := HL.out.2.off
    have HO := Lib.hid ho
    clear ho
    generalize hhd : (linkL u).1 = hh at *
    by_cases hin : hh ∈ s.off
    · have HF : Hid (offF s.off hh = some (.agg #[])) := by show (if hh ∈ s.off then _ else _) = _; rw [if_pos hin]
      go_wp2_with (at_lookup; refine wpList_look rfl _ _ 107 rfl 9 200 Tryz.underlying9 Tryz.underlying107 (zero_unit _) bo _ _ rfl HO.out hh rfl (by omega) (.agg #[]) true (by rw [HF.out]; rfl) (by rw [HF.out]; rfl) ?_)
      have HB4 := Lib.hid (left_then HL.out.1 ((Below.refl _ _).alloc (Nat.le_refl _) (.cells #[] 200)))
      have g12' := g12 (.cells #[] 200)
      clear c2 z2 k0 k1 g12 g5 HF HO HL
      generalize (w1.setCell ⟨nb, 2, none⟩ (.int .i64 ((s.calls : Int) + 1))).alloc (.cells #[] 200) = w4 at g12' HB4 ⊢
      generalize w1.heap.size = X
      have HC : Hid (getN s u = ({ s with calls := s.calls + 1 }, [], 13)) := getN_off HK.out (by rw [hhd]; exact hin)
      go_region
      all_goals go_wp2
      all_goals go_ret2
      all_goals exact ⟨by rw [HC.out]; rfl, _, by rw [HC.out]; exact left_then HB4.out (Below.refl _ _).drew⟩
    · have HF : Hid (offF s.off hh = none) := by show (if hh ∈ s.off then _ else _) = _; rw [if_neg hin]
      have HNI : Hid (¬ (linkL u).1 ∈ s.off) := by show ¬ (linkL u).1 ∈ s.off; rw [hhd]; exact hin
      have k0' := cell_new k0
      have HT := Lib.hid HL.out.2.texts
      cases hs : spotN s.l u with
      | none =>
        have HC := Lib.hid (getN_none HK.out HNI.out hs)
        have HX := Lib.hid (texts_none hs)
        clear hin hs hhd
        go_wp2_with (at_lookup; first
          | (refine wpList_look rfl _ _ 107 rfl 9 200 Tryz.underlying9 Tryz.underlying107 (zero_unit _) bo _ _ rfl HO.out hh rfl (by omega) (.agg #[]) false (by rw [HF.out]; rfl) (by rw [HF.out]; rfl) ?_)
          | (refine wpList_look rfl _ _ 106 rfl 9 195 Tryz.underlying9 Tryz.underlying106 (zero_text _) bt _ _ rfl (HT.out.alloc _) u rfl (by omega) (.agg #[.string ⟨#[]⟩, .int .i64 0]) false (by rw [HX.out]; rfl) (by rw [HX.out]; rfl) ?_))
        have HB4 := Lib.hid (left_then (left_then HL.out.1 ((Below.refl _ _).alloc (Nat.le_refl _) (.cells #[] 200))) ((Below.refl _ _).alloc (Nat.le_refl _) (.cells #[.string ⟨#[]⟩, .int .i64 0] 195)))
        have g5' := cell_new (g5 (.cells #[] 200)) (.cells #[.string ⟨#[]⟩, .int .i64 0] 195)
        clear c2 z2 k0 k1 g12 g5 HF HO HL HT k0'
        generalize ((w1.setCell ⟨nb, 2, none⟩ (.int .i64 ((s.calls : Int) + 1))).alloc (.cells #[] 200)).alloc (.cells #[.string ⟨#[]⟩, .int .i64 0] 195) = w4 at g5' HB4 ⊢
        generalize w1.heap.size = X
        go_region
        all_goals go_wp2
        all_goals go_ret2
        all_goals exact ⟨by rw [HC.out]; rfl, _, by rw [HC.out]; exact left_then HB4.out (Below.refl _ _).drew⟩
      | some k =>
        obtain ⟨hk, _⟩ := spot_some hs
        have HC := Lib.hid (getN_good HK.out HNI.out hs hk)
        have HX := Lib.hid (texts_some hs hk)
        have hxl := H.out.short _ (List.getElem_mem hk)
        clear hin hs hhd
        generalize s.l[k] = x at HC HX hxl
        have HTK := Lib.hid (comes_take x)
        have hle := comes_le x
        have HV : Hid (textV x = .agg #[.string ⟨x.t.toArray⟩, .int .i64 (comesN x).length]) := rfl
        generalize comesN x = y at HC HTK hle HV
        generalize textV x = tv at HX HV
        obtain ⟨xu, xt, xc⟩ := x
        simp only at hxl hle
        have e1 : ({ data := xt.toArray } : ByteArray).extract 0 y.length = ⟨y.toArray⟩ := by rw [extract_to xt y.length]; exact congrArg (fun l : List UInt8 => (⟨l.toArray⟩ : ByteArray)) HTK.out
        have hle' : (y.length : Int) ≤ (xt.length : Int) := by omega
        go_wp2_with (at_lookup; first
          | (refine wpList_look rfl _ _ 107 rfl 9 200 Tryz.underlying9 Tryz.underlying107 (zero_unit _) bo _ _ rfl HO.out hh rfl (by omega) (.agg #[]) false (by rw [HF.out]; rfl) (by rw [HF.out]; rfl) ?_)
          | (refine wpList_look rfl _ _ 106 rfl 9 195 Tryz.underlying9 Tryz.underlying106 (zero_text _) bt _ _ rfl (HT.out.alloc _) u rfl (by omega) (.agg #[.string ⟨xt.toArray⟩, .int .i64 y.length]) true (by rw [HX.out, HV.out]; rfl) (by rw [HX.out]; rfl) ?_))
        go_ret2
        exact ⟨by rw [HC.out]; rfl, _, by rw [HC.out]; exact left_then (left_then HL.out.1 ((Below.refl _ _).alloc (Nat.le_refl _) _)) ((Below.refl _ _).alloc (Nat.le_refl _) _)⟩

/-- The program's net keeps what the laws' walks ask of one. -/
theorem netProg (p : Nat → Addr) : NetProg p ProgAt where
  lt := ProgAt.lt
  keep := ProgAt.keep
  new := netNew_any
  put := fun w nb S s u t h hE _ hu ht => netPut_any p w nb S s u t h hE hu ht
  host := fun w nb S s u on h hE ho hu => netHost_any p w nb S s u on h hE ho hu
  cut := fun w nb S s u k h hE hu => netCut_any p w nb S s u k h hE hu
  get := fun w nb S s u h hE hc hu => netGet_any p w nb S s u h hE hc hu
  calls := netCalls_any
end Go.Proofs.YtmcfkoenpikldaaGreatDoor
