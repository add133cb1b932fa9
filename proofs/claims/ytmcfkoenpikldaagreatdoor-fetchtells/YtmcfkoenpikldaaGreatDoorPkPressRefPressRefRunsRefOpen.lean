/-
  Own texts of the proof, joined by program: PkPress, RefPress, RefRuns, RefOpen.
-/
import Derived.Test.YtmcfkoenpikldaaGreatDoorPkTimesPkEachPkSize
import Derived.Test.YtmcfkoenpikldaaGreatDoorWrittenWrittenByte
import Derived.Test.YtmcfkoenpikldaaGreatDoorDigitsReadPurePressPureSumPure
import Derived.Deep.LoopGhost
import Derived.Test.YtmcfkoenpikldaaGreatDoorRefDigitsRefSumPkSumSumEnv
import Derived.Deep.RegionHeld3
import Derived.Deep.RegionWith
import Derived.Deep.CutBlock
import Derived.Deep.Onto
import Derived.Laws.BytesArg
import Derived.Lib.Builder
/-
  Package press: eachRun, with the function that Press hands it, and Press: contracts, over this seat's translation.
-/
namespace Go.Proofs.YtmcfkoenpikldaaGreatDoor
open Go.RowKit Go.Shelf

theorem grown_below (w : World) (k : Nat) (os : Array Obj) : Below w.heap.size w (Go.Sort.grow (w.drewN k) os) :=
  ⟨rfl, rfl, rfl, by simp [Go.Sort.grow, World.drewN], fun k hk => by simp [Go.Sort.grow, World.drewN, Array.getElem?_append_left hk]⟩
theorem itoaT_any (n : Nat) (w : World) (hn : n < 9223372036854775808) (htab : Lib.TabIs Tryz.prog w "internal/strconv.uint64pow10" .u64 Lib.pow10Tab) :
    Calls Tryz.prog 140 #[.int .i64 n] w fun e w' => e = .returned (.string ⟨(digitsL n).toArray⟩) ∧ Below w.heap.size w w' :=
  (Tryz.strconv_Itoa n (by omega) (by omega) w htab).mono fun e w' ⟨h1, k, os, h2⟩ => ⟨by rw [h1, Lib.itoa_nonneg, itoa_digits], by rw [h2]; exact grown_below w k os⟩

/-- The table of powers of ten. -/
def Tab (w : World) : Prop := Lib.TabIs Tryz.prog w "internal/strconv.uint64pow10" .u64 Lib.pow10Tab
theorem Tryz.gPowT : Tryz.prog.globalNamed "internal/strconv.uint64pow10" = some 15 := by kernel_rfl
theorem Tab.lt {w : World} (h : Tab w) : 15 < w.heap.size := by
  unfold Tab Lib.TabIs World.var? at h
  rw [Tryz.gPowT] at h
  simp only [Option.bind_some] at h
  rcases Nat.lt_or_ge 15 w.heap.size with h' | h'
  · exact h'
  · rw [Array.getElem?_eq_none h'] at h; cases h
theorem Tab.to {n : Nat} {w w' : World} (h : Tab w) (hb : Below n w w') (hn : 15 < n) : Tab w' := by
  unfold Tab Lib.TabIs World.var? at h ⊢
  rw [Tryz.gPowT] at h ⊢
  simp only [Option.bind_some] at h ⊢
  rw [hb.block _ hn]
  exact h
theorem Tab.below {w w' : World} (h : Tab w) (hb : Below w.heap.size w w') : Tab w' := h.to hb h.lt

theorem run_off {r : List UInt8} {b : UInt8} {t : Nat} (h1 : 1 ≤ t) (htk : r.take t = List.replicate t b) (hn : r[t]? ≠ some b) : runs r = (t, b) :: runs (r.drop t) := by
  obtain ⟨k, rfl⟩ : ∃ k, t = k + 1 := ⟨t - 1, by omega⟩
  conv => lhs; rw [← List.take_append_drop (k + 1) r, htk]
  exact runs_rep k b _ (by rw [List.head?_drop]; exact hn)

theorem take_one {r : List UInt8} {b : UInt8} (h : r[0]? = some b) : r.take 1 = List.replicate 1 b := by
  cases r with
  | nil => cases h
  | cons x y => simp at h; simp [h]
theorem rep_more {r : List UInt8} {b : UInt8} {t : Nat} (h : t < r.length) (hc : r[t] = b) (ht : r.take t = List.replicate t b) : r.take (t + 1) = List.replicate (t + 1) b := by
  rw [List.take_add_one, List.getElem?_eq_getElem h, ht, hc, List.replicate_succ']
  rfl

theorem runs_few (s : List UInt8) : (runs s).length ≤ s.length := by
  induction s with
  | nil => simp [runs]
  | cons b r ih =>
    show (putRun b (runs r)).length ≤ _
    cases h : runs r with
    | nil => simp [putRun]
    | cons x l =>
      obtain ⟨n, c⟩ := x
      rw [h] at ih
      unfold putRun
      simp only
      split <;> simp_all <;> omega
theorem write_bound {l : List (Nat × UInt8)} (h : ∀ r ∈ l, r.1 ≤ 999999999) : (writeL l).length ≤ 11 * l.length := by
  induction l with
  | nil => simp [writeL]
  | cons r l ih =>
    have i := ih fun x hx => h x (by simp [hx])
    have hd := digits_length 8 r.1 (by have := h r (by simp); omega)
    rw [writeL_cons, List.length_append, List.length_cons]
    have : (runL r).length = (digitsL r.1).length + 2 := by simp [runL]
    omega
theorem runs_part {s : List UInt8} {d tl : List (Nat × UInt8)} {n : Nat} {b : UInt8} (h : runs s = d ++ (n, b) :: tl) (hs : s.length ≤ 999999999) : (writeL d).length ≤ 11 * s.length ∧ n ≤ 999999999 := by
  have h1 := runs_few s
  have h2 : d.length ≤ s.length := by rw [h, List.length_append] at h1; omega
  have h3 := write_bound (l := d) fun r hr => by have := runs_mem (s := s) (r := r) (by rw [h]; simp [hr]); omega
  have h4 := runs_mem (s := s) (r := (n, b)) (by rw [h]; simp)
  simp only at h4
  omega

end Go.Proofs.YtmcfkoenpikldaaGreatDoor
/-
  The document's answer for pressed texts: PressOf: over this seat's translation.
-/
namespace Go.Proofs.YtmcfkoenpikldaaGreatDoor
open Go.RowKit Go.Shelf

theorem adds3 (a d c : List UInt8) (ha : a.length ≤ 100000) (hd : d.length ≤ 20) (hc : c.length ≤ 1) : ∃ x1 x2 x3 : List UInt8,
    (∀ W, (Op.stringOp .add ⟨a.toArray⟩ ⟨d.toArray⟩).run Tryz.prog W = .ok (.string ⟨x1.toArray⟩) W) ∧ (∀ W, (Op.stringOp .add ⟨x1.toArray⟩ ⟨#[58]⟩).run Tryz.prog W = .ok (.string ⟨x2.toArray⟩) W) ∧
    (∀ W, (Op.stringOp .add ⟨x2.toArray⟩ ⟨c.toArray⟩).run Tryz.prog W = .ok (.string ⟨x3.toArray⟩) W) ∧ x3 = a ++ d ++ [58] ++ c :=
  ⟨a ++ d, a ++ d ++ [58], a ++ d ++ [58] ++ c, fun W => run_string_add_lists (P := Tryz.prog) W a d (by omega) (by omega), fun W => run_string_add_lists (P := Tryz.prog) W _ [58] (by simp; omega) (by simp),
    fun W => run_string_add_lists (P := Tryz.prog) W _ c (by simp; omega) (by omega), rfl⟩
theorem rep_snoc (m : Nat) (c : UInt8) (r : List UInt8) : List.replicate m c ++ c :: r = List.replicate (m + 1) c ++ r := by
  rw [List.replicate_succ', List.append_assoc]
  rfl
theorem extract_one {l : List UInt8} {i : Nat} (h : i < l.length) : ({ data := l.toArray } : ByteArray).extract i (i + 1) = ⟨[l[i]].toArray⟩ := by
  apply ByteArray.ext
  simp
  rw [List.drop_eq_getElem_cons h]
  rfl

end Go.Proofs.YtmcfkoenpikldaaGreatDoor
/-
  The document's answer for pressed texts: RunsOf, SizeOf: over this seat's translation.
-/
namespace Go.Proofs.YtmcfkoenpikldaaGreatDoor
open Go.RowKit Go.Shelf

/-- Runs as they lie in memory: two cells each. -/
def rcells (l : List (Nat × UInt8)) : List Value := l.flatMap fun r => [.int .i64 (r.1 : Int), .int .u8 (r.2.toNat : Int)]
theorem rcells_length (l : List (Nat × UInt8)) : (rcells l).length = l.length * 2 := by
  induction l with
  | nil => rfl
  | cons r l ih => simp only [rcells, List.flatMap_cons, List.length_append, List.length_cons, List.length_nil] at ih ⊢; omega
theorem rcells_app (a b : List (Nat × UInt8)) : rcells (a ++ b) = rcells a ++ rcells b := by simp [rcells]
theorem rcells_at : ∀ (l : List (Nat × UInt8)) (k : Nat) (h : k < l.length), (rcells l)[k * 2]? = some (.int .i64 (l[k].1 : Int)) ∧ (rcells l)[k * 2 + 1]? = some (.int .u8 (l[k].2.toNat : Int))
  | [], k, h => by simp at h
  | r :: l, 0, _ => ⟨rfl, rfl⟩
  | r :: l, k + 1, h => by
    have ih := rcells_at l k (by simpa using h)
    have e : rcells (r :: l) = [.int .i64 (r.1 : Int), .int .u8 (r.2.toNat : Int)] ++ rcells l := by simp [rcells]
    rw [e, List.getElem?_append_right (by simp; omega), List.getElem?_append_right (by simp; omega)]
    have e1 : (k + 1) * 2 - [Value.int .i64 (r.1 : Int), .int .u8 (r.2.toNat : Int)].length = k * 2 := by simp; omega
    have e2 : (k + 1) * 2 + 1 - [Value.int .i64 (r.1 : Int), .int .u8 (r.2.toNat : Int)].length = k * 2 + 1 := by simp; omega
    rw [e1, e2]
    exact ih
/-- Runs that lie from an address on. -/
def RLies (w : World) (a : Option Addr) (l : List (Nat × UInt8)) : Prop := l ≠ [] → ∃ b o, a = some ⟨b, o, none⟩ ∧ ∀ k (h : k < l.length), w.cell? ⟨b, o + k * 2, none⟩ = some (.int .i64 (l[k].1 : Int)) ∧ w.cell? ⟨b, o + k * 2 + 1, none⟩ = some (.int .u8 (l[k].2.toNat : Int))
theorem RLies.at {w : World} {a : Option Addr} {l : List (Nat × UInt8)} {k : Nat} (h : RLies w a l) (hk : k < l.length) : ∃ b o, a = some ⟨b, o, none⟩ ∧ w.cell? ⟨b, o + k * 2, none⟩ = some (.int .i64 (l[k].1 : Int)) ∧ w.cell? ⟨b, o + k * 2 + 1, none⟩ = some (.int .u8 (l[k].2.toNat : Int)) := by
  obtain ⟨b, o, rfl, hc⟩ := h (fun e => by rw [e] at hk; simp at hk)
  exact ⟨b, o, rfl, (hc k hk).1, (hc k hk).2⟩
theorem RLies.below {w w' : World} {a : Option Addr} {l : List (Nat × UInt8)} (h : RLies w a l) (hb : Below w.heap.size w w') : RLies w' a l := fun hl => by
  obtain ⟨b, o, rfl, hc⟩ := h hl
  exact ⟨b, o, rfl, fun k hk => ⟨(hb.cell (p := ⟨b, o + k * 2, none⟩) (block_lt_of_cell (hc k hk).1)).trans (hc k hk).1, (hb.cell (p := ⟨b, o + k * 2 + 1, none⟩) (block_lt_of_cell (hc k hk).2)).trans (hc k hk).2⟩⟩
theorem rowns_lies {w : World} {base : Nat} {v : Value} {l : List (Nat × UInt8)} (h : w.ownsRow base 293 2 v l.length (rcells l)) :
    ∃ a cap, v = .slice a l.length cap ∧ RLies w a l ∧ l.length ≤ cap := by
  rcases h.2 with ⟨rfl, hn⟩ | ⟨g, cap, cur, rfl, _, hg, hcap, hm, hsz, htk⟩
  · have e : l = [] := List.length_eq_zero_iff.1 hn
    subst e
    exact ⟨none, 0, rfl, fun h => absurd rfl h, by simp⟩
  · refine ⟨some ⟨g, 0, none⟩, cap, rfl, fun _ => ⟨g, 0, rfl, fun k hk => ?_⟩, hcap⟩
    have hc : ∀ j, j < l.length * 2 → w.cell? ⟨g, 0 + j, none⟩ = (rcells l)[j]? := fun j hj => by
      rw [← htk, List.getElem?_take_of_lt (by omega)]
      simp [World.cell?, hg]
    have h2 := rcells_at l k hk
    refine ⟨?_, ?_⟩
    · rw [← h2.1, ← hc (k * 2) (by omega)]
    · rw [← h2.2, ← hc (k * 2 + 1) (by omega)]
      rfl
theorem rowns_keep {w w' : World} {base : Nat} {e : TypeId} {size : Nat} {v : Value} {n : Nat} {xs : List Value} (h : w.ownsRow base e size v n xs) (hk : ∀ g, base ≤ g → g < w.heap.size → w'.heap[g]? = w.heap[g]?) : w'.ownsRow base e size v n xs := by
  refine ⟨h.1, ?_⟩
  rcases h.2 with h0 | ⟨g, cap, cur, hv, hg, hh, h1, h2, h3, h4⟩
  · exact .inl h0
  · exact .inr ⟨g, cap, cur, hv, hg, by rw [hk g hg (Array.getElem?_eq_some_iff.1 hh).1]; exact hh, h1, h2, h3, h4⟩
theorem rowns_below {w w' : World} {base : Nat} {e : TypeId} {size : Nat} {v : Value} {n : Nat} {xs : List Value} (h : w.ownsRow base e size v n xs) (hb : Below w.heap.size w w') : w'.ownsRow base e size v n xs :=
  rowns_keep h fun g _ hg => hb.block g hg
theorem rowns_slot {w : World} {b : Nat} {e : TypeId} {size : Nat} {v : Value} {n : Nat} {xs : List Value} (x y : Value) (h : w.ownsRow (b + 1) e size v n xs) : ((w.setCell ⟨b, 0, none⟩ x).setCell ⟨b, 1, none⟩ y).ownsRow b e size v n xs :=
  (rowns_keep h fun g hg _ => (Below.heap_setCell _ _ _ _ (by show g ≠ b; omega)).trans (Below.heap_setCell _ _ _ _ (by show g ≠ b; omega))).mono (Nat.le_succ _)
theorem fineOf_any (w : World) : Calls Tryz.prog 98 #[] w fun e w' => e = .returned (.agg #[.int .i64 0, .int .i64 (-1)]) ∧ Below w.heap.size w w' := by
  go_enter Tryz.func98, Tryz.ntmps98
  go_wp2
  exact bodyPost_ret (v := .agg #[.int .i64 0, .int .i64 (-1)]) (by simp [results, Tryz.results98, go_sem]) rfl ⟨rfl, (Below.refl _ _).alloc (Nat.le_refl _) _⟩
theorem bareOf_any (c : Int) (w : World) : Calls Tryz.prog 73 #[.int .i64 c] w fun e w' => e = .returned (.agg #[.int .i64 c, .int .i64 (-1)]) ∧ Below w.heap.size w w' := by
  go_enter Tryz.func73, Tryz.ntmps73
  go_wp2
  exact bodyPost_ret (v := .agg #[.int .i64 c, .int .i64 (-1)]) (by simp [results, Tryz.results73, go_sem]) rfl ⟨rfl, (Below.refl _ _).alloc (Nat.le_refl _) _⟩
theorem Tryz.infoRun : (Tryz.prog.info? 293).map (fun i => (i.zero, i.size, i.bytes)) = some (some (.agg #[.int .i64 0, .int .u8 0]), 2, 16) := by kernel_rfl

theorem bad_of {l : List UInt8} {n k : Nat} (h : l ≠ []) (hs : scan 0 0 l = (n, k)) (hb : k = 0 ∨ (l.drop k).head? ≠ some 58) : readL l = ([], some k) := by
  have := readL_bad h (by rw [hs]; exact hb)
  rwa [hs] at this
theorem short_of {l : List UInt8} {n k : Nat} (h : l ≠ []) (hs : scan 0 0 l = (n, k)) (h0 : k ≠ 0) (hc : (l.drop k).head? = some 58) (hl : l.length = k + 1) : readL l = ([], some (k + 1)) := by
  have := readL_short h (by rw [hs]; exact h0) (by rw [hs]; exact hc) (by rw [hs]; exact hl)
  rwa [hs] at this
theorem more_of {l : List UInt8} {n k : Nat} (h : l ≠ []) (hs : scan 0 0 l = (n, k)) (h0 : k ≠ 0) (hc : (l.drop k).head? = some 58) (hl : l.length ≠ k + 1) : readL l = ((n, l.getD (k + 1) 0) :: (readL (l.drop (k + 2))).1, (readL (l.drop (k + 2))).2.map (· + (k + 2))) := by
  have := readL_more h (by rw [hs]; exact h0) (by rw [hs]; exact hc) (by rw [hs]; exact hl)
  rwa [hs] at this
theorem head_at {s : List UInt8} {j : Nat} (h : j < s.length) : (s.drop j).head? = some s[j] := by rw [List.head?_drop, List.getElem?_eq_getElem h]
theorem run_new (w : World) (n : Nat) (b : UInt8) (T : TypeId) : ∀ j u, ([.int .i64 (n : Int), .int .u8 (b.toNat : Int)] : List Value)[j]? = some u → (w.alloc (.cells #[.int .i64 (n : Int), .int .u8 (b.toNat : Int)] T)).cell? ((⟨w.heap.size, 0, none⟩ : Addr).add j) = some u := by
  intro j u h
  have hn := heap_new w (.cells #[.int .i64 (n : Int), .int .u8 (b.toNat : Int)] T)
  have hc : ∀ k, (w.alloc (.cells #[.int .i64 (n : Int), .int .u8 (b.toNat : Int)] T)).cell? ⟨w.heap.size, k, none⟩ = #[.int .i64 (n : Int), .int .u8 (b.toNat : Int)][k]? := fun k => by
    unfold World.cell?
    rw [hn]
    rfl
  rcases j with _ | _ | j
  · exact (hc 0).trans h
  · exact (hc (0 + 1)).trans h
  · simp at h

set_option maxRecDepth 100000 in
set_option maxHeartbeats 8000000 in
theorem runsOf_any (s : List UInt8) (w : World) (hs : s.length ≤ 1000000) :
    Calls Tryz.prog 229 #[.string ⟨s.toArray⟩] w fun e w' => (∃ v, e = .returned (.tuple #[v, .agg #[.int .i64 (placeE (readL s).2).1, .int .i64 (placeE (readL s).2).2]]) ∧ w'.ownsRow w.heap.size 293 2 v (runsS s).length (rcells (runsS s))) ∧ Below w.heap.size w w' := by
  obtain ⟨i0, hi0, hz0, hz1, hz2⟩ := info_parts Tryz.infoRun
  go_enter Tryz.func229, Tryz.ntmps229
  go_wp2_with fail
  go_loopg [4, 5] (s.length) (fun gf ov iv wr => ∃ (i : Nat) (d : List (Nat × UInt8)), s.length - i ≤ gf ∧ i ≤ s.length ∧ 3 * d.length ≤ i ∧ iv = .int .i64 (i : Int) ∧ readL s = (d ++ (readL (s.drop i)).1, (readL (s.drop i)).2.map (· + i)) ∧ wr.ownsRow (w.heap.size + 1) 293 2 ov d.length (rcells d) ∧ Below (w.heap.size + 1) (w.alloc (.cells #[.int .i64 0, .int .i64 0] 50)) wr)
  case atStart => exact ⟨0, [], by omega, by omega, by simp, rfl, by simp, World.ownsRow_nil _ _ _ _, Below.refl _ _⟩
  case round =>
    obtain ⟨i, d, hgf, hi, hdi, rfl, hr, hrow, hb⟩ := hrel
    have HR := Lib.hid hr
    have HB := Lib.hid hb
    have HO := Lib.hid hrow
    clear hr hb hrow
    by_cases hlt : i < s.length
    · have hlt' : (i : Int) < (s.length : Int) := by omega
      go_upto_block 2 with fail
      go_cut [6, 7] from 8 to 89 (fun nv kv wx => ∃ n k j : Nat, j = i + k ∧ k ≤ 9 ∧ j ≤ s.length ∧ scan 0 0 (s.drop i) = (n, k) ∧ nv = .int .i64 (n : Int) ∧ kv = .int .i64 (j : Int) ∧ wx = wr)
      case first =>
        go_wp2_with fail
        go_loopg [6, 7] (s.length) (fun gq nv kv wq => ∃ k n j : Nat, s.length - j ≤ gq ∧ j = i + k ∧ k ≤ 9 ∧ j ≤ s.length ∧ scan k n (s.drop j) = scan 0 0 (s.drop i) ∧ Digs k n ∧ nv = .int .i64 (n : Int) ∧ kv = .int .i64 (j : Int) ∧ wq = wr)
        case atStart => exact ⟨0, 0, i, by omega, rfl, by omega, by omega, rfl, digs_zero, rfl, rfl, rfl⟩
        case round =>
          obtain ⟨k, n, j, hgq, hj, hk, hik, hsc, hdg, rfl, rfl, hbq⟩ := hrel
          subst hbq
          have hn := digs_bound hdg hk
          have HG := Lib.hid hdg
          have HJ := Lib.hid hj
          have HS := Lib.hid hsc
          have hj0 : (i : Int) ≤ (j : Int) := by omega
          clear hdg hsc
          by_cases hjl : j < s.length
          · have HD := Lib.hid (drop_at hjl)
            have hjs : j < ({ data := s.toArray } : ByteArray).size := by simp [ByteArray.size]; omega
            obtain ⟨b, hb⟩ : ∃ b, s[j] = b := ⟨_, rfl⟩
            have hbj : ({ data := s.toArray } : ByteArray)[j]'hjs = b := hb
            rw [hb] at HD
            clear hb
            by_cases hk9 : k < 9
            · have hk9' : (j : Int) - (i : Int) < 9 := by omega
              by_cases hgo : isDigit b = true ∧ ¬ (k = 0 ∧ b = 48)
              · obtain ⟨hd, hz⟩ := hgo
                have HN : Hid (scan (k + 1) (10 * n + (b.toNat - 48)) (s.drop (j + 1)) = scan 0 0 (s.drop i)) := by
                  show _ = _
                  rw [← HS.out, HD.out, scan_go ⟨hk9, hd, hz⟩]
                have HG2 := Lib.hid (digs_go HG.out hd hz)
                have hsub := sub_digit hd
                have hbd := digit_le hd
                have hlo : decide ((b.toNat : Int) < 48) = false := by simp; omega
                have hhi : decide ((57 : Int) < (b.toNat : Int)) = false := by simp; omega
                have hnz : ((j : Int) = (i : Int) ∧ ((b.toNat : Int) == 48) = false) ∨ ((j : Int) == (i : Int)) = false := by
                  by_cases hk0 : k = 0
                  · refine Or.inl ⟨by omega, ?_⟩
                    simp
                    exact fun e => hz ⟨hk0, UInt8.toNat_inj.1 (by show b.toNat = 48; omega)⟩
                  · exact Or.inr (by simp; omega)
                obtain ⟨g2, rfl⟩ : ∃ g2, gk = g2 + 1 := ⟨gk - 1, by omega⟩
                clear HS HG hz
                rcases hnz with ⟨hji, h48⟩ | hji
                · obtain rfl : j = i := by omega
                  clear hji hj
                  go_wp2
                  go_roundg g2
                  case measure => omega
                  case rel => exact ⟨k + 1, 10 * n + (b.toNat - 48), j + 1, by omega, by have := HJ.out; omega, by omega, by omega, HN.out, HG2.out, by go_num, by go_num, rfl⟩
                · clear hj
                  go_wp2
                  go_roundg g2
                  case measure => omega
                  case rel => exact ⟨k + 1, 10 * n + (b.toNat - 48), j + 1, by omega, by have := HJ.out; omega, by omega, by omega, HN.out, HG2.out, by go_num, by go_num, rfl⟩
              · have HR2 : Hid (scan 0 0 (s.drop i) = (n, k)) := by
                  show scan 0 0 (s.drop i) = _
                  rw [← HS.out, HD.out, scan_end (fun h => hgo h.2)]
                clear HS HG HD
                by_cases hlo : b.toNat < 48
                · have hlo' : (b.toNat : Int) < 48 := by omega
                  clear hj
                  go_wp2
                  go_meet
                  case rel => exact ⟨n, k, j, HJ.out, hk, hik, HR2.out, rfl, rfl, rfl⟩
                · have hlo' : decide ((b.toNat : Int) < 48) = false := by simp; omega
                  by_cases hhi : 57 < b.toNat
                  · have hhi' : (57 : Int) < (b.toNat : Int) := by omega
                    clear hj
                    go_wp2
                    go_meet
                    case rel => exact ⟨n, k, j, HJ.out, hk, hik, HR2.out, rfl, rfl, rfl⟩
                  · have hhi' : decide ((57 : Int) < (b.toNat : Int)) = false := by simp; omega
                    have hkb : k = 0 ∧ b = 48 := by
                      rcases Decidable.em (k = 0 ∧ b = 48) with h | h
                      · exact h
                      · exact absurd ⟨by simp [isDigit]; omega, h⟩ hgo
                    obtain ⟨rfl, rfl⟩ := hkb
                    obtain rfl : j = i := by omega
                    clear hj
                    go_wp2
                    go_meet
                    case rel => exact ⟨n, 0, j, rfl, hk, hik, HR2.out, rfl, rfl, rfl⟩
            · have hk9' : ¬ (j : Int) - (i : Int) < 9 := by omega
              have HR2 : Hid (scan 0 0 (s.drop i) = (n, k)) := by
                show scan 0 0 (s.drop i) = _
                rw [← HS.out, HD.out, scan_end (fun h => hk9 h.1)]
              clear HS HG HD hj
              go_wp2
              go_meet
              case rel => exact ⟨n, k, j, HJ.out, hk, hik, HR2.out, rfl, rfl, rfl⟩
          · have HR2 : Hid (scan 0 0 (s.drop i) = (n, k)) := by
              show scan 0 0 (s.drop i) = _
              rw [← HS.out, List.drop_eq_nil_of_le (by omega)]
              rfl
            clear HS HG hj
            go_wp2
            go_meet
            case rel => exact ⟨n, k, j, HJ.out, hk, hik, HR2.out, rfl, rfl, rfl⟩
      case rest =>
        obtain ⟨n, k, j, hj, hk, hjl, hsc, rfl, rfl, rfl⟩ := hcut
        have hne : s.drop i ≠ [] := fun e => by have := congrArg List.length e; simp at this; omega
        have hdl : (s.drop i).length = s.length - i := List.length_drop
        have hdd : (s.drop i).drop k = s.drop j := by rw [List.drop_drop, hj]
        have hdg := scan_digs (s.drop i) 0 0 digs_zero
        rw [hsc] at hdg
        have hn := digs_bound hdg hk
        obtain ⟨t0, t1, y0, y1, tb⟩ := slot_two HB.out
        have HNE := Lib.hid hne
        have HSC := Lib.hid hsc
        have HDD := Lib.hid hdd
        have HJ := Lib.hid hj
        clear hne hsc hdd hdg
        by_cases hbad : j = i ∨ j = s.length ∨ s[j]? ≠ some 58
        · have HR3 := Lib.hid (read_bad HR.out (bad_of HNE.out HSC.out (by
            rcases hbad with h | h | h
            · exact Or.inl (by omega)
            · exact Or.inr (by rw [HDD.out, List.drop_eq_nil_of_le (by omega)]; simp)
            · exact Or.inr (by rw [HDD.out, List.head?_drop]; exact h))))
          have HX : Hid (placeE (readL s).2 = (1, (j : Int))) := by
            show placeE (readL s).2 = _
            rw [HR3.out, HJ.out]
            rfl
          have HT : Hid (runsS s = []) := runsS_some (by rw [HR3.out])
          clear HR3 HR hj
          by_cases hji : j = i
          · subst hji
            go_wp2
            obtain ⟨q0, q1, q2⟩ := slot_set (w := w) (.int .i64 1) (.int .i64 j) t0 t1 tb
            exact bodyPost_ret (v := .tuple #[.slice none 0 0, .agg #[.int .i64 1, .int .i64 j]]) (by simp [results, Tryz.results229, go_sem, q0, q1]) rfl ⟨⟨_, by rw [HX.out]; rfl, by rw [HT.out]; exact World.ownsRow_nil _ _ _ _⟩, q2⟩
          · have hji' : ((j : Int) == (i : Int)) = false := by simp; omega
            by_cases hjs : j = s.length
            · have hjs' : (j : Int) = (s.length : Int) := by omega
              subst hjs
              go_wp2
              obtain ⟨q0, q1, q2⟩ := slot_set (w := w) (.int .i64 1) (.int .i64 s.length) t0 t1 tb
              exact bodyPost_ret (v := .tuple #[.slice none 0 0, .agg #[.int .i64 1, .int .i64 s.length]]) (by simp [results, Tryz.results229, go_sem, q0, q1]) rfl ⟨⟨_, by rw [HX.out]; rfl, by rw [HT.out]; exact World.ownsRow_nil _ _ _ _⟩, q2⟩
            · have hjs' : ((j : Int) == (s.length : Int)) = false := by simp; omega
              have hjlt : j < s.length := by omega
              have hjz : j < ({ data := s.toArray } : ByteArray).size := by simp [ByteArray.size]; omega
              obtain ⟨b, hb⟩ : ∃ b, s[j] = b := ⟨_, rfl⟩
              have hbj : ({ data := s.toArray } : ByteArray)[j]'hjz = b := hb
              have hb58 : ¬ (b.toNat : Int) = 58 := by
                intro e
                rcases hbad with h | h | h
                · exact hji h
                · exact hjs h
                · exact h (by rw [List.getElem?_eq_getElem hjlt, hb]; exact congrArg some (UInt8.toNat_inj.1 (by show b.toNat = 58; omega)))
              clear hb hbad
              go_wp2
              obtain ⟨q0, q1, q2⟩ := slot_set (w := w) (.int .i64 1) (.int .i64 j) t0 t1 tb
              exact bodyPost_ret (v := .tuple #[.slice none 0 0, .agg #[.int .i64 1, .int .i64 j]]) (by simp [results, Tryz.results229, go_sem, q0, q1]) rfl ⟨⟨_, by rw [HX.out]; rfl, by rw [HT.out]; exact World.ownsRow_nil _ _ _ _⟩, q2⟩
        · have hji : j ≠ i := fun h => hbad (Or.inl h)
          have hjs : j ≠ s.length := fun h => hbad (Or.inr (Or.inl h))
          have h58 : s[j]? = some 58 := by
            rcases Decidable.em (s[j]? = some 58) with h | h
            · exact h
            · exact absurd (Or.inr (Or.inr h)) hbad
          have hji' : ((j : Int) == (i : Int)) = false := by simp; omega
          have hjs' : ((j : Int) == (s.length : Int)) = false := by simp; omega
          have hjlt : j < s.length := by omega
          have hjz : j < ({ data := s.toArray } : ByteArray).size := by simp [ByteArray.size]; omega
          have hbj : ((({ data := s.toArray } : ByteArray)[j]'hjz).toNat : Int) = 58 := by
            rw [List.getElem?_eq_getElem hjlt] at h58
            have : s[j] = 58 := Option.some.inj h58
            show ((s[j]).toNat : Int) = 58
            rw [this]
            rfl
          have hk0 : k ≠ 0 := by omega
          have hhd : ((s.drop i).drop k).head? = some 58 := by rw [HDD.out, List.head?_drop]; exact h58
          have HK0 := Lib.hid hk0
          have HHD := Lib.hid hhd
          clear hk0 hhd hbad h58
          by_cases hend : j + 1 = s.length
          · have HR3 := Lib.hid (read_bad HR.out (short_of HNE.out HSC.out HK0.out HHD.out (by omega)))
            have HX : Hid (placeE (readL s).2 = (1, (s.length : Int))) := by
              show placeE (readL s).2 = _
              rw [HR3.out, ← Nat.add_assoc, ← HJ.out, hend]
              rfl
            have HT : Hid (runsS s = []) := runsS_some (by rw [HR3.out])
            have hend' : (j : Int) + 1 = (s.length : Int) := by omega
            clear HR3 HR hj hend
            go_wp2
            obtain ⟨q0, q1, q2⟩ := slot_set (w := w) (.int .i64 1) (.int .i64 s.length) t0 t1 tb
            exact bodyPost_ret (v := .tuple #[.slice none 0 0, .agg #[.int .i64 1, .int .i64 s.length]]) (by simp [results, Tryz.results229, go_sem, q0, q1]) rfl ⟨⟨_, by rw [HX.out]; rfl, by rw [HT.out]; exact World.ownsRow_nil _ _ _ _⟩, q2⟩
          · have hend' : ((j : Int) + 1 == (s.length : Int)) = false := by simp; omega
            have hj1 : j + 1 < s.length := by omega
            have hj1z : j + 1 < ({ data := s.toArray } : ByteArray).size := by simp [ByteArray.size]; omega
            obtain ⟨b, hb⟩ : ∃ b, s[j + 1] = b := ⟨_, rfl⟩
            have hbj1 : ({ data := s.toArray } : ByteArray)[j + 1]'hj1z = b := hb
            have HR3 := Lib.hid (read_on HR.out (more_of HNE.out HSC.out HK0.out HHD.out (by omega)))
            have hgb : (s.drop i).getD (k + 1) 0 = b := by
              have : i + (k + 1) = j + 1 := by omega
              rw [List.getD_eq_getElem?_getD, List.getElem?_drop, this, List.getElem?_eq_getElem hj1, hb]
              rfl
            rw [hgb, ← HJ.out] at HR3
            have hrow := HO.out
            have hbs : w.heap.size + 1 ≤ wc.heap.size := by have := HB.out.size; simpa using this
            clear HR hb hgb hj
            obtain ⟨g', rfl⟩ : ∃ g', gk = g' + 1 := ⟨gk - 1, by omega⟩
            go_wp2_with (at_builtin; refine wpList_append_own _ rfl _ _ 288 rfl (w.heap.size + 1) 293 i0 (.agg #[.int .i64 0, .int .u8 0]) 2 16 Tryz.underlying288 hi0 hz0 hz1 hz2 rfl (by decide) _ _ _ rfl (hrow.alloc _) ⟨wc.heap.size, 0, none⟩ 1 1 [.int .i64 (n : Int), .int .u8 (b.toNat : Int)] rfl rfl (run_new wc n b _) (by simp [Value.oneCell']) (by unfold maxLen; omega) (by omega) (by simp; omega) ?_; intro v' w2 hown' hgrow _)
            have HB2 : Below (w.heap.size + 1) (w.alloc (.cells #[.int .i64 0, .int .i64 0] 50)) w2 := (HB.out.alloc hbs _).grown hgrow (by simp; omega) (fun j ej => (hrow.lt j ej).1)
            have HO2 : w2.ownsRow (w.heap.size + 1) 293 2 v' (d ++ [(n, b)]).length (rcells (d ++ [(n, b)])) := by
              rw [rcells_app, List.length_append]
              simpa [rcells] using hown'
            have hjk := HJ.out
            have hk0 := HK0.out
            go_roundg g'
            case measure => omega
            case rel => exact ⟨j + 2, d ++ [(n, b)], by omega, by omega, by simp; omega, by go_num, HR3.out, HO2, HB2⟩
    · obtain rfl : i = s.length := by omega
      have HN : Hid (readL s = (d, none)) := by
        show readL s = _
        rw [HR.out, List.drop_length, readL_nil]
        simp
      have HX : Hid (placeE (readL s).2 = (0, -1)) := by
        show placeE (readL s).2 = _
        rw [HN.out]
        rfl
      have HT : Hid (runsS s = d) := (runsS_none (by rw [HN.out])).trans (by rw [HN.out])
      obtain ⟨av, cv, rfl, _, _⟩ := rowns_lies HO.out
      clear HR HN
      go_wp2_with fail
      refine (fineOf_any _).mono ?_
      rintro e w3 ⟨rfl, hb3⟩
      have hsz : w.heap.size + 1 ≤ wr.heap.size := by have := HB.out.size; simpa using this
      have HB3 : Below (w.heap.size + 1) (w.alloc (.cells #[.int .i64 0, .int .i64 0] 50)) w3 := HB.out.trans (hb3.mono hsz)
      have hrow3 := rowns_below HO.out hb3
      obtain ⟨t0, t1, y0, y1, tb⟩ := slot_two HB3
      clear hb3 HB3
      go_wp2
      obtain ⟨q0, q1, q2⟩ := slot_set (w := w) (.int .i64 0) (.int .i64 (-1)) t0 t1 tb
      exact bodyPost_ret (v := .tuple #[.slice av d.length cv, .agg #[.int .i64 0, .int .i64 (-1)]]) (by simp [results, Tryz.results229, go_sem, q0, q1]) rfl ⟨⟨_, by rw [HX.out]; rfl, by rw [HT.out]; exact rowns_slot _ _ hrow3⟩, q2⟩

set_option maxRecDepth 100000 in
theorem sizeOf_any (l : List (Nat × UInt8)) (a : Option Addr) (ca : Nat) (w : World) (hl : RLies w a l) (hb : 3 * sizeL l ≤ 1000000000000000) (hn : l.length ≤ 1000000) :
    Calls Tryz.prog 230 #[.slice a l.length ca] w fun e w' => e = .returned (.int .i64 (sizeL l)) ∧ w' = w := by
  have HL := Lib.hid hl
  clear hl
  go_enter Tryz.func230, Tryz.ntmps230
  go_wp2_with fail
  go_loopw [3, 4] (fun nv iv wr => ∃ q : Nat, q ≤ l.length ∧ iv = .int .i64 (q : Int) ∧ nv = .int .i64 (sizeL (l.take q) : Int) ∧ wr = w) (fun _ iv _ => l.length - (intOf iv).toNat)
  case atStart => exact ⟨0, by omega, rfl, rfl, rfl⟩
  case round =>
    obtain ⟨q, hq, rfl, rfl, hw⟩ := hrel
    subst hw
    by_cases hlt : q < l.length
    · have hlt' : (q : Int) < (l.length : Int) := by omega
      obtain ⟨b, o, rfl, c0, _⟩ := HL.out.at hlt
      have hts : sizeL (l.take (q + 1)) = sizeL (l.take q) + l[q].1 := by rw [List.take_succ_eq_append_getElem hlt, sizeL_snoc]
      have htl : sizeL (l.take (q + 1)) ≤ sizeL l := by
        conv => rhs; rw [← List.take_append_drop (q + 1) l, sizeL_app]
        omega
      have HTS := Lib.hid hts
      have hxm : sizeL (l.take q) + l[q].1 ≤ 1000000000000000 := by omega
      clear hts htl
      generalize sizeL (l.take q) = x at hxm HTS ⊢
      generalize l[q].1 = m at hxm c0 HTS
      go_wp2
      go_roundw
      case rel => exact ⟨q + 1, by omega, by go_num, by rw [HTS.out]; go_num, trivial⟩
      case measure => simp [intOf]; omega
    · obtain rfl : q = l.length := by omega
      rw [List.take_length]
      go_wp2
      go_ret
      exact ⟨rfl, rfl⟩
end Go.Proofs.YtmcfkoenpikldaaGreatDoor
/-
  The document's answer for pressed texts: OpenOf: over this seat's translation.
-/
namespace Go.Proofs.YtmcfkoenpikldaaGreatDoor
open Go.RowKit Go.Shelf

theorem conv_own {w : World} {base : Nat} {v : Value} {l : List UInt8} (h : w.ownsRow base 5 1 v l.length (Lib.byteCells l)) : ∃ a cap, v = .slice a l.length cap ∧ ∀ W : World, (∀ g, base ≤ g → W.heap[g]? = w.heap[g]?) → (convert 146 9 (.slice a l.length cap)).run Tryz.prog W = .ok (.string ⟨l.toArray⟩) W := by
  rcases h.2 with ⟨rfl, hn⟩ | ⟨g, cap, cur, rfl, hb, hg, hcap, hm, hsz, htk⟩
  · have e : l = [] := List.length_eq_zero_iff.1 hn
    subst e
    exact ⟨none, 0, rfl, fun W _ => run_convert_bytes_nil W 146 5 Tryz.underlying146 Tryz.underlying5 _ _ 9 Tryz.underlying9⟩
  · refine ⟨some ⟨g, 0, none⟩, cap, rfl, fun W hW => run_convert_bytes_back (P := Tryz.prog) W 146 9 5 ⟨g, 0, none⟩ cap l Tryz.underlying146 Tryz.underlying5 Tryz.underlying9 (fun j hj => ?_)⟩
    have hc : W.cell? ⟨g, 0 + j, none⟩ = (Lib.byteCells l)[j]? := by
      rw [← htk, List.getElem?_take_of_lt (by omega)]
      simp [World.cell?, hW g hb, hg]
    have e : (⟨g, 0, none⟩ : Addr).add j = ⟨g, 0 + j, none⟩ := by
      by_cases h : j = 0
      · subst h; rfl
      · simp [Addr.add, h]
    rw [e, hc]
    simp [Lib.byteCells, List.getElem?_eq_getElem hj]

theorem Tryz.infoByteO : (Tryz.prog.info? 5).map (fun i => (i.zero, i.size, i.bytes)) = some (some (.int .u8 0), 1, 1) := by kernel_rfl
theorem byte_new (w : World) (v : Value) (T : TypeId) : ∀ j u, ([v] : List Value)[j]? = some u → (w.alloc (.cells #[v] T)).cell? ((⟨w.heap.size, 0, none⟩ : Addr).add j) = some u := by
  intro j u h
  have hn := heap_new w (.cells #[v] T)
  have hc : ∀ k, (w.alloc (.cells #[v] T)).cell? ⟨w.heap.size, k, none⟩ = #[v][k]? := fun k => by
    unfold World.cell?
    rw [hn]
    rfl
  rcases j with _ | j
  · exact (hc 0).trans h
  · simp at h
theorem open_take {l : List (Nat × UInt8)} {q : Nat} (h : q < l.length) : openL (l.take (q + 1)) = openL (l.take q) ++ List.replicate l[q].1 l[q].2 := by
  rw [List.take_succ_eq_append_getElem h, openL_snoc]
theorem size_take {l : List (Nat × UInt8)} {q : Nat} (h : q < l.length) : sizeL (l.take q) + l[q].1 ≤ sizeL l := by
  have e : sizeL (l.take (q + 1)) = sizeL (l.take q) + l[q].1 := by rw [List.take_succ_eq_append_getElem h, sizeL_snoc]
  conv => rhs; rw [← List.take_append_drop (q + 1) l, sizeL_app]
  omega

set_option maxRecDepth 100000 in
set_option maxHeartbeats 8000000 in
theorem openOf_any (s : List UInt8) (most : Int) (w : World) (hs : s.length ≤ 300000) (hm : most ≤ 1000000000) :
    Calls Tryz.prog 180 #[.string ⟨s.toArray⟩, .int .i64 most] w fun e w' => e = .returned (.tuple #[.string ⟨(openS s most).1.toArray⟩, .agg #[.int .i64 (openS s most).2.1, .int .i64 (openS s most).2.2]]) ∧ Below w.heap.size w w' := by
  have hsb := size_runsS s
  go_enter Tryz.func180, Tryz.ntmps180
  go_wp2_with fail
  refine (runsOf_any s _ (by omega)).mono ?_
  rintro e w1 ⟨⟨v, rfl, hrow⟩, hb1⟩
  have HB1 := Lib.hid (hb1.mono (Nat.le_of_eq (show w.heap.size + 1 = _ by simp)))
  obtain ⟨av, cv, rfl, hl, hcv⟩ := rowns_lies hrow
  have HL := Lib.hid hl
  have hs1 : w.heap.size + 1 ≤ w1.heap.size := by have := hb1.size; simpa using this
  clear hrow hl hb1
  cases hr : (readL s).2 with
  | some k =>
    have HX := Lib.hid (openS_some most hr)
    have hp : placeE (some k) = (1, (k : Int)) := rfl
    rw [hp]
    clear hr hp
    obtain ⟨t0, t1, y0, y1, tb⟩ := slot_two (HB1.out.alloc hs1 (.cells #[.int .i64 1, .int .i64 k] 50))
    go_wp2
    go_region
    all_goals go_wp2
    all_goals
      obtain ⟨q0, q1, q2⟩ := slot_set (w := w) (.int .i64 1) (.int .i64 k) t0 t1 tb
      exact bodyPost_ret (v := .tuple #[.string ⟨#[]⟩, .agg #[.int .i64 1, .int .i64 k]]) (by simp [results, Tryz.results180, go_sem, q0, q1]) rfl ⟨by rw [HX.out]; rfl, q2.drew⟩
  | none =>
    have hp : placeE none = (0, -1) := rfl
    rw [hp]
    have HR := Lib.hid (runsS_none hr)
    have hfew := (read_few s.length s (Nat.le_refl _)).1
    rw [HR.out] at HL hsb hcv ⊢
    have HBF := Lib.hid (fun h => openS_full (most := most) hr h)
    have HBG := Lib.hid (fun h => openS_fine (most := most) hr h)
    generalize (readL s).1 = l at HL hsb hfew HBF HBG hcv ⊢
    clear hr hp HR
    obtain ⟨W0, hW0⟩ : ∃ W0, W0 = w1.alloc (.cells #[.int .i64 0, .int .i64 (-1)] 50) := ⟨_, rfl⟩
    have hW0s : W0.heap.size = w1.heap.size + 1 := by rw [hW0]; simp
    have hf0 : W0.heap[w1.heap.size]? = some (.cells #[.int .i64 0, .int .i64 (-1)] 50) := by rw [hW0]; exact heap_new _ _
    have hB0 : Below w1.heap.size w1 W0 := by rw [hW0]; exact (Below.refl _ _).alloc (Nat.le_refl _) _
    have HBW := Lib.hid (HB1.out.trans (hB0.mono hs1))
    have HL0 := Lib.hid (HL.out.below hB0)
    have f00 : W0.cell? ⟨w1.heap.size, 0, none⟩ = some (.int .i64 0) := by simp [World.cell?, hf0]
    by_cases hfull : most < (sizeL l : Int)
    · have HX := Lib.hid (HBF.out hfull)
      go_wp2_with fail
      rw [← hW0]
      clear hW0 hB0
      go_wp2_with fail
      refine (sizeOf_any l av cv _ HL0.out (by omega) (by omega)).mono ?_
      rintro e w2 ⟨rfl, rfl⟩
      go_wp2_with fail
      refine (bareOf_any 8 _).mono ?_
      rintro e w3 ⟨rfl, hb3⟩
      obtain ⟨t0, t1, y0, y1, tb⟩ := slot_two (show Below (w.heap.size + 1) (w.alloc (.cells #[.int .i64 0, .int .i64 0] 50)) w3 from HBW.out.trans (hb3.mono (show w.heap.size + 1 ≤ w2.heap.size by omega)))
      clear hb3
      go_wp2
      obtain ⟨q0, q1, q2⟩ := slot_set (w := w) (.int .i64 8) (.int .i64 (-1)) t0 t1 tb
      exact bodyPost_ret (v := .tuple #[.string ⟨#[]⟩, .agg #[.int .i64 8, .int .i64 (-1)]]) (by simp [results, Tryz.results180, go_sem, q0, q1]) rfl ⟨by rw [HX.out]; rfl, q2⟩
    · have HX := Lib.hid (HBG.out hfull)
      have hfull' : ¬ most < (sizeL l : Int) := hfull
      have hlm : sizeL l ≤ 1000000000 := by omega
      obtain ⟨i0, hi0, hz0, hz1, hz2⟩ := info_parts Tryz.infoByteO
      go_wp2_with fail
      rw [← hW0]
      clear hW0 hB0
      go_wp2_with fail
      refine (sizeOf_any l av cv _ HL0.out (by omega) (by omega)).mono ?_
      rintro e w2 ⟨rfl, rfl⟩
      clear HBF HBG HL
      go_wp2_with fail
      go_loopw [8, 9] (fun ov iv wr => ∃ q : Nat, q ≤ l.length ∧ iv = .int .i64 (q : Int) ∧ wr.ownsRow (w1.heap.size + 1) 5 1 ov (openL (l.take q)).length (Lib.byteCells (openL (l.take q))) ∧ Below (w1.heap.size + 1) w2 wr) (fun _ iv _ => l.length - (intOf iv).toNat)
      case atStart => exact ⟨0, by omega, rfl, World.ownsRow_nil _ _ _ _, Below.refl _ _⟩
      case round =>
        obtain ⟨q, hq, rfl, hrow, hb⟩ := hrel
        have HO := Lib.hid hrow
        have HB := Lib.hid hb
        clear hrow hb
        by_cases hlt : q < l.length
        · have hlt' : (q : Int) < (l.length : Int) := by omega
          have htk := size_take hlt
          have HOT := Lib.hid (open_take hlt)
          have HLQ := Lib.hid (HL0.out.at hlt)
          have hol := openL_length (l.take q)
          generalize l[q] = r at htk HOT HLQ
          obtain ⟨rn, rb⟩ := r
          simp only at htk HOT HLQ
          have HOL := Lib.hid hol
          clear hol
          generalize openL (l.take q) = o at HO HOT HOL
          generalize sizeL (l.take q) = so at htk HOL
          have hso := HOL.out
          go_wp2_with fail
          obtain ⟨wo, rfl⟩ : ∃ wo, wo = wr := ⟨_, rfl⟩
          go_loopw [8, 10] (fun ov kv wq => ∃ m : Nat, m ≤ rn ∧ kv = .int .i64 (m : Int) ∧ wq.ownsRow (w1.heap.size + 1) 5 1 ov (o ++ List.replicate m rb).length (Lib.byteCells (o ++ List.replicate m rb)) ∧ Below (w1.heap.size + 1) w2 wq) (fun _ kv _ => rn - (intOf kv).toNat)
          case atStart => exact ⟨0, by omega, rfl, by simpa using HO.out, HB.out⟩
          case round =>
            obtain ⟨m, hm', rfl, hrow, hb⟩ := hrel
            obtain ⟨b, oo, rfl, c0, c1⟩ := HLQ.out
            have hbl : b < w1.heap.size + 1 := by have := block_lt_of_cell c0; simp at this; omega
            have d0 := (hb.cell (p := ⟨b, oo + q * 2, none⟩) hbl).trans c0
            have d1 := (hb.cell (p := ⟨b, oo + q * 2 + 1, none⟩) hbl).trans c1
            have hbs : w1.heap.size + 1 ≤ wr.heap.size := by have := hb.size; omega
            have HB2 := Lib.hid hb
            have hlen : (o ++ List.replicate m rb).length = so + m := by rw [List.length_append, List.length_replicate, hso]
            by_cases hmn : m < rn
            · have hmn' : (m : Int) < (rn : Int) := by omega
              have HREP : Hid (Lib.byteCells (o ++ List.replicate (m + 1) rb) = Lib.byteCells (o ++ List.replicate m rb) ++ [.int .u8 (rb.toNat : Int)]) := by
                show Lib.byteCells _ = _
                rw [List.replicate_succ', ← List.append_assoc]
                simp [Lib.byteCells]
              have HLEN : Hid ((o ++ List.replicate (m + 1) rb).length = (o ++ List.replicate m rb).length + 1) := by
                show List.length _ = _
                simp only [List.length_append, List.length_replicate]
                omega
              generalize o ++ List.replicate m rb = om at hrow hlen HREP HLEN
              clear hb c0 c1
              go_wp2_with (at_builtin; refine wpList_append_own _ rfl _ _ 146 rfl (w1.heap.size + 1) 5 i0 (.int .u8 0) 1 1 Tryz.underlying146 hi0 hz0 hz1 hz2 rfl (by decide) _ _ _ rfl (hrow.alloc _) ⟨wr.heap.size, 0, none⟩ 1 1 [.int .u8 (rb.toNat : Int)] rfl rfl (byte_new wr _ _) (by simp [Value.oneCell']) (by unfold maxLen; omega) (by omega) (by simp; omega) ?_; intro v' w4 hown' hgrow _)
              have HB4 : Below (w1.heap.size + 1) w2 w4 := (HB2.out.alloc hbs _).grown hgrow (by simp; omega) (fun j ej => (hrow.lt j ej).1)
              refine ⟨⟨m + 1, by omega, by go_num, ?_, HB4⟩, by simp [intOf]; omega⟩
              rw [HREP.out, HLEN.out]
              exact hown'
            · obtain rfl : m = rn := by omega
              go_wp2
              go_roundw
              case rel => exact ⟨q + 1, by omega, by go_num, by rw [HOT.out]; exact hrow, HB2.out⟩
              case measure => simp [intOf]; omega
        · obtain rfl : q = l.length := by omega
          rw [List.take_length] at HO
          obtain ⟨oa, oc, rfl, hcn⟩ := conv_own HO.out
          have hcv1 := hcn wr.drew (fun g _ => rfl)
          have hbl0 : w1.heap.size < w1.heap.size + 1 := Nat.lt_succ_self _
          have hfw := (HB.out.block w1.heap.size hbl0).trans hf0
          have e0 : wr.cell? ⟨w1.heap.size, 0, none⟩ = some (.int .i64 0) := by simp [World.cell?, hfw]
          have e1 : wr.cell? ⟨w1.heap.size, 1, none⟩ = some (.int .i64 (-1)) := by simp [World.cell?, hfw]
          obtain ⟨t0, t1, y0, y1, tb⟩ := slot_two (show Below (w.heap.size + 1) (w.alloc (.cells #[.int .i64 0, .int .i64 0] 50)) wr from HBW.out.trans (HB.out.mono (show w.heap.size + 1 ≤ w1.heap.size + 1 by omega)))
          clear hcn hfw
          generalize openL l = ol at hcv1 HX ⊢
          go_wp2
          go_region
          all_goals go_wp2
          all_goals
            obtain ⟨q0, q1, q2⟩ := slot_set (w := w) (.int .i64 0) (.int .i64 (-1)) t0 t1 tb
            exact bodyPost_ret (v := .tuple #[.string ⟨ol.toArray⟩, .agg #[.int .i64 0, .int .i64 (-1)]]) (by simp [results, Tryz.results180, go_sem, q0, q1]) rfl ⟨by rw [HX.out]; rfl, q2.drew⟩
end Go.Proofs.YtmcfkoenpikldaaGreatDoor
