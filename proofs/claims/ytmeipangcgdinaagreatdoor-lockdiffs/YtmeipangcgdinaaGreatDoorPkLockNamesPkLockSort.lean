/-
  Own texts of the proof, joined by program: PkLockNames, PkLockSort.
-/
import Derived.Test.YtmeipangcgdinaaGreatDoorWtEqPkLockMark
import Derived.Test.YtmeipangcgdinaaGreatDoorLockPure
import Derived.Test.YtmeipangcgdinaaGreatDoorMapOwnMapAt
import Derived.Test.YtmeipangcgdinaaGreatDoorPkClonePkFindPkSortFnPkSort
import Derived.Test.YtmeipangcgdinaaGreatDoorCutCheckCleanPaths
import Derived.Test.YtmeipangcgdinaaGreatDoorRuMem
import Derived.Test.YtmeipangcgdinaaGreatDoorShelf3
import Derived.BigQuiet
/-
  Package lock: byNames: what two locks have by each name: over this seat's translation.
-/
namespace Go.Proofs.YtmeipangcgdinaaGreatDoor
open Go.RowKit Go.Shelf Go.Maps

section
variable {P : Program} {w : World} {k : TypeId} {b n : Nat} {f : List UInt8 → Option Value}
/-- Looked up: what is there alone. -/
theorem MapAt.look1 {t e : TypeId} (h : MapAt P w k b n f) (hk : P.underlying k = some .string) (ht : P.underlying t = some (.map k e)) {z : Value} (hz : (zeroValue e).run P w = .ok z w) (u : List UInt8) (hu : u.length ≤ 100000) :
    (Instr.lookup t (.map (some b)) (.string ⟨u.toArray⟩) false).run P w = .ok ((f u).getD z) w := by
  obtain ⟨M, h1, _, h3⟩ := h
  have hkey : keyOf P k (.string ⟨u.toArray⟩) = some (.string u) := WideMaps.keyOf_string_mk hk (s := ⟨u.toArray⟩) (by simp [ByteArray.size, maxLen]; omega)
  obtain ⟨v, ps, hrun, hv⟩ := h1.lookup (string_keyed hk) ht hz (zd := .held z) (zp := []) rfl hkey
  rw [hrun]
  have hd := asIs_eq hv
  rw [h3] at hd
  cases e : f u with
  | none => rw [e] at hd; cases hd; rfl
  | some x => rw [e] at hd; cases hd; rfl
variable {ops : Array Oper} {rest : List Oper} {o : Oper} {a : Act} {Q : Exit → Act → World → Prop}
/-- 'm[k]', at the operation. -/
theorem wpList_look1 (hg : o.guard = none) (m x : Operand) (t : TypeId) (hop : o.op = Op.lookup t m x false) (k e : TypeId) (hk : P.underlying k = some .string) (ht : P.underlying t = some (.map k e)) {z : Value} (hz : (zeroValue e).run P w = .ok z w)
    (b n : Nat) (f : List UInt8 → Option Value) (hm : a.eval m = .map (some b)) (h : MapAt P w k b n f) (u : List UInt8) (hx : a.eval x = .string ⟨u.toArray⟩) (hu : u.length ≤ 100000) (v : Value) (hv : (f u).getD z = v)
    (hK : wpList P ops Q rest (a.put o.dst v) w) : wpList P ops Q (o :: rest) a w := by
  refine wpList_plain hg fun K' hK' => ?_
  have hrun := h.look1 hk ht hz u hu
  rw [hv] at hrun
  unfold Oper.wp
  simp [execOp, hop, hm, hx, hrun, Result.andThen]
  exact hK' _ _ hK
end

/-- The want of a name. -/
def atW (l : List Wt) (t : List UInt8) : Option Wt := l.find? fun y => y.n == t
theorem atW_none {l : List Wt} {t : List UInt8} (h : ∀ x ∈ l, x.n ≠ t) : atW l t = none := by
  unfold atW
  rw [List.find?_eq_none]
  intro x hx
  simpa using h x hx
theorem Lock.fresh {l : List Wt} (h : Lock l) {q : Nat} (hq : q < l.length) : atW (l.take q) l[q].n = none := by
  refine atW_none fun x hx e => ?_
  obtain ⟨i, hi, rfl⟩ := List.getElem_of_mem hx
  rw [List.length_take] at hi
  rw [List.getElem_take] at e
  have := h.le (i := i) (by omega) hq (by omega)
  rw [e, less_irrefl] at this
  cases this
theorem atW_next {l : List Wt} {q : Nat} (hq : q < l.length) (t : List UInt8) : atW (l.take (q + 1)) t = (atW (l.take q) t).or (if l[q].n = t then some l[q] else none) := by
  unfold atW
  rw [List.take_succ_eq_append_getElem hq, List.find?_append]
  congr 1
  by_cases h : l[q].n = t <;> simp [h]
/-- What two locks have by a name, as a value. -/
def pairF (a b : List Wt) (t : List UInt8) : Option Value :=
  match atW a t, atW b t with
  | none, none => none
  | x, y => some (pv (x.getD noW) (y.getD noW))
theorem pair_first {l : List Wt} (h : Lock l) {q : Nat} (hq : q < l.length) : (fun t => if t = l[q].n then some (pv l[q] noW) else pairF (l.take q) [] t) = pairF (l.take (q + 1)) [] := by
  funext t
  unfold pairF
  rw [atW_next hq]
  have hf := h.fresh hq
  have h0 : ∀ t, atW [] t = none := fun _ => rfl
  by_cases e : t = l[q].n
  · subst e
    simp [hf, h0]
  · have e' : ¬ l[q].n = t := fun c => e c.symm
    simp [e, e']
theorem pair_new {l : List Wt} (h : Lock l) {q : Nat} (hq : q < l.length) : (pairF (l.take q) [] l[q].n).isSome = false := by
  unfold pairF
  rw [h.fresh hq]
  rfl

theorem pair_look {l m : List Wt} (h : Lock m) {q : Nat} (hq : q < m.length) : (pairF l (m.take q) m[q].n).getD (pv noW noW) = pv ((atW l m[q].n).getD noW) noW := by
  unfold pairF
  rw [h.fresh hq]
  cases atW l m[q].n with
  | none => rfl
  | some x => rfl
theorem pair_second {l m : List Wt} (h : Lock m) {q : Nat} (hq : q < m.length) : (fun t => if t = m[q].n then some (pv ((atW l m[q].n).getD noW) m[q]) else pairF l (m.take q) t) = pairF l (m.take (q + 1)) := by
  funext t
  unfold pairF
  rw [atW_next hq]
  have hf := h.fresh hq
  by_cases e : t = m[q].n
  · subst e
    simp only [hf, if_true, Option.none_or]
    cases atW l m[q].n with
    | none => rfl
    | some x => rfl
  · have e' : ¬ m[q].n = t := fun c => e c.symm
    simp [e, e']
theorem zero_pair (w : World) : (zeroValue 63).run Tryz.prog w = .ok (pv noW noW) w := by kernel_rfl

theorem pair_field (y z : Wt) (w : World) : (Instr.field 63 (pv y z) 0).run Tryz.prog w = .ok (wv y) w := by
  first | kernel_rfl | rfl | simp [Instr.field, run_underlying Tryz.underlying63, part, isAgg, run_underlying Tryz.underlying41]

set_option maxRecDepth 100000 in
set_option maxHeartbeats 4000000 in
theorem byNames_any (l m : List Wt) (a b : Option Addr) (ca cb : Nat) (w : World) (hl : WLies w a l) (hm : WLies w b m) (hkl : Lock l) (hkm : Lock m) (hnl : ∀ x ∈ l, x.n.length ≤ 90000) (hnm : ∀ x ∈ m, x.n.length ≤ 90000) :
    Calls Tryz.prog 22 #[.slice a l.length ca, .slice b m.length cb] w fun e w' => ∃ g n, e = .returned (.map (some g)) ∧ w.heap.size ≤ g ∧ MapAt Tryz.prog w' 9 g n (pairF l m) ∧ n ≤ 40 ∧ Below w.heap.size w w' := by
  have HL := Lib.hid hl
  have HM := Lib.hid hm
  have HKL := Lib.hid hkl
  have HKM := Lib.hid hkm
  have hfl := hkl.few
  have hfm := hkm.few
  clear hl hm hkl hkm
  have hmm := @run_makeMap Tryz.prog
  have hz0 := Tryz.zeroValue41
  have m0 := MapAt.new Tryz.prog w 9
  have HB0 := Lib.hid ((Below.refl w.heap.size w).alloc (Nat.le_refl _) (.map #[] 0))
  have HM0 := Lib.hid m0
  clear m0
  go_enter Tryz.func22, Tryz.ntmps22
  go_wp2_with fail
  clear hmm
  generalize hwm : w.alloc (.map #[] 0) = wm at HM0 HB0 ⊢
  obtain ⟨g, hgg⟩ : ∃ g, g = w.heap.size := ⟨_, rfl⟩
  have HG : Hid (w.heap.size ≤ g) := Nat.le_of_eq hgg.symm
  rw [← hgg] at HM0 ⊢
  clear hgg
  go_loopw [13] (fun i wr => ∃ q : Nat, q ≤ l.length ∧ i = .int .i64 q ∧ MapAt Tryz.prog wr 9 g q (pairF (l.take q) []) ∧ Below w.heap.size w wr) (fun i _ => l.length - (intOf i).toNat)
  case atStart => exact ⟨0, by omega, rfl, HM0.out, HB0.out⟩
  case round =>
    obtain ⟨q, hq, rfl, hmq, hb⟩ := hrel
    have HMQ := Lib.hid hmq
    have HB := Lib.hid hb
    clear hmq hb
    by_cases hlt : q < l.length
    · obtain ⟨b1, o1, rfl, c0, c1, c2, c3, c4⟩ := (HL.out.below HB.out).at hlt
      have HPF := Lib.hid (pair_first HKL.out hlt)
      have HPN := Lib.hid (pair_new HKL.out hlt)
      have hlt' : (q : Int) < (l.length : Int) := by omega
      have hxn := hnl _ (List.getElem_mem hlt)
      have HQ : Hid (l.take (q + 1) = l.take (q + 1)) := rfl
      generalize l[q] = x at c0 c1 c2 c3 c4 HPF HPN hxn
      obtain ⟨xn, xu, xk, xs, xm⟩ := x
      have HXN : Hid (xn.length ≤ 100000) := Nat.le_trans hxn (by decide)
      have HUP := Lib.hid (HMQ.out.alloc (wo xn xu xk xs xm))
      have HBA := Lib.hid (HB.out.alloc HB.out.size (wo xn xu xk xs xm))
      go_wp2_with (at_mapUpdate; go_loud (refine wpList_put rfl _ _ _ 60 rfl 9 63 Tryz.underlying9 Tryz.underlying60 g q _ rfl HUP.out (by unfold maxLen; omega) xn rfl HXN.out (pv ⟨xn, xu, xk, xs, xm⟩ noW) rfl ?_; intro w2 hm2 ht2))
      have HM2 : Hid (MapAt Tryz.prog w2 9 g (q + 1) (pairF (l.take (q + 1)) [])) := by
        have := hm2
        rw [HPN.out, HPF.out] at this
        exact this
      have HB2 := Lib.hid (HBA.out.trans (turned_below ht2 HG.out HBA.out.size))
      clear hm2 ht2
      go_roundw
      case rel => exact ⟨q + 1, by omega, by go_num, HM2.out, HB2.out⟩
      case measure => simp [intOf]; omega
    · have hql : q = l.length := by omega
      have hlt' : ¬ (q : Int) < (l.length : Int) := by omega
      rw [hql, List.take_length] at HMQ
      clear hql hlt hq
      go_wp2_with fail
      clear hlt'
      go_loopw [25] (fun i wr => ∃ q n : Nat, q ≤ m.length ∧ n ≤ l.length + q ∧ i = .int .i64 q ∧ MapAt Tryz.prog wr 9 g n (pairF l (m.take q)) ∧ Below w.heap.size w wr) (fun i _ => m.length - (intOf i).toNat)
      case atStart => exact ⟨0, l.length, by omega, by omega, rfl, HMQ.out, HB.out⟩
      case round =>
        obtain ⟨q, n, hq, hn, rfl, hmq, hb⟩ := hrel
        clear HMQ HB
        have HMQ := Lib.hid hmq
        have HB := Lib.hid hb
        clear hmq hb
        by_cases hlt : q < m.length
        · obtain ⟨b1, o1, rfl, c0, c1, c2, c3, c4⟩ := (HM.out.below HB.out).at hlt
          have HPF := Lib.hid (pair_second (l := l) HKM.out hlt)
          have HPN := Lib.hid (pair_look (l := l) HKM.out hlt)
          have hlt' : (q : Int) < (m.length : Int) := by omega
          have hxn := hnm _ (List.getElem_mem hlt)
          generalize m[q] = x at c0 c1 c2 c3 c4 HPF HPN hxn
          obtain ⟨xn, xu, xk, xs, xm⟩ := x
          have HXN : Hid (xn.length ≤ 100000) := Nat.le_trans hxn (by decide)
          generalize (atW l xn).getD noW = y at HPF HPN
          have hfield := fun W => pair_field y noW W
          have HUP := Lib.hid (HMQ.out.alloc (wo xn xu xk xs xm))
          have HBA := Lib.hid (HB.out.alloc HB.out.size (wo xn xu xk xs xm))
          go_wp2_with (first
            | (at_lookup; go_loud (refine wpList_look1 rfl _ _ 60 rfl 9 63 Tryz.underlying9 Tryz.underlying60 (zero_pair _) g n _ rfl HUP.out xn rfl HXN.out (pv y noW) HPN.out ?_))
            | (at_mapUpdate; go_loud (refine wpList_put rfl _ _ _ 60 rfl 9 63 Tryz.underlying9 Tryz.underlying60 g n _ rfl HUP.out (by unfold maxLen; omega) xn rfl HXN.out (pv y ⟨xn, xu, xk, xs, xm⟩) rfl ?_; intro w2 hm2 ht2)))
          have HM2 : Hid (∃ n', n' ≤ n + 1 ∧ MapAt Tryz.prog w2 9 g n' (pairF l (m.take (q + 1)))) := by
            have := hm2
            rw [HPF.out] at this
            refine ⟨_, ?_, this⟩
            split <;> omega
          have HB2 := Lib.hid (HBA.out.trans (turned_below ht2 HG.out HBA.out.size))
          clear hm2 ht2
          go_roundw
          case rel =>
            obtain ⟨n', hn', hm'⟩ := HM2.out
            exact ⟨q + 1, n', by omega, by omega, by go_num, hm', HB2.out⟩
          case measure => simp [intOf]; omega
        · have hql : q = m.length := by omega
          have hlt' : ¬ (q : Int) < (m.length : Int) := by omega
          have hn40 : n ≤ 40 := by omega
          rw [hql, List.take_length] at HMQ
          clear hql hlt hq
          go_wp2
          go_ret
          exact ⟨g, rfl, HG.out, n, HMQ.out, hn40, HB.out⟩
end Go.Proofs.YtmeipangcgdinaaGreatDoor
/-
  Package lock: the lines of a difference in the order of their names: over this seat's translation.
-/
namespace Go.Proofs.YtmeipangcgdinaaGreatDoor
open Go.RowKit Go.Shelf Go.Sort Go.Lib

/-- A line of a difference. -/
abbrev Ln := { l : List UInt8 // 2 ≤ l.length ∧ l.length ≤ 100000 }
abbrev cfL (x y : Ln) : Int := Lib.compareBytes (x.1.drop 2) (y.1.drop 2)
theorem ltOf_lines (x y : Ln) : ltOf cfL x y = less (x.1.drop 2) (y.1.drop 2) := cmp_less _ _
theorem swoL : SWO (ltOf cfL) where
  irrefl x := by rw [ltOf_lines]; exact less_irrefl _
  trans x y z h1 h2 := by rw [ltOf_lines] at *; exact less_trans h1 h2
  ntrans x y z h1 h2 := by rw [ltOf_lines] at *; exact less_weak h2 h1

theorem lines_behind (l : List UInt8) (i : Nat) : ({ data := l.toArray } : ByteArray).extract i l.length = ⟨(l.drop i).toArray⟩ := by
  rw [extract_list, List.take_of_length_le (by rw [List.length_drop]; omega)]

set_option maxRecDepth 100000 in
theorem cmpLines (x y : List UInt8) (hx : 2 ≤ x.length) (hy : 2 ≤ y.length) (hx' : x.length ≤ 100000) (hy' : y.length ≤ 100000) (W : World) : Calls Tryz.prog 25 #[sv x, sv y] W fun e w' => e = .returned (.int .i64 (Lib.compareBytes (x.drop 2) (y.drop 2))) ∧ ∃ q os', w' = grow (W.drewN q) os' := by
  have hxi : (2 : Int) ≤ (x.length : Int) := by omega
  have hyi : (2 : Int) ≤ (y.length : Int) := by omega
  have ex := lines_behind x 2
  have ey := lines_behind y 2
  have HC := fun W => compare_is (x.drop 2) (y.drop 2) W
  generalize x.drop 2 = x' at ex HC ⊢
  generalize y.drop 2 = y' at ey HC ⊢
  go_enter Tryz.func25, Tryz.ntmps25
  go_wp2_with fail
  go_region_with (first
    | (go_at_call 26; (with_reducible refine (HC _).mono ?_); rintro e w1 ⟨rfl, rfl⟩))
  all_goals go_wp2
  all_goals go_ret
  all_goals exact ⟨rfl, 1, #[], by rw [grow_empty]; rfl⟩

theorem packedL : ∀ l : List (List UInt8), (∀ x ∈ l, 2 ≤ x.length ∧ x.length ≤ 100000) → ∃ zs : List Ln, zs.map (fun x => x.1) = l
  | [], _ => ⟨[], rfl⟩
  | x :: l, h => by
    obtain ⟨zs, e⟩ := packedL l fun g hg => h g (List.mem_cons_of_mem _ hg)
    exact ⟨⟨x, h x List.mem_cons_self⟩ :: zs, by rw [List.map_cons, e]⟩
abbrev encL (x : Ln) : Value := sv x.1

theorem owns_holdsL [Inhabited Ln] {w : World} {base : Nat} {v : Value} {zs : List Ln} (h : w.ownsRow base 9 1 v zs.length (zs.map encL)) (hne : zs ≠ []) :
    ∃ g cap, v = .slice (some ⟨g, 0, none⟩) zs.length cap ∧ base ≤ g ∧ g < w.heap.size ∧ zs.length ≤ cap ∧ Holds encL w g 0 zs.toArray := by
  rcases h.2 with ⟨rfl, hn⟩ | ⟨g, cap, cur, rfl, hb, hg, hcap, hm, hsz, htk⟩
  · exact absurd (List.length_eq_zero_iff.1 hn) hne
  · refine ⟨g, cap, rfl, hb, (Array.getElem?_eq_some_iff.1 hg).1, hcap, fun t ht => ?_⟩
    have ht' : t < zs.length := by simpa using ht
    refine ⟨?_, by simp [World.frozen?, hg]⟩
    have e1 : w.cell? ⟨g, 0 + t, none⟩ = (zs.map encL)[t]? := by
      rw [← htk, List.getElem?_take_of_lt (by omega)]
      simp [World.cell?, hg]
    rw [e1, List.getElem?_map, List.getElem?_eq_getElem ht', getElem!_pos zs.toArray t (by simpa using ht')]
    simp

theorem lies_holdsL [Inhabited Ln] {w : World} {g : Nat} {d : Array Ln} (h : Holds encL w g 0 d) : TextsAt w (some ⟨g, 0, none⟩) (d.toList.map fun x => x.1) := fun _ => by
  refine ⟨g, 0, rfl, fun k hk => ?_⟩
  have hk' : k < d.size := by simpa using hk
  have c0 := (h k hk').1
  rw [getElem!_pos d k hk'] at c0
  rw [c0]
  simp

theorem below_sortedL [Inhabited Ln] {base : Nat} {w : World} {g n : Nat} {d : Array Ln} {os : Array Obj} (hg : base ≤ g) (hgw : g < w.heap.size) : Below base w (sortWorld encL w g 0 n d os) := by
  have hsz : (putRow encL (Sort.ahead w n) g 0 d).heap.size = w.heap.size := Sort.size_putRow encL (Sort.ahead w n) g 0 d
  refine ⟨rfl, rfl, rfl, ?_, fun k hk => ?_⟩
  · show w.heap.size ≤ ((putRow encL (Sort.ahead w n) g 0 d).heap ++ os).size
    rw [Array.size_append, hsz]
    omega
  · have hkw : k < w.heap.size := by omega
    show ((putRow encL (Sort.ahead w n) g 0 d).heap ++ os)[k]? = _
    rw [Array.getElem?_append_left (by omega)]
    show (w.heap.modify g _)[k]? = _
    rw [Array.getElem?_modify, if_neg (by omega)]

theorem permL_of [Inhabited Ln] {l : List Ln} {d' : Array Ln} (h : PermIn 0 l.toArray.size l.toArray d') : d'.toList.Perm l := by
  have h1 := h.2.2
  have hs := h.1
  rw [show d'.extract 0 l.toArray.size = d' by rw [← hs]; simp] at h1
  simpa using h1

/-- Lines in the order of what stands behind their marks. -/
def InNames (l : List (List UInt8)) : Prop := l.Pairwise fun x y => less (y.drop 2) (x.drop 2) = false

theorem names_of [Inhabited Ln] {l : List Ln} {d' : Array Ln} (hs : d'.size = l.toArray.size) (h : SortedIn (ltOf cfL) 0 l.toArray.size d') : InNames (d'.toList.map fun x => x.1) := by
  unfold InNames
  rw [List.pairwise_map]
  refine List.pairwise_iff_getElem.2 fun i j hi hj hij => ?_
  have hi' : i < d'.size := by simpa using hi
  have hj' : j < d'.size := by simpa using hj
  have := h i j (Nat.zero_le _) hij (by omega)
  rw [ltOf_lines, getElem!_pos d' i hi', getElem!_pos d' j hj'] at this
  simpa using this

theorem sortLines_any (l : List (List UInt8)) (v : Value) (base : Nat) (w : World) (h : w.ownsRow base 9 1 v l.length (l.map fun x => sv x)) (hf : l.length ≤ 100000) (hs : ∀ x ∈ l, 2 ≤ x.length ∧ x.length ≤ 100000) :
    Calls Tryz.prog 24 #[v, .func (.func 25) #[] #[]] w fun e w' => e = .returned (.tuple #[]) ∧ (∃ s a c, v = .slice a l.length c ∧ s.Perm l ∧ InNames s ∧ TextsAt w' a s ∧ l.length ≤ c) ∧ Below base w w' := by
  haveI : Inhabited Ln := ⟨⟨[0, 0], by simp⟩⟩
  obtain ⟨zs, rfl⟩ := packedL l hs
  rw [List.map_map] at h
  rw [List.length_map] at h hf ⊢
  by_cases hne : zs = []
  · subst hne
    have hv : ∃ a cap, v = .slice a 0 cap := by
      rcases h.2 with ⟨rfl, _⟩ | ⟨g, cap, cur, rfl, _⟩
      · exact ⟨none, 0, rfl⟩
      · exact ⟨_, cap, rfl⟩
    obtain ⟨a, cap, rfl⟩ := hv
    refine (AnyF.slices_SortFunc_none Tryz.laysSortS0 a cap _ w).mono ?_
    rintro e w' ⟨rfl, rfl⟩
    exact ⟨rfl, ⟨[], a, cap, rfl, List.Perm.refl _, List.Pairwise.nil, fun h => absurd rfl h, Nat.zero_le _⟩, Below.refl _ _⟩
  · obtain ⟨g, cap, rfl, hb, hg, hcap, hH⟩ := owns_holdsL h hne
    have hc := Any.slices_SortFunc Tryz.laysSortS encL (fun _ => rfl) cfL swoL 25 #[] g 0 cap zs.toArray w
      (enters_of Tryz.func25 (by kernel_rfl) rfl) (fun m os dk _ x y => cmpLines x.1 y.1 x.2.1 y.2.1 x.2.2 y.2.2 _) hH hg (by simp; omega)
    refine Calls.mono (show Calls Tryz.prog 24 #[.slice (some ⟨g, 0, none⟩) zs.length cap, .func (.func 25) #[] #[]] w _ from hc) ?_
    rintro e w' ⟨rfl, d', n, os, hperm, hsort, rfl⟩
    refine ⟨rfl, ⟨d'.toList.map fun x => x.1, _, cap, rfl, (permL_of hperm).map _, names_of hperm.1 hsort, ?_, hcap⟩, below_sortedL hb hg⟩
    exact lies_holdsL (holds_sortWorld encL w g 0 n zs.toArray d' os hg hH hperm.1)
end Go.Proofs.YtmeipangcgdinaaGreatDoor
