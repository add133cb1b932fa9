/-
  Own texts of the proof, joined by program: PkLines, PkLockRead.
-/
import Derived.Test.YtmeipangcgdinaaGreatDoorLinesPure
import Derived.Test.YtmeipangcgdinaaGreatDoorRangeBoxMapRange
import Derived.Test.YtmeipangcgdinaaGreatDoorCutCheckCleanPaths
import Derived.Test.YtmeipangcgdinaaGreatDoorPkWantReadWantBox
import Derived.Test.YtmeipangcgdinaaGreatDoorPkLock
/-
  strings.Lines: its function value hands each line over in its order: contracts, over this seat's translation.
-/
namespace Go.Proofs.YtmeipangcgdinaaGreatDoor
open Go.RowKit Go.Shelf

theorem lines_fn (l : List UInt8) (w : World) : Calls Tryz.prog 20 #[.string ⟨l.toArray⟩] w fun e w' => e = .returned (.func (.func 39) #[] #[.pointer (some ⟨w.heap.size, 0, none⟩)]) ∧ w' = w.alloc (.cells #[.string ⟨l.toArray⟩] 9) := by
  go_enter Tryz.func20, Tryz.ntmps20
  go_wp2
  go_ret
  exact ⟨rfl, rfl⟩

set_option maxRecDepth 100000 in
theorem byteIdx_any (l : List UInt8) (w : World) : Calls Tryz.prog 56 #[.string ⟨l.toArray⟩, .int .u8 10] w fun e w' => e = .returned (.int .i64 (Lib.indexByte l 10)) ∧ w' = w := by
  go_enter Tryz.func56, Tryz.ntmps56
  go_wp2
  rw [run_callFunc_extern Tryz.func78 (by kernel_rfl) (by kernel_rfl) (by kernel_rfl) (e := Extern.BytealgIndexByte.indexByte) (by kernel_rfl), Lib.run_indexByteString]
  simp only [Result.andThen]
  rw [Oper.upon_value]
  go_wp2
  go_ret
  exact ⟨rfl, rfl⟩
theorem byteAt_any (l : List UInt8) (w : World) : Calls Tryz.prog 40 #[.string ⟨l.toArray⟩, .int .u8 10] w fun e w' => e = .returned (.int .i64 (Lib.indexByte l 10)) ∧ w' = w := by
  go_enter Tryz.func40, Tryz.ntmps40
  go_wp2_with fail
  refine (byteIdx_any l w).mono ?_
  rintro e w' ⟨rfl, rfl⟩
  go_wp2
  go_ret
  exact ⟨rfl, rfl⟩

attribute [local go_sem] Oper.semAt_some

/-- How much is left. -/
def boxLeft (w : World) (b : Nat) : Nat := match w.cell? ⟨b, 0, none⟩ with | some v => strLen v | none => 0
theorem boxLeft_is {w : World} {b : Nat} {l : List UInt8} (h : w.cell? ⟨b, 0, none⟩ = some (.string ⟨l.toArray⟩)) : boxLeft w b = l.length := by unfold boxLeft; rw [h]; exact strLen_list l

set_option maxRecDepth 100000 in
set_option maxHeartbeats 2000000 in
/-- The function value: every line in its order, or some of them, where a round says no more. -/
theorem lines_in (n : Nat) (hn : 1 ≤ n) (l Bn : Nat) (s : List UInt8) (hs : s.length ≤ 9000000) (J Jx : List (List UInt8) → World → Prop) (W : World) (hJ : StaysBox Bn J)
    (hY : ∀ pre x W1, J pre W1 → pre ++ [x] <+: linesL s → YieldAt Fence.wide (n - 1) Tryz.prog l #[.string ⟨x.toArray⟩] W1 fun e W' =>
      (e = .returned (.bool true) ∧ J (pre ++ [x]) W' ∧ W'.heap[Bn]? = W1.heap[Bn]?) ∨ (e = .returned (.bool false) ∧ Jx (pre ++ [x]) W'))
    (hB : Boxed W Bn 9 (.string ⟨s.toArray⟩)) (h0 : J [] W) :
    CallsIn Fence.wide n Tryz.prog 39 #[.func (.yield l) #[] #[], .pointer (some ⟨Bn, 0, none⟩)] W fun e W' => (∃ v, e = .returned v) ∧
      ((∃ ys, ys = linesL s ∧ J ys W') ∨ (∃ pre, pre <+: linesL s ∧ Jx pre W')) := by
  refine callsIn_of_wp Tryz.func39 rfl trivial ?_ rfl
  simp only [Tryz.ntmps39, List.size_toArray, List.length_cons, List.length_nil, Nat.reduceAdd, Nat.reduceSub, Array.replicate_succ, Array.replicate_zero, List.push_toArray, List.append_toArray, List.nil_append, List.cons_append]
  have HJ := Lib.hid hJ
  have HY := Lib.hid hY
  clear hJ hY
  gi_wp2
  gi_loopw [4] (fun _ wr => ∃ (pre : List (List UInt8)) (t : List UInt8), J pre wr ∧ Boxed wr Bn 9 (.string ⟨t.toArray⟩) ∧ t.length ≤ 9000000 ∧ linesL s = pre ++ linesL t)
    (fun _ wr => boxLeft wr Bn)
  case atStart =>
    exact ⟨[], s, h0, hB, hs, rfl⟩
  case round =>
    obtain ⟨pre, t, hJp, hbx, ht, hp⟩ := hrel
    have HBX := Lib.hid hbx
    have HP := Lib.hid hp
    have hc0 := hbx.cell
    have hf0 := hbx.frozen
    clear hbx hp
    by_cases he : t = []
    · subst he
      gi_wp2
      go_end0
      exact ⟨⟨_, rfl⟩, .inl ⟨pre, by rw [HP.out]; simp [linesL], hJp⟩⟩
    · have hpos : (0 : Int) < (t.length : Int) := by have := List.length_pos_iff.2 he; omega
      have HNE := Lib.hid he
      clear he
      cases hc : cutBy 10 t with
      | none =>
        have HC := Lib.hid hc
        have HI : Hid (Lib.indexByte t 10 = -1) := indexBy_none (cutBy_no.1 hc)
        clear hc
        gi_wp2_with fail
        refine ⟨trivial, (callsIn_wide.2 (byteAt_any t _)).mono ?_⟩
        rintro e w' ⟨rfl, rfl⟩
        rw [HI.out]
        have hJ2 : J pre (w'.setCell ⟨Bn, 0, none⟩ (.string ⟨#[]⟩)) := HJ.out pre w' _ _ hJp (grownBy_setCell' w' Bn _) fun r e => by cases e; rfl
        have hl1 : linesL t = [t] := lines_rest HC.out HNE.out
        obtain ⟨fn, tmps, assign, body, hy, hR⟩ := HY.out pre t _ hJ2 (by rw [HP.out, hl1]; exact List.prefix_refl _)
        have HB2 := Lib.hid (HBX.out.set (.string ⟨#[]⟩))
        have HL1 := Lib.hid hl1
        clear hl1
        gi_wp2
        refine hR.mono ?_
        rintro e W3 (⟨rfl, hJ3, hk3⟩ | ⟨rfl, hJx3⟩)
        · clear hy hR
          gi_wp2
          go_roundw
          case rel => exact ⟨pre ++ [t], [], hJ3, hk3.trans HB2.out, by simp, by rw [HP.out, HL1.out]; simp [linesL]⟩
          case measure => rw [boxLeft_is hc0, boxLeft_is (Boxed.cell (hk3.trans HB2.out))]; simpa using hpos
        · clear hy hR
          gi_wp2
          refine bodyPost_ret (results_none rfl _ _ _) rfl ?_
          exact ⟨⟨_, rfl⟩, .inr ⟨pre ++ [t], by rw [HP.out, HL1.out]; exact List.prefix_refl _, hJx3⟩⟩
      | some ab =>
        obtain ⟨a, b⟩ := ab
        have HC := Lib.hid hc
        have HI : Hid (Lib.indexByte t 10 = (a.length : Int)) := by
          show _ = _
          rw [(cutBy_some hc).1]
          exact indexBy_at b (cutBy_some hc).2
        have hab : a.length + b.length + 1 = t.length := by rw [(cutBy_some hc).1]; simp; omega
        clear hc
        gi_wp2_with fail
        refine ⟨trivial, (callsIn_wide.2 (byteAt_any t _)).mono ?_⟩
        rintro e w' ⟨rfl, rfl⟩
        rw [HI.out]
        have e1 : ({ data := t.toArray } : ByteArray).extract 0 (a.length + 1) = ⟨(a ++ [10]).toArray⟩ := by
          have ht' : t = (a ++ [10]) ++ b := by rw [(cutBy_some HC.out).1]; simp
          rw [extract_list, ht', List.drop_zero, List.take_append_of_le_length (by simp), List.take_of_length_le (by simp)]
        have e2 : ({ data := t.toArray } : ByteArray).extract (a.length + 1) t.length = ⟨b.toArray⟩ := by
          rw [extract_list]
          conv => lhs; rw [(cutBy_some HC.out).1]
          simp
          rw [List.take_of_length_le (by omega)]
        have hmx : Tryz.prog.follows .mixedOrders = true := by kernel_rfl
        gi_wp2_with fail
        gi_region_o
        have hJ2 : J pre (w'.setCell ⟨Bn, 0, none⟩ (.string ⟨b.toArray⟩)).drew := HJ.out pre _ _ none (HJ.out pre w' _ _ hJp (grownBy_setCell' w' Bn _) fun r e => by cases e; rfl) (grownBy_drewN _ 1) fun r e => by cases e
        have hl1 : linesL t = (a ++ [10]) :: linesL b := lines_cut HC.out
        obtain ⟨fn, tmps, assign, body, hy, hR⟩ := HY.out pre (a ++ [10]) _ hJ2 (by rw [HP.out, hl1]; exact ⟨linesL b, by simp⟩)
        have HB2 : Hid (Boxed (w'.setCell ⟨Bn, 0, none⟩ (.string ⟨b.toArray⟩)).drew Bn 9 (.string ⟨b.toArray⟩)) := HBX.out.set (.string ⟨b.toArray⟩)
        have HL1 := Lib.hid hl1
        clear hl1 e1 e2 hc0
        have hc0 := HBX.out.cell
        gi_wp2
        refine hR.mono ?_
        rintro e W3 (⟨rfl, hJ3, hk3⟩ | ⟨rfl, hJx3⟩)
        · clear hy hR
          gi_wp2
          go_roundw
          case rel => exact ⟨pre ++ [a ++ [10]], b, hJ3, hk3.trans HB2.out, by omega, by rw [HP.out, HL1.out]; simp⟩
          case measure => rw [boxLeft_is hc0, boxLeft_is (Boxed.cell (hk3.trans HB2.out))]; omega
        · clear hy hR
          gi_wp2
          refine bodyPost_ret (results_none rfl _ _ _) rfl ?_
          exact ⟨⟨_, rfl⟩, .inr ⟨pre ++ [a ++ [10]], by rw [HP.out, HL1.out]; exact ⟨linesL b, by simp⟩, hJx3⟩⟩
/-- The function value that strings.Lines hands back. -/
theorem lines_seq (n : Nat) (hn : 1 ≤ n) (Bn : Nat) (s : List UInt8) (hs : s.length ≤ 9000000) (w : World) (hB : Boxed w Bn 9 (.string ⟨s.toArray⟩)) :
    SeqBox Fence.wide n Tryz.prog 39 #[.pointer (some ⟨Bn, 0, none⟩)] Bn (fun x : List UInt8 => #[Value.string ⟨x.toArray⟩]) (fun ys => ys = linesL s) (fun pre => pre <+: linesL s) w := fun l J Jx W hW hJ _ hY h0 =>
  lines_in n hn l Bn s hs J Jx W hJ hY ((hW.block Bn hB.lt).trans hB) h0
end Go.Proofs.YtmeipangcgdinaaGreatDoor
/-
  Package lock: Read, of the text of a lock: a contract, over this seat's translation.
-/
namespace Go.Proofs.YtmeipangcgdinaaGreatDoor
open Go.RowKit Go.Shelf

theorem suffix_line (t : List UInt8) : Lib.hasSuffix (t ++ [10]) [10] = true ∧ Lib.trimSuffix (t ++ [10]) [10] = t := by
  have h : Lib.hasSuffix (t ++ [10]) [10] = true := by simp [Lib.hasSuffix]
  refine ⟨h, ?_⟩
  unfold Lib.trimSuffix
  rw [h]
  simp
set_option maxRecDepth 100000 in
theorem cutEnd_is (t : List UInt8) (w : World) (ht : t.length ≤ 100000) : Calls Tryz.prog 41 #[.string ⟨(t ++ [10]).toArray⟩, .string ⟨#[10]⟩] w fun e w' => e = .returned (.tuple #[.string ⟨t.toArray⟩, .bool true]) ∧ w' = w := by
  have := Tryz.strings_CutSuffix ⟨(t ++ [10]).toArray⟩ ⟨#[10]⟩ w (by simp [ByteArray.size]; omega)
  have e1 : ({ data := (t ++ [10]).toArray } : ByteArray).data.toList = t ++ [10] := by simp
  have e2 : ({ data := #[10] } : ByteArray).data.toList = [10] := rfl
  rw [e1, e2, (suffix_line t).1, (suffix_line t).2] at this
  exact this

set_option maxRecDepth 100000 in
set_option maxHeartbeats 2000000 in
/-- A line with its end. -/
theorem readLine_any (p : Nat → Addr) (t : List UInt8) (w : World) (hE : WEnv p w) (ht : t.length ≤ 90000) :
    Calls Tryz.prog 21 #[.string ⟨(t ++ [10]).toArray⟩] w fun e w' => e = .returned (.tuple #[wv (readW t).1, errV p (readW t).2]) ∧ Below w.heap.size w w' := by
  have HR := fun W (h : WEnv p W) => wantRead_any p t W h ht
  have HE := Lib.hid hE
  clear hE
  generalize readW t = r at HR ⊢
  obtain ⟨⟨n, u, k, s, m⟩, c⟩ := r
  dsimp only at HR ⊢
  generalize errV p c = ev at HR ⊢
  go_enter Tryz.func21, Tryz.ntmps21
  go_wp2_with fail
  refine (cutEnd_is t _ (by omega)).mono ?_
  rintro e w1 ⟨rfl, rfl⟩
  go_wp2_with fail
  refine (HR _ (HE.out.below ((Below.refl _ _).alloc (Nat.le_refl _) _))).mono ?_
  rintro e w2 ⟨rfl, hb2⟩
  have HS1 : Hid (Below (w.heap.size + 1) (w.alloc slot0) w2) := by
    have := hb2
    rw [World.size_alloc] at this
    exact this
  clear hb2 HR
  obtain ⟨⟨s0, s1, s2, s3, s4⟩, ⟨z0, z1, z2, z3, z4⟩, hB⟩ := slot_five HS1.out
  have HB := Lib.hid hB
  clear hB
  go_wp2
  obtain ⟨⟨q0, q1, q2, q3, q4⟩, q5⟩ := slot_set5 (w := w) (.string ⟨n.toArray⟩) (.string ⟨u.toArray⟩) (.string ⟨k.toArray⟩) (.int .i64 s) (.int .i64 m) s0 s1 s2 s3 s4 HB.out
  exact bodyPost_ret (v := .tuple #[wv ⟨n, u, k, s, m⟩, ev]) (by simp [results, Tryz.results21, go_sem, q0, q1, q2, q3, q4]) rfl ⟨rfl, q5⟩

theorem prefix_snoc {α β : Type} {l : List α} {g : α → β} {pre : List β} {x : β} (h : pre ++ [x] <+: l.map g) : ∃ hq : pre.length < l.length, x = g l[pre.length] := by
  have hlen := h.length_le
  simp at hlen
  have := h.getElem (i := pre.length) (by simp)
  simp at this
  exact ⟨by omega, this⟩

attribute [local go_sem] Oper.semAt_some

set_option maxRecDepth 100000 in
set_option maxHeartbeats 4000000 in
/-- A lock's text is read. -/
theorem lockRead_any (p : Nat → Addr) (l : List Wt) (w : World) (hE : WEnv p w) (hl : Lock l) (hs : SmallW l) (ht : ∀ x ∈ l, (textW x).length ≤ 90000) (hlen : (linesK l).length ≤ 9000000) :
    Calls Tryz.prog 8 #[.string ⟨(linesK l).toArray⟩] w fun e w' => (∃ a cap, e = .returned (.tuple #[.slice a l.length cap, .nilIface]) ∧ WLies w' a l ∧ l.length ≤ cap ∧ ∀ b o t, a = some ⟨b, o, t⟩ → w.heap.size ≤ b) ∧ Below w.heap.size w w' := by
  have HE := Lib.hid hE
  have HL := Lib.hid hl
  have HS := Lib.hid hs
  have HT := Lib.hid ht
  have HLL := Lib.hid (lock_lines hl)
  have hfew := hl.few
  clear hE hl hs ht
  generalize linesK l = s at HLL hlen ⊢
  obtain ⟨i0, hi, hz0, hz1, hz2⟩ := info_parts Tryz.infoWant
  refine (callsIn_wide (n := 3)).1 ?_
  refine callsIn_of_wp_marks Tryz.func8 rfl trivial ?_ rfl
  simp only [Tryz.ntmps8, List.size_toArray, List.length_cons, List.length_nil, Nat.reduceAdd, Nat.reduceSub, Array.replicate_succ, Array.replicate_zero, List.push_toArray, List.append_toArray, List.nil_append, List.cons_append]
  gi_wp2_with (refine ⟨trivial, ?_⟩; gi_at_call 20; refine (callsIn_wide.2 (lines_fn s _)).mono ?_; rintro e w' ⟨rfl, rfl⟩)
  have b0 := Boxed.new w 22 (.slice none 0 0)
  have b1 := Boxed.new (w.alloc (.cells #[.slice none 0 0] 22)) 26 .nilIface
  have b2 := Boxed.new ((w.alloc (.cells #[.slice none 0 0] 22)).alloc (.cells #[.nilIface] 26)) 22 (.slice none 0 0)
  have b3 := Boxed.new (((w.alloc (.cells #[.slice none 0 0] 22)).alloc (.cells #[.nilIface] 26)).alloc (.cells #[.slice none 0 0] 22)) 9 (.string ⟨s.toArray⟩)
  simp only [World.size_alloc] at b1 b2 b3
  have c0 := ((b0.alloc (.cells #[.nilIface] 26)).alloc (.cells #[.slice none 0 0] 22)).alloc (.cells #[.string ⟨s.toArray⟩] 9)
  have c1 := (b1.alloc (.cells #[.slice none 0 0] 22)).alloc (.cells #[.string ⟨s.toArray⟩] 9)
  have c2 := b2.alloc (.cells #[.string ⟨s.toArray⟩] 9)
  have hB0 : Below w.heap.size w ((((w.alloc (.cells #[.slice none 0 0] 22)).alloc (.cells #[.nilIface] 26)).alloc (.cells #[.slice none 0 0] 22)).alloc (.cells #[.string ⟨s.toArray⟩] 9)) := ((((Below.refl _ w).alloc (Nat.le_refl _) _).alloc (by simp) _).alloc (by simp; omega) _).alloc (by simp; omega) _
  have hsz : ((((w.alloc (.cells #[.slice none 0 0] 22)).alloc (.cells #[.nilIface] 26)).alloc (.cells #[.slice none 0 0] 22)).alloc (.cells #[.string ⟨s.toArray⟩] 9)).heap.size = w.heap.size + 4 := by simp
  generalize (((w.alloc (.cells #[.slice none 0 0] 22)).alloc (.cells #[.nilIface] 26)).alloc (.cells #[.slice none 0 0] 22)).alloc (.cells #[.string ⟨s.toArray⟩] 9) = W0 at b3 c0 c1 c2 hB0 hsz ⊢
  clear b0 b1 b2
  refine wpIn_rangeBox rfl (by omega) (gf := 39) (lb := #[.pointer (some ⟨w.heap.size + 1 + 1 + 1, 0, none⟩)]) rfl trivial (enters_of Tryz.func39 (by kernel_rfl) rfl) (box := w.heap.size + 1 + 1 + 1) (by omega)
    (lines_seq _ (by omega) (w.heap.size + 1 + 1 + 1) s hlen _ b3) (Below.refl _ _) (fun _ => rfl)
    (fun pre W => (∃ v, Boxed W (w.heap.size + 1 + 1) 22 v ∧ W.ownsRow (w.heap.size + 4) 41 5 v pre.length (wlcells (l.take pre.length))) ∧
      (Boxed W w.heap.size 22 (.slice none 0 0) ∧ Boxed W (w.heap.size + 1) 26 .nilIface ∧ w.heap.size + 4 ≤ W.heap.size) ∧ Below w.heap.size w W)
    (fun _ _ _ => False)
    (StaysOwn.and (fun pre W W' row hs hg hr => by obtain ⟨v, hv, hrow⟩ := hs; exact ⟨v, boxed_stays hv hg hr (by omega), row_stays hrow hg hr (by omega)⟩)
      (StaysOwn.and (fun pre W W' row hs hg hr => ⟨boxed_stays hs.1 hg hr (by omega), boxed_stays hs.2.1 hg hr (by omega), Nat.le_trans hs.2.2 hg.size⟩) (stays_below (Nat.le_refl _) (by omega) (by omega))))
    (fun _ _ _ _ _ hs _ _ => hs)
    ⟨⟨_, c2, World.ownsRow_nil _ _ _ _⟩, ⟨c0, c1, by omega⟩, hB0⟩
    (fun x => { tmps := #[.string ⟨s.toArray⟩, undef, .pointer (some ⟨w.heap.size, 0, none⟩), .pointer (some ⟨w.heap.size + 1, 0, none⟩), .pointer (some ⟨w.heap.size + 1 + 1, 0, none⟩), .string ⟨x.toArray⟩, undef, undef, undef, .string ⟨s.toArray⟩, .func (.func 39) #[] #[.pointer (some ⟨w.heap.size + 1 + 1 + 1, 0, none⟩)], .string ⟨x.toArray⟩, undef, undef, undef, undef, undef, undef, undef, undef, undef, undef, undef, undef, undef, undef, undef, undef, undef, undef, undef, undef, undef, undef, undef], defers := [] }) ?assign ?body ?done ?stop
  case assign =>
    intro l x W K hK
    gi_wp2
    exact hK
  case body =>
    rintro lp pre x W ⟨⟨v, hv, hrow⟩, ⟨h0, h1, hw4⟩, hB⟩ hR
    rw [HLL.out] at hR
    obtain ⟨hq, hx⟩ := prefix_snoc hR
    have hxm := List.getElem_mem hq
    have hxt := HT.out _ hxm
    have hrd := read_want (HL.out.right _ hxm)
    have HNEXT : Hid (wlcells (l.take (pre ++ [x]).length) = wlcells (l.take pre.length) ++ wcells l[pre.length]) := by
      show _ = _
      rw [List.length_append, List.length_singleton, List.take_succ_eq_append_getElem hq, wlcells_app]
      simp [wlcells]
    have HR := Lib.hid (readLine_any p (textW l[pre.length]) W (HE.out.below hB) hxt)
    rw [hrd, ← hx] at HR
    dsimp only [errV] at HR
    generalize l[pre.length] = y at HNEXT HR
    obtain ⟨n, u, k, sp, m⟩ := y
    have HB := Lib.hid hB
    have hBs := hB.size
    have HX := Lib.hid (And.intro h0 h1)
    have hbx : ∀ {W' : World}, Below W.heap.size W W' → W'.heap[w.heap.size + 1 + 1 + 1]? = W.heap[w.heap.size + 1 + 1 + 1]? := fun h => h.block _ (by omega)
    clear hB h0 h1 hrd hxt hxm hx hR
    gi_wp2_with fail
    refine ⟨trivial, (CallsIn.inRound lp (callsIn_wide.2 HR.out)).mono ?_⟩
    rintro e w1 ⟨rfl, hb1⟩
    have HV1 := Lib.hid (show Boxed w1 (w.heap.size + 1 + 1) 22 v from (hb1.block _ hv.lt).trans hv)
    have HROW := Lib.hid (owns_below hrow hb1)
    have HB1 := Lib.hid hb1
    have hbs1 := hb1.size
    clear hb1 hrow HR
    have hba : Below w1.heap.size w1 (w1.alloc (wo n u k sp m)) := (Below.refl _ _).alloc (Nat.le_refl _) _
    have HBA := Lib.hid hba
    have hv3 : Boxed (w1.alloc (wo n u k sp m)) (w.heap.size + 1 + 1) 22 v := HV1.out.alloc _
    have hrow2 := owns_below HROW.out hba
    have q6 := hv3.cell
    have HV3 := Lib.hid hv3
    clear hv3 hba
    have hq' : pre.length < 20 := by omega
    gi_wp2_with (gi_at_builtin; refine wpListIn_append_own _ rfl _ _ 22 rfl (w.heap.size + 4) 41 i0 (.agg #[.string ⟨#[]⟩, .string ⟨#[]⟩, .string ⟨#[]⟩, .int .i64 0, .int .i64 0]) 5 64 Tryz.underlying22 hi hz0 hz1 hz2 rfl (by decide) _ _ _ rfl (hrow2.alloc _) ⟨w1.heap.size + 1, 0, none⟩ 1 1 (wcells ⟨n, u, k, sp, m⟩) rfl rfl (fun j x hx => by simpa using wcells_new (w1.alloc (wo n u k sp m)) ⟨n, u, k, sp, m⟩ 41 j x hx) (by simp [wcells, Value.oneCell']) (by unfold maxLen; omega) (by omega) (by simp; omega) ?_; intro v' w2 hown' hgrow _; obtain ⟨g', cap', rfl⟩ := ownsRow_succ hown'; obtain ⟨hv1, hv2, hr2, hk2, hb2'⟩ := HV3.out.appended (n₀ := w.heap.size) (by decide) (hrow2.mono (by omega)) (by simp; omega) (by omega) (hown'.mono (by omega)) hgrow; have hc3 := hv1.cell; have hf3 := hv1.frozen)
    have hal : Below W.heap.size W (w1.alloc (wo n u k sp m)) := HB1.out.trans (HBA.out.mono HB1.out.size)
    have hkept : ∀ j, j < w.heap.size + 4 → j ≠ w.heap.size + 1 + 1 → (w2.setCell ⟨w.heap.size + 1 + 1, 0, none⟩ (.slice (some ⟨g', 0, none⟩) (pre.length + 1) cap')).heap[j]? = W.heap[j]? := fun j hj hne =>
      (append_keeps (j := j) (B := w.heap.size + 1 + 1) hrow2 hgrow hj (by simp; omega) hne _).trans (hal.block j (by omega))
    have hr3 := hown'.kept (grownBy_setCell' w2 (w.heap.size + 1 + 1) (.slice (some ⟨g', 0, none⟩) (pre.length + 1) cap')) (.inr (hv1.not_row (by decide) hown').symm)
    have hkf : KeepsFrom W0.heap.size W (w1.alloc (wo n u k sp m)) := ⟨hal.size, fun j o _ hj _ => (hal.block j (Array.getElem?_eq_some_iff.1 hj).1).trans hj⟩
    refine ⟨hkf.trans (hk2.from _), hkept _ (by omega) (by omega), ⟨_, hv2, ?_⟩, ⟨(hkept _ (by omega) (by omega)).trans HX.out.1, (hkept _ (by omega) (by omega)).trans HX.out.2, ?_⟩, (HB.out.trans (hal.mono HB.out.size)).trans hb2'⟩
    · rw [HNEXT.out]
      simpa using hr3
    · have := hk2.size
      have := hal.size
      omega
  case done =>
    rintro D ys W hD hys ⟨⟨v, hv, hrow⟩, ⟨h0, h1, hw4⟩, hB⟩ hK
    have hyl : ys.length = l.length := by rw [hys, HLL.out, List.length_map]
    rw [hyl, List.take_length] at hrow
    obtain ⟨a, cap, rfl, hla, _⟩ := owns_lies_w hrow
    have hcap := owns_cap_w hrow
    have HROW := Lib.hid hrow
    have HLA := Lib.hid hla
    have HB := Lib.hid hB
    have HV := Lib.hid hv
    have HX := Lib.hid (And.intro h0 h1)
    have c2 := hv.cell
    clear hB hrow hla hyl hys hv h0 h1
    gi_wp2_with fail
    refine ⟨trivial, (callsIn_wide.2 (lockCheck_any p l a cap _ (HE.out.below HB.out) HLA.out hcap HS.out)).mono ?_⟩
    rintro e w1 ⟨⟨v, rfl, hv⟩, hb1⟩
    rw [lock_zero HL.out] at hv
    have := hv.isNil
    subst this
    have d0 : Boxed w1 w.heap.size 22 (.slice none 0 0) := (hb1.block _ HX.out.1.lt).trans HX.out.1
    have d1 : Boxed w1 (w.heap.size + 1) 26 .nilIface := (hb1.block _ HX.out.2.lt).trans HX.out.2
    have d2 : Boxed w1 (w.heap.size + 1 + 1) 22 (.slice a l.length cap) := (hb1.block _ HV.out.lt).trans HV.out
    have HB1 := Lib.hid (HB.out.trans (hb1.mono HB.out.size))
    have e0 := d0.cell
    have f0 := d0.frozen
    have e1 := d1.cell
    have f1 := d1.frozen
    have e2 := d2.cell
    have hK1 := (hb1.block D (Array.getElem?_eq_some_iff.1 hK).1).trans hK
    have HROW1 := Lib.hid (owns_below HROW.out hb1)
    clear hv hb1 hK
    gi_wp2
    obtain ⟨q0, q1, q2, q3⟩ := stored_both (w := w) (x := .slice a l.length cap) (y := .nilIface) e0 e1 HB1.out
    have hK' := q3.same D _ hK1 rfl
    refine ⟨by simp, .inl ⟨_, _, rfl, run_takeDeferred hK', ?_⟩⟩
    have hc5 := cell_kept q0 (grownBy_putObj' _ D (.deferred none)) (fun r e => by cases e; exact ⟨_, hK', rfl⟩)
    have hc6 := cell_kept q1 (grownBy_putObj' _ D (.deferred none)) (fun r e => by cases e; exact ⟨_, hK', rfl⟩)
    refine ⟨.tuple #[.slice a l.length cap, .nilIface], by simp [results, Tryz.f8, go_sem, hc5, hc6], ?_, q2.trans (belowK_b (w := w) (Nat.le_refl _) _ D _ _ (by omega) hK' rfl rfl)⟩
    refine ⟨a, cap, rfl, ?_, hcap, fun b o t e => by subst e; have := (HROW.out.lt b rfl).1; omega⟩
    have hrw := owns_keep (w' := (w1.setCell ⟨w.heap.size, 0, none⟩ (.slice a l.length cap)).setCell ⟨w.heap.size + 1, 0, none⟩ .nilIface) HROW1.out fun g hg _ => by
      rw [Below.heap_setCell _ _ _ _ (by simp; omega), Below.heap_setCell _ _ _ _ (by simp; omega)]
    obtain ⟨a', cap', e', hla', _⟩ := owns_lies_w (ownsRow_putObj hrw (.deferred none) hK' rfl)
    cases e'
    exact hla'
  case stop =>
    rintro D c pre W _ _ h _
    exact h.elim
end Go.Proofs.YtmeipangcgdinaaGreatDoor
