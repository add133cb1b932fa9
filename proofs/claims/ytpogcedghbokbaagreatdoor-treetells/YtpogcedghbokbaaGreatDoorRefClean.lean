/-
  CleanOf and JoinOf of the document's answer tell what the plain functions tell: contracts, over this seat's translation.
-/
import Derived.Test.YtpogcedghbokbaaGreatDoorRefMore
import Derived.Laws.AppendOwnNone
namespace Go.Proofs.YtpogcedghbokbaaGreatDoor
open Go.RowKit Go.Shelf

/-- The pieces kept and the error's number behind the first k pieces. -/
def keptAt (s : List UInt8) (k : Nat) : List (List UInt8) := (cleanF ((pieces s).take k)).1
def codeTo (s : List UInt8) (k : Nat) : Nat := (cleanF ((pieces s).take k)).2

theorem step_to {s : List UInt8} {k : Nat} (h : k < (pieces s).length) {c : List (List UInt8) × Nat} (hc : cleanStep (keptAt s k, codeTo s k) (pieces s)[k] = c) : keptAt s (k + 1) = c.1 ∧ codeTo s (k + 1) = c.2 := by
  have : cleanF ((pieces s).take (k + 1)) = c := by
    rw [List.take_succ_eq_append_getElem h, cleanF_snoc]
    exact hc
  exact ⟨by unfold keptAt; rw [this], by unfold codeTo; rw [this]⟩

theorem clean_stop {s : List UInt8} {k c : Nat} (hh : s.head? ≠ some 47) (h : codeTo s k = c + 1) : cleanL s = ([], c + 1) := by
  have hp : (pieces s).take k <+: pieces s := List.take_prefix _ _
  have e := cleanF_prefix hp (by unfold codeTo at h; rw [h]; simp)
  have e2 : (cleanF (pieces s)).2 = c + 1 := by rw [e]; exact h
  unfold cleanL
  rw [if_neg hh, e2, if_pos (by simp)]

theorem clean_end {s : List UInt8} (hh : s.head? ≠ some 47) (h : codeTo s (pieces s).length = 0) : cleanL s = if 6 < (keptAt s (pieces s).length).length then ([], 8) else (Lib.join (keptAt s (pieces s).length) [47], 0) := by
  unfold codeTo at h
  unfold keptAt
  rw [List.take_length] at h ⊢
  unfold cleanL
  rw [if_neg hh, h]
  simp

set_option maxRecDepth 100000 in
set_option maxHeartbeats 1000000 in
theorem cleanOf_root (s : List UInt8) (w : World) (hs : s.length ≤ 90000) (h : s.head? = some 47) :
    Calls Tryz.prog 68 #[.string ⟨s.toArray⟩] w fun e w' => e = .returned (.tuple #[.string ⟨(cleanL s).1.toArray⟩, .int .i64 (cleanL s).2]) ∧ Below w.heap.size w w' := by
  have e : cleanL s = ([], 3) := by unfold cleanL; rw [if_pos h]
  rw [e]
  clear e
  obtain ⟨r, rfl⟩ : ∃ r, s = 47 :: r := by
    cases s with
    | nil => simp at h
    | cons c r => simp at h; exact ⟨r, by rw [h]⟩
  clear h
  go_enter Tryz.func68, Tryz.ntmps68
  go_wp2
  go_ret2
  exact ⟨rfl, Below.refl _ _⟩

set_option maxRecDepth 100000 in
set_option maxHeartbeats 1000000 in
theorem cleanOf_nil (w : World) : Calls Tryz.prog 68 #[.string ⟨#[]⟩] w fun e w' => e = .returned (.tuple #[.string ⟨#[]⟩, .int .i64 0]) ∧ Below w.heap.size w w' := by
  go_enter Tryz.func68, Tryz.ntmps68
  go_wp2_with fail
  refine (refCut_any [] _ (by decide)).mono ?_
  rintro e w1 ⟨v, rfl, hrow, hb⟩
  have HB : Hid (Below w.heap.size w w1) := hb
  rw [show pieces [] = [[]] from rfl] at hrow
  obtain ⟨g, cap, rfl⟩ := ownsRow_succ (k := 0) hrow
  have hcell := hrow.cellAt 0 (by decide)
  simp at hcell
  clear hrow hb
  go_wp2_with fail
  refine wp_loop_rounds 2 ?_
  rw [rounds_succ]
  go_wp2
  rw [rounds_succ]
  go_wp2_with fail
  refine (glue_none _ _ _).mono ?_
  rintro e w2 ⟨rfl, rfl⟩
  go_wp2
  go_ret2
  exact ⟨rfl, HB.out⟩

theorem glue_all (base cap : Nat) (a : Option Addr) (k : List (List UInt8)) (w : World) (hrow : w.ownsRow base 9 1 (.slice a k.length cap) k.length (k.map sv)) (hk : k.length ≤ 100000) (hM : ∀ x ∈ k, x.length ≤ 100000) :
    Calls Tryz.prog 71 #[.slice a k.length cap] w fun e w' => e = .returned (.string ⟨(Lib.join k [47]).toArray⟩) ∧ w' = w := by
  cases k with
  | nil => exact glue_none a cap w
  | cons x k =>
    obtain ⟨g, cap', hv⟩ := ownsRow_succ (k := k.length) hrow
    simp only [Value.slice.injEq] at hv
    obtain ⟨rfl, _, rfl⟩ := hv
    obtain ⟨hcell, _⟩ := owns_cells (k := x :: k) hrow rfl
    exact glue_own g 0 cap (x :: k) w hk hM (fun j h => by rw [Nat.zero_add]; exact hcell j h)

set_option maxRecDepth 100000 in
set_option maxHeartbeats 4000000 in
theorem cleanOf_text (s : List UInt8) (w : World) (hs : s.length ≤ 90000) (h0 : s ≠ []) (hh : s.head? ≠ some 47) :
    Calls Tryz.prog 68 #[.string ⟨s.toArray⟩] w fun e w' => e = .returned (.tuple #[.string ⟨(cleanL s).1.toArray⟩, .int .i64 (cleanL s).2]) ∧ Below w.heap.size w w' := by
  obtain ⟨i0, hi, hz0, hz1, hz2⟩ := info_parts Tryz.info9
  have HH : Hid (s.head? ≠ some 47) := hh
  have hpl := pieces_length s
  have hpn : 1 ≤ (pieces s).length := by
    have := pieces_ne s
    rcases hl : pieces s with _ | ⟨x, r⟩
    · exact absurd hl this
    · simp
  have hlen : 0 < s.length := List.length_pos_iff.2 h0
  have hsz : 0 < ({ data := s.toArray } : ByteArray).size := by simpa [ByteArray.size] using hlen
  have hbyte : (((({ data := s.toArray } : ByteArray)[0]'hsz).toNat : Int) == 47) = false := by
    show (((s[0]).toNat : Int) == 47) = false
    rw [beq_eq_false_iff_ne]
    intro e
    apply hh
    rw [List.head?_eq_getElem?, List.getElem?_eq_getElem hlen]
    congr 1
    apply UInt8.toNat_inj.1
    have : (47 : UInt8).toNat = 47 := rfl
    omega
  have hlen' : (0 : Int) < s.length := by omega
  clear hh h0
  go_enter Tryz.func68, Tryz.ntmps68
  go_wp2_with fail
  refine (refCut_any s _ hs).mono ?_
  rintro e w1 ⟨v, rfl, hrow, hb⟩
  have HB : Hid (Below w.heap.size w w1) := hb
  obtain ⟨q, hq⟩ : ∃ q, (pieces s).length = q + 1 := ⟨(pieces s).length - 1, by omega⟩
  have hrow' := hrow
  rw [hq] at hrow'
  obtain ⟨g, cap, rfl⟩ := ownsRow_succ hrow'
  rw [← hq] at hrow
  obtain ⟨hcell, hgl, _, _⟩ := owns_cells hrow rfl
  have HCELL : Hid (∀ j (h : j < (pieces s).length), w1.cell? ⟨g, j, none⟩ = some (.string ⟨((pieces s)[j]).toArray⟩)) := hcell
  rw [← hq]
  clear hrow hrow' hcell hb hq hbyte
  go_wp2_with fail
  go_loopw [5, 6] (fun out i wr => ∃ k : Nat, k ≤ (pieces s).length ∧ i = .int .i64 k ∧ codeTo s k = 0 ∧ wr.ownsRow w1.heap.size 9 1 out (keptAt s k).length ((keptAt s k).map sv) ∧ Below w1.heap.size w1 wr) (fun _ i _ => (pieces s).length - (intOf i).toNat)
  case atStart => exact ⟨0, by omega, rfl, rfl, World.ownsRow_nil _ _ _ _, Below.refl _ _⟩
  case round =>
    obtain ⟨k, hk, rfl, hcode, hrow, hb⟩ := hrel
    have HCO : Hid (codeTo s k = 0) := hcode
    have HBR : Hid (Below w1.heap.size w1 wr) := hb
    have hbs := hb.size
    have hkl : (keptAt s k).length ≤ k := by
      have := cleanF_length ((pieces s).take k)
      rw [List.length_take] at this
      unfold keptAt
      omega
    clear hcode hb
    by_cases hlt : k < (pieces s).length
    · have hc : wr.cell? ⟨g, k, none⟩ = some (.string ⟨((pieces s)[k]).toArray⟩) := (HBR.out.cell (p := ⟨g, k, none⟩) hgl).trans (HCELL.out k hlt)
      have hxl := pieces_le s _ (List.getElem_mem hlt)
      have HST : Hid (∀ c, cleanStep (keptAt s k, codeTo s k) (pieces s)[k] = c → keptAt s (k + 1) = c.1 ∧ codeTo s (k + 1) = c.2) := fun c h => step_to hlt h
      generalize (pieces s)[k] = x at hc hxl HST
      by_cases h0 : x = []
      · subst h0
        obtain ⟨e1, e2⟩ := HST.out _ (cleanStep_dot (st := (keptAt s k, codeTo s k)) HCO.out (.inl rfl))
        have HK : Hid (keptAt s (k + 1) = keptAt s k ∧ codeTo s (k + 1) = 0) := ⟨e1, e2.trans HCO.out⟩
        clear e1 e2
        go_wp2
        go_roundw
        case rel => exact ⟨k + 1, by omega, by go_num, HK.out.2, by rw [HK.out.1]; exact hrow, HBR.out⟩
        case measure => simp [intOf]; omega
      by_cases h1 : x = [46]
      · subst h1
        obtain ⟨e1, e2⟩ := HST.out _ (cleanStep_dot (st := (keptAt s k, codeTo s k)) HCO.out (.inr rfl))
        have HK : Hid (keptAt s (k + 1) = keptAt s k ∧ codeTo s (k + 1) = 0) := ⟨e1, e2.trans HCO.out⟩
        clear e1 e2 h0
        go_wp2
        go_roundw
        case rel => exact ⟨k + 1, by omega, by go_num, HK.out.2, by rw [HK.out.1]; exact hrow, HBR.out⟩
        case measure => simp [intOf]; omega
      have hb0 : x.isEmpty = false := by simpa using h0
      have hb1 : (x == [46]) = false := by simpa using h1
      by_cases h2 : x = [46, 46]
      · subst h2
        clear h0 h1
        by_cases hke : keptAt s k = []
        · obtain ⟨e1, e2⟩ := HST.out _ (cleanStep_out (st := (keptAt s k, codeTo s k)) HCO.out hke)
          have HC : Hid (cleanL s = ([], 9 + 1)) := clean_stop (k := k + 1) HH.out e2
          rw [hke] at hrow
          obtain ⟨a, cap', rfl⟩ := ownsRow_slice hrow
          clear e1 e2 hke hrow
          go_wp2
          go_ret2
          exact ⟨by rw [HC.out]; rfl, HB.out.trans (HBR.out.mono HB.out.size)⟩
        · obtain ⟨ks, y, hky⟩ : ∃ ks y, keptAt s k = ks ++ [y] := ⟨_, _, (List.dropLast_concat_getLast hke).symm⟩
          obtain ⟨e1, e2⟩ := HST.out _ (cleanStep_up (st := (keptAt s k, codeTo s k)) HCO.out hke)
          simp only [hky, List.dropLast_concat] at e1
          have HK : Hid (keptAt s (k + 1) = ks ∧ codeTo s (k + 1) = 0) := ⟨e1, e2⟩
          rw [hky] at hrow hkl
          simp only [List.length_append, List.length_cons, List.length_nil, Nat.zero_add] at hrow hkl
          obtain ⟨g2, cap2, rfl⟩ := ownsRow_succ hrow
          have hcap : ks.length + 1 ≤ cap2 ∧ cap2 ≤ maxLen := by
            rcases hrow.2 with ⟨h, _⟩ | ⟨g', cap', cur, hv', _, _, h1, h2, _⟩
            · cases h
            · cases hv'; exact ⟨h1, h2⟩
          rw [List.map_append] at hrow
          have HP : Hid (wr.ownsRow w1.heap.size 9 1 (.slice (some ⟨g2, 0, none⟩) ks.length cap2) ks.length (ks.map sv)) := ownsRow_pop (by simp) hrow
          obtain ⟨hcap1, hcap2⟩ := hcap
          unfold maxLen at hcap2
          clear e1 e2 hke hky hrow
          go_wp2
          go_roundw
          case rel => exact ⟨k + 1, by omega, by go_num, HK.out.2, by rw [HK.out.1]; exact HP.out, HBR.out⟩
          case measure => simp [intOf]; omega
      have hb2 : (x == [46, 46]) = false := by simpa using h2
      by_cases hp : isPart x = true
      · obtain ⟨e1, e2⟩ := HST.out _ (cleanStep_part (st := (keptAt s k, codeTo s k)) HCO.out h0 h1 h2 hp)
        have HK : Hid (keptAt s (k + 1) = keptAt s k ++ [x] ∧ codeTo s (k + 1) = 0) := ⟨e1, e2⟩
        have HPI : Hid (isPart x = true) := hp
        clear e1 e2 h0 h1 h2 hp
        rcases hrow.2 with ⟨hnil, hz⟩ | ⟨g2, cap2, cur2, hsl, hg2, hh2, hn2, hc2, hs2, ht2⟩
        · have hke : keptAt s k = [] := List.eq_nil_of_length_eq_zero hz
          subst hnil
          go_wp2_with fail
          refine (refIsPart_is x true _ (by omega) HPI.out).mono ?_
          rintro e w2 ⟨rfl, hw2⟩
          subst hw2
          clear hrow hz
          go_wp2_with (at_builtin; first | (refine wpList_append_own_none rfl _ _ 51 rfl w1.heap.size 9 i0 1 Tryz.underlying51 hi _ 0 [] rfl (World.ownsRow_nil _ _ _ _) rfl ?_) | (refine wpList_append_own _ rfl _ _ 51 rfl w1.heap.size 9 i0 (.string ⟨#[]⟩) 1 16 Tryz.underlying51 hi hz0 hz1 hz2 rfl (by decide) (.slice none 0 0) 0 [] rfl (World.ownsRow_nil _ _ _ _) ⟨w2.heap.size, 0, none⟩ 1 1 [.string ⟨x.toArray⟩] rfl rfl (cell_one_new _ _ _) (by simp [Value.oneCell']) (by unfold maxLen; omega) (by omega) (by simp; omega) ?_; intro v' w3 hown' hgrow _))
          have HB3 : Below w1.heap.size w1 w3 := (HBR.out.alloc hbs _).grown hgrow (by simp; omega) (fun j ej => by cases ej)
          refine ⟨⟨k + 1, by omega, by go_num, HK.out.2, ?_, HB3⟩, by simp [intOf]; omega⟩
          rw [HK.out.1, hke]
          simpa using hown'
        · subst hsl
          have hnews := hrow.cells (g := g2) rfl
          have hkl2 : (keptAt s k).length ≤ 90001 := by omega
          go_wp2_with fail
          refine (refIsPart_is x true _ (by omega) HPI.out).mono ?_
          rintro e w2 ⟨rfl, hw2⟩
          subst hw2
          go_wp2_with (at_builtin; first | (refine wpList_append_own _ rfl _ _ 51 rfl w1.heap.size 9 i0 (.string ⟨#[]⟩) 1 16 Tryz.underlying51 hi hz0 hz1 hz2 rfl (by decide) _ _ _ rfl (hown1.alloc _) ⟨w3.heap.size, 0, none⟩ 1 1 [.string ⟨x.toArray⟩] rfl rfl (cell_one_new _ _ _) (by simp [Value.oneCell']) (by unfold maxLen; omega) (by omega) (by simp; omega) ?_; intro v' w4 hown' hgrow _) | (refine wpList_append_own _ rfl _ _ 51 rfl w1.heap.size 9 i0 (.string ⟨#[]⟩) 1 16 Tryz.underlying51 hi hz0 hz1 hz2 rfl (by decide) (.slice none 0 0) 0 [] rfl (World.ownsRow_nil _ _ _ _) ⟨g2, 0, none⟩ (keptAt s k).length cap2 ((keptAt s k).map sv) rfl (by simp) hnews (by simp [Value.oneCell']) (by unfold maxLen; omega) (by omega) (by omega) ?_; intro v1 w3 hown1 hgrow1 _; have hz3 := hgrow1.size; have hc3 : w3.cell? ⟨g, k, none⟩ = some (.string ⟨x.toArray⟩) := (World.cell?_of_block (hgrow1.block g (by omega) (fun e => by cases e))).trans hc))
          have HB3 : Below w1.heap.size w1 w3 := HBR.out.grown hgrow1 hbs (fun j ej => by cases ej)
          have HB4 : Below w1.heap.size w1 w4 := (HB3.alloc (by omega) _).grown hgrow (by simp; omega) (fun j ej => (hown1.lt j ej).1)
          refine ⟨⟨k + 1, by omega, by go_num, HK.out.2, ?_, HB4⟩, by simp [intOf]; omega⟩
          rw [HK.out.1]
          simpa using hown'
      · have hp' : isPart x = false := by simpa using hp
        obtain ⟨e1, e2⟩ := HST.out _ (cleanStep_none (st := (keptAt s k, codeTo s k)) HCO.out h0 h1 h2 hp')
        have HC : Hid (cleanL s = ([], 4 + 1)) := clean_stop (k := k + 1) HH.out e2
        have HPI : Hid (isPart x = false) := hp'
        clear e1 e2 h0 h1 h2 hp hp'
        go_wp2_with fail
        refine (refIsPart_is x false _ (by omega) HPI.out).mono ?_
        rintro e w2 ⟨rfl, rfl⟩
        go_wp2
        go_ret2
        exact ⟨by rw [HC.out]; rfl, HB.out.trans (HBR.out.mono HB.out.size)⟩
    · have hkeq : k = (pieces s).length := by omega
      have HCL : Hid (cleanL s = if 6 < (keptAt s k).length then ([], 8) else (Lib.join (keptAt s k) [47], 0)) := by
        subst hkeq
        exact clean_end HH.out HCO.out
      have HPT : Hid (∀ x ∈ keptAt s k, x.length ≤ 100000) := fun x hx => by have := isPart_length (cleanF_parts _ x hx); omega
      clear hkeq
      generalize keptAt s k = kk at hrow hkl HCL HPT
      obtain ⟨a, cap2, rfl⟩ := ownsRow_slice hrow
      by_cases hl : 6 < kk.length
      · have hl' : (6 : Int) < kk.length := by omega
        go_wp2
        go_ret2
        exact ⟨by rw [HCL.out, if_pos hl]; rfl, HB.out.trans (HBR.out.mono HB.out.size)⟩
      · have hl' : ¬ (6 : Int) < kk.length := by omega
        go_wp2_with fail
        refine (glue_all w1.heap.size cap2 a kk _ hrow (by omega) HPT.out).mono ?_
        rintro e w2 ⟨rfl, rfl⟩
        go_wp2
        go_ret2
        exact ⟨by rw [HCL.out, if_neg hl]; rfl, HB.out.trans (HBR.out.mono HB.out.size)⟩

theorem cleanOf_any (s : List UInt8) (w : World) (hs : s.length ≤ 90000) :
    Calls Tryz.prog 68 #[.string ⟨s.toArray⟩] w fun e w' => e = .returned (.tuple #[.string ⟨(cleanL s).1.toArray⟩, .int .i64 (cleanL s).2]) ∧ Below w.heap.size w w' := by
  by_cases hh : s.head? = some 47
  · exact cleanOf_root s w hs hh
  · by_cases h0 : s = []
    · subst h0
      have e : cleanL [] = ([], 0) := by decide +kernel
      rw [e]
      exact cleanOf_nil w
    · exact cleanOf_text s w hs h0 hh

set_option maxHeartbeats 1000000 in
theorem joinOf_any (dir s : List UInt8) (w : World) (hd : dir.length ≤ 40000) (hs : s.length ≤ 40000) :
    Calls Tryz.prog 47 #[.string ⟨dir.toArray⟩, .string ⟨s.toArray⟩] w fun e w' => e = .returned (.tuple #[.string ⟨(cleanL (joinTo dir s)).1.toArray⟩, .int .i64 (cleanL (joinTo dir s)).2]) ∧ Below w.heap.size w w' := by
  by_cases h0 : dir = []
  · subst h0
    have e : joinTo [] s = s := by simp [joinTo]
    rw [e]
    go_enter Tryz.func47, Tryz.ntmps47
    go_wp2_with fail
    refine (cleanOf_any s _ (by omega)).mono ?_
    rintro e w1 ⟨rfl, hb⟩
    have HB : Hid (Below w.heap.size w w1) := hb
    clear hb
    go_wp2
    go_ret2
    exact ⟨rfl, HB.out⟩
  · have e : joinTo dir s = dir ++ 47 :: s := by simp [joinTo, h0]
    rw [e]
    have hb0 : dir.isEmpty = false := by simpa using h0
    clear h0 e
    go_enter Tryz.func47, Tryz.ntmps47
    go_wp2_with fail
    rw [show ({ data := dir.toArray } : ByteArray) ++ { data := #[47] } ++ { data := s.toArray } = ⟨(dir ++ 47 :: s).toArray⟩ from by
      rw [show ({ data := #[47] } : ByteArray) = ⟨[47].toArray⟩ from rfl, cat_list, cat_list]; simp]
    refine (cleanOf_any (dir ++ 47 :: s) _ (by simp; omega)).mono ?_
    rintro e w1 ⟨rfl, hb⟩
    have HB : Hid (Below w.heap.size w w1) := hb
    clear hb
    go_wp2
    go_ret2
    exact ⟨rfl, HB.out⟩
end Go.Proofs.YtpogcedghbokbaaGreatDoor
