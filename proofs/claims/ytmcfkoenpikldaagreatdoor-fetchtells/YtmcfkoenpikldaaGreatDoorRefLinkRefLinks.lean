/-
  Own texts of the proof, joined by program: RefLink, RefLinks.
-/
import Derived.Test.YtmcfkoenpikldaaGreatDoorRefCutPartsRefRefBeginsRefMore
import Derived.Test.YtmcfkoenpikldaaGreatDoorLinkPureNetPureMirrorPure
import Derived.Lib.Hide
/-
  The document's answer for links: InTexts, LinkParts: contracts, over this seat's translation.
-/
namespace Go.Proofs.YtmcfkoenpikldaaGreatDoor
open Go.RowKit Go.Shelf

theorem contains_take {k : List (List UInt8)} {s : List UInt8} {q : Nat} (hq : q < k.length) (h : (k.take q).contains s = false) (hx : k[q] ≠ s) : (k.take (q + 1)).contains s = false := by
  rw [List.take_succ_eq_append_getElem hq]
  simp only [List.contains_eq_mem, List.mem_append, List.mem_singleton, decide_eq_false_iff_not, not_or] at h ⊢
  exact ⟨h, fun e => hx e.symm⟩

set_option maxHeartbeats 1000000 in
theorem inTexts_any (s : List UInt8) (g o cap : Nat) (k : List (List UInt8)) (w : World) (hk : k.length ≤ 100000) (h : ∀ j (h : j < k.length), w.cell? ⟨g, o + j, none⟩ = some (.string ⟨(k[j]).toArray⟩)) :
    Calls Tryz.prog 126 #[.string ⟨s.toArray⟩, .slice (some ⟨g, o, none⟩) k.length cap] w fun e w' => e = .returned (.bool (decide (s ∈ k))) ∧ w' = w := by
  have H := Lib.hid h
  clear h
  go_enter Tryz.func126, Tryz.ntmps126
  go_wp2_with fail
  go_loop [5] (fun i => ∃ q : Nat, q ≤ k.length ∧ i = .int .i64 q ∧ (k.take q).contains s = false) (fun i => k.length - (intOf i).toNat)
  case atStart => exact ⟨0, by omega, rfl, by simp⟩
  case round =>
    obtain ⟨q, hq, rfl, hn⟩ := hrel
    have HN := Lib.hid hn
    clear hn
    by_cases hlt : q < k.length
    · have hc := H.out q hlt
      have hlt' : (q : Int) < (k.length : Int) := by omega
      by_cases hx : k[q] = s
      · have HF : Hid (decide (s ∈ k) = true) := by
          show decide (s ∈ k) = true
          rw [decide_eq_true_eq, ← hx]
          exact List.getElem_mem hlt
        rw [hx] at hc
        clear hx
        go_wp2
        go_ret
        exact ⟨ret_bool HF.out.symm, rfl⟩
      · have HF := Lib.hid (contains_take hlt HN.out hx)
        have hx' : (k[q] == s) = false := by simpa using hx
        clear hx
        generalize k[q] = x at hc hx'
        go_wp2
        go_round
        case rel => exact ⟨q + 1, by omega, by go_num, HF.out⟩
        case measure => simp [intOf]; omega
    · have hql : q = k.length := by omega
      have HF : Hid (decide (s ∈ k) = false) := by
        have := HN.out
        rw [hql, List.take_length, List.contains_eq_mem] at this
        exact this
      clear hql
      go_wp2
      go_ret
      exact ⟨ret_bool HF.out.symm, rfl⟩

theorem kinds_contains (k : List UInt8) : decide (k ∈ [[104, 116, 116, 112], [102, 116, 112], [102, 105, 108, (101 : UInt8)]]) = kindL k := by
  rw [← List.contains_eq_mem]
  simp only [kindL, List.contains_cons, List.contains_nil, Bool.or_false, Bool.or_assoc]

/-- Four results. -/
theorem results_tmp4 {fn : Func} {t u v x : Tmp} (h : fn.results = #[.tmp t, .tmp u, .tmp v, .tmp x]) (tmps : Array Value) (P : Program) (w : World) :
    (results fn tmps).run P w = .ok (.tuple #[tmps.getD t undef, tmps.getD u undef, tmps.getD v undef, tmps.getD x undef]) w := by
  simp [results, h]
theorem extract_from (l : List UInt8) (i : Nat) : ({ data := l.toArray } : ByteArray).extract i l.length = ⟨(l.drop i).toArray⟩ := by
  rw [extract_list, List.take_of_length_le (by rw [List.length_drop]; omega)]
theorem extract_to (l : List UInt8) (i : Nat) : ({ data := l.toArray } : ByteArray).extract 0 i = ⟨(l.take i).toArray⟩ := by
  rw [extract_list]; simp
theorem kinds_cells (w : World) (t : TypeId) : ∀ j (h : j < [[104, 116, 116, 112], [102, 116, 112], [102, 105, 108, (101 : UInt8)]].length),
    (w.alloc (.cells #[.string ⟨#[104, 116, 116, 112]⟩, .string ⟨#[102, 116, 112]⟩, .string ⟨#[102, 105, 108, 101]⟩] t)).cell? ⟨w.heap.size, 0 + j, none⟩ = some (.string ⟨([[104, 116, 116, 112], [102, 116, 112], [102, 105, 108, (101 : UInt8)]][j]).toArray⟩) := by
  intro j h
  simp at h
  rcases j with _ | _ | _ | j
  · simp
  · simp
  · simp
  · omega

theorem drawn_below' (w : World) (n : Nat) : Below w.heap.size w (w.drewN n) := ⟨rfl, rfl, rfl, Nat.le_refl _, fun _ _ => rfl⟩

set_option maxRecDepth 100000 in
set_option maxHeartbeats 4000000 in
theorem linkParts_any (s : List UInt8) (w : World) (hs : s.length ≤ 90000) :
    Calls Tryz.prog 125 #[.string ⟨s.toArray⟩] w fun e w' => (∃ k, e = .returned (.tuple #[.string k, .string ⟨(linkL s).1.toArray⟩, .string ⟨(linkL s).2.1.toArray⟩, .int .i64 (linkL s).2.2])) ∧ Below w.heap.size w w' := by
  go_enter Tryz.func125, Tryz.ntmps125
  go_wp2_with fail
  go_loop [6] (fun i => ∃ k : Nat, k ≤ s.length ∧ i = .int .i64 k ∧ cutM s = (cutM (s.drop k)).map fun ab => (s.take k ++ ab.1, ab.2)) (fun i => s.length - (intOf i).toNat)
  case atStart => exact ⟨0, by omega, rfl, by simp⟩
  case round =>
    obtain ⟨k, hk, rfl, hm⟩ := hrel
    have HM := Lib.hid hm
    clear hm
    by_cases hlt : k < s.length
    · cases hp : List.isPrefixOf [58, 47, 47] (s.drop k) with
      | false =>
        have HN := Lib.hid (cutM_step hlt HM.out hp)
        have HP : Hid (Lib.hasPrefix (s.drop k) [58, 47, 47] = false) := hp
        have hlt' : (k : Int) < s.length := by omega
        clear hp
        go_wp2_with fail
        rw [extract_from]
        refine (begins_any (s.drop k) [58, 47, 47] _ (by rw [List.length_drop]; omega) (by decide)).mono ?_
        rintro e w' ⟨rfl, rfl⟩
        rw [HP.out]
        go_wp2
        go_round
        case rel => exact ⟨k + 1, by omega, by go_num, HN.out⟩
        case measure => simp [intOf]; omega
      | true =>
        obtain ⟨hf, hk3⟩ := cutM_found HM.out hp
        have HF := Lib.hid hf
        have HP : Hid (Lib.hasPrefix (s.drop k) [58, 47, 47] = true) := hp
        have hlt' : (k : Int) < s.length := by omega
        have hne : ((k : Int) == s.length) = false := by rw [beq_eq_false_iff_ne]; omega
        clear hp hf
        go_wp2_with fail
        rw [extract_from]
        refine (begins_any (s.drop k) [58, 47, 47] _ (by rw [List.length_drop]; omega) (by decide)).mono ?_
        rintro e w' ⟨rfl, rfl⟩
        rw [HP.out]
        go_wp2_with fail
        go_loop [8] (fun kk => ∃ q : Nat, k + 3 ≤ q ∧ q ≤ s.length ∧ kk = .int .i64 q ∧ cutL (s.drop (k + 3)) = (cutL (s.drop q)).map fun ab => ((s.drop (k + 3)).take (q - (k + 3)) ++ ab.1, ab.2)) (fun kk => s.length - (intOf kk).toNat)
        case atStart => exact ⟨k + 3, by omega, by omega, by go_num, by simp⟩
        case round =>
          obtain ⟨q, hkq, hq, rfl, hc⟩ := hrel
          have HC := Lib.hid hc
          clear hc
          by_cases hlq : q < s.length
          · have hlq' : (q : Int) < s.length := by omega
            have hsz : q < ({ data := s.toArray } : ByteArray).size := by simpa [ByteArray.size] using hlq
            by_cases h47 : s[q] = 47
            · have hbyte : ((({ data := s.toArray } : ByteArray)[q]'hsz).toNat : Int) = 47 := by
                show ((s[q]).toNat : Int) = 47
                rw [h47]; rfl
              have HD := Lib.hid (cutL_found hlq HC.out h47)
              have hnq : ((q : Int) == s.length) = false := by rw [beq_eq_false_iff_ne]; omega
              clear h47
              go_wp2_with fail
              rw [extract_to]
              refine (inTexts_any (s.take k) _ 0 _ [[104, 116, 116, 112], [102, 116, 112], [102, 105, 108, 101]] _ (by decide) (kinds_cells _ _)).mono ?_
              rintro e w2 ⟨rfl, rfl⟩
              rw [kinds_contains]
              have hhl : ((s.drop (k + 3)).take (q - (k + 3))).length ≤ 100000 := by rw [List.length_take, List.length_drop]; omega
              cases hkd : kindL (s.take k) with
              | false =>
                have HR := Lib.hid (link_kind HF.out HD.out hkd)
                clear hkd
                go_wp2
                refine bodyPost_ret (results_tmp4 rfl _ _ _) rfl ?_
                exact ⟨⟨_, by rw [HR.out]; rfl⟩, (Below.refl _ _).alloc (Nat.le_refl _) _⟩
              | true =>
                cases hip : isPart ((s.drop (k + 3)).take (q - (k + 3))) with
                | false =>
                  have HR := Lib.hid (link_host HF.out HD.out hkd hip)
                  have HI := Lib.hid hip
                  clear hkd hip
                  go_wp2_with fail
                  rw [extract_list]
                  refine (refIsPart_is _ false _ hhl HI.out).mono ?_
                  rintro e w3 ⟨rfl, rfl⟩
                  go_wp2
                  refine bodyPost_ret (results_tmp4 rfl _ _ _) rfl ?_
                  exact ⟨⟨_, by rw [HR.out]; rfl⟩, (Below.refl _ _).alloc (Nat.le_refl _) _⟩
                | true =>
                  have HR := Lib.hid (link_ok HF.out HD.out hkd hip)
                  have HI := Lib.hid hip
                  clear hkd hip
                  go_wp2_with fail
                  rw [extract_list]
                  refine (refIsPart_is _ true _ hhl HI.out).mono ?_
                  rintro e w3 ⟨rfl, rfl⟩
                  have g1 : (k : Int) + 3 ≤ q := by omega
                  have g2 : (q : Int) + 1 ≤ s.length := by omega
                  go_wp2_with fail
                  go_quiet (fail)
                  go_wp2
                  refine bodyPost_ret (results_tmp4 rfl _ _ _) rfl ?_
                  refine ⟨⟨({ data := s.toArray } : ByteArray).extract 0 k, ?_⟩, ?_⟩
                  · show Ending.returned (.tuple #[.string (({ data := s.toArray } : ByteArray).extract 0 k), .string (({ data := s.toArray } : ByteArray).extract (k + 3) q), .string (({ data := s.toArray } : ByteArray).extract (q + 1) s.length), .int .i64 0]) = _
                    rw [HR.out, extract_list s (k + 3) q, extract_from]
                    rfl
                  · exact ((Below.refl _ _).alloc (Nat.le_refl _) _).trans ((drawn_below' _ _).mono (by simp))
            · have hbyte : ¬ ((({ data := s.toArray } : ByteArray)[q]'hsz).toNat : Int) = 47 := by
                show ¬ ((s[q]).toNat : Int) = 47
                intro e
                apply h47
                apply UInt8.toNat_inj.1
                have : (47 : UInt8).toNat = 47 := rfl
                omega
              have HD := Lib.hid (cutL_step hkq hlq HC.out h47)
              clear h47
              go_wp2
              go_round
              case rel => exact ⟨q + 1, by omega, by omega, by go_num, HD.out⟩
              case measure => simp [intOf]; omega
          · have hql : q = s.length := by omega
            subst hql
            have HR := Lib.hid (link_end HF.out (cutL_lost HC.out))
            clear hlq
            go_wp2
            refine bodyPost_ret (results_tmp4 rfl _ _ _) rfl ?_
            exact ⟨⟨_, by rw [HR.out]; rfl⟩, Below.refl _ _⟩
    · have hkl : k = s.length := by omega
      subst hkl
      have HR := Lib.hid (link_no (cutM_lost HM.out))
      clear hlt
      go_wp2
      refine bodyPost_ret (results_tmp4 rfl _ _ _) rfl ?_
      exact ⟨⟨_, by rw [HR.out]; rfl⟩, Below.refl _ _⟩
end Go.Proofs.YtmcfkoenpikldaaGreatDoor
/-
  The document's answer for links: LinkError, BeginError, SwapOf: contracts, over this seat's translation.
-/
namespace Go.Proofs.YtmcfkoenpikldaaGreatDoor
open Go.RowKit Go.Shelf

theorem linkParts_is (s h q : List UInt8) (c : Nat) (w : World) (hs : s.length ≤ 90000) (e : linkL s = (h, q, c)) :
    Calls Tryz.prog 125 #[.string ⟨s.toArray⟩] w fun e w' => (∃ k, e = .returned (.tuple #[.string k, .string ⟨h.toArray⟩, .string ⟨q.toArray⟩, .int .i64 c])) ∧ Below w.heap.size w w' := by
  have := linkParts_any s w hs
  rwa [e] at this
theorem parts_short {s h q : List UInt8} {k : Nat} (e : linkL s = (h, q, k)) : h.length ≤ s.length ∧ q.length ≤ s.length ∧ k ≤ 5 := by
  have := link_short s
  rw [e] at this
  exact this
theorem checkK_bad {s h q : List UInt8} {k : Nat} (e : linkL s = (h, q, k + 1)) : checkK s = k + 1 := by rw [checkK_eq, e]; simp
theorem checkK_path {s h q : List UInt8} (e : linkL s = (h, q, 0)) : checkK s = checkCode q := by rw [checkK_eq, e]; simp
theorem begin_bad {s h q : List UInt8} {k : Nat} (e : linkL s = (h, q, k + 1)) : beginK s = k + 1 := by simp [beginK, e]
theorem begin_none {s h q : List UInt8} (e : linkL s = (h, q, 0)) (e1 : dropSlash q = []) : beginK s = 0 := by simp [beginK, e, e1]
theorem begin_path {s h q : List UInt8} (e : linkL s = (h, q, 0)) (e1 : dropSlash q ≠ []) : beginK s = checkCode (dropSlash q) := by simp [beginK, e, e1]

set_option maxRecDepth 100000 in
theorem linkError_any (s : List UInt8) (w : World) (hs : s.length ≤ 90000) :
    Calls Tryz.prog 120 #[.string ⟨s.toArray⟩] w fun e w' => e = .returned (.int .i64 (checkK s)) ∧ Below w.heap.size w w' := by
  obtain ⟨⟨h, q, c⟩, hl⟩ : ∃ r, linkL s = r := ⟨_, rfl⟩
  have hsh := parts_short hl
  cases c with
  | succ k =>
    obtain ⟨z, hz⟩ : ∃ z : Int, ((k + 1 : Nat) : Int) = z := ⟨_, rfl⟩
    have hpos : 0 < z := by omega
    have HR : Hid (((checkK s : Nat) : Int) = z) := by show ((checkK s : Nat) : Int) = z; rw [checkK_bad hl, hz]
    have HZ := Lib.hid hz
    have HL := Lib.hid hl
    clear hl hz
    go_enter Tryz.func120, Tryz.ntmps120
    go_wp2_with fail
    refine (linkParts_is s h q _ _ hs HL.out).mono ?_
    rintro e w1 ⟨⟨kk, rfl⟩, hb1⟩
    have HB1 := Lib.hid hb1
    clear hb1
    rw [HZ.out]
    go_wp2
    go_ret
    exact ⟨by rw [HR.out]; rfl, HB1.out⟩
  | zero =>
    have HR := Lib.hid (checkK_path hl)
    have HL := Lib.hid hl
    clear hl
    go_enter Tryz.func120, Tryz.ntmps120
    go_wp2_with fail
    refine (linkParts_is s h q _ _ hs HL.out).mono ?_
    rintro e w1 ⟨⟨kk, rfl⟩, hb1⟩
    have HB1 := Lib.hid hb1
    clear hb1
    go_wp2_with fail
    refine (pathError_any q _ (by omega)).mono ?_
    rintro e w2 ⟨rfl, hb2⟩
    have HB2 := Lib.hid (HB1.out.trans (hb2.mono HB1.out.size))
    clear hb2
    go_wp2
    go_ret
    exact ⟨by rw [HR.out]; rfl, HB2.out⟩

theorem slash_yes (l : List UInt8) : dropSlash (l ++ [47]) = l := by
  have h : Lib.hasSuffix (l ++ [47]) [47] = true := by
    unfold Lib.hasSuffix
    exact List.isSuffixOf_iff_suffix.2 ⟨l, rfl⟩
  unfold dropSlash Lib.trimSuffix
  rw [if_pos h]
  simp
theorem slash_no {l : List UInt8} {c : UInt8} (hc : c ≠ 47) : dropSlash (l ++ [c]) = l ++ [c] := by
  have h : Lib.hasSuffix (l ++ [c]) [47] = false := by
    cases hs : Lib.hasSuffix (l ++ [c]) [47] with
    | false => rfl
    | true =>
      obtain ⟨t, ht⟩ := List.isSuffixOf_iff_suffix.1 hs
      have := congrArg List.getLast? ht
      simp at this
      exact absurd this.symm hc
  unfold dropSlash Lib.trimSuffix
  rw [h, if_neg (by decide)]
theorem last_at {l : List UInt8} {c : UInt8} (q : List UInt8) (hq : q = l ++ [c]) (h : l.length < ({ data := q.toArray } : ByteArray).size) : ({ data := q.toArray } : ByteArray)[l.length]'h = c := by
  subst hq
  show (l ++ [c])[l.length]'(by simp) = c
  simp

set_option maxRecDepth 100000 in
theorem beginError_any (s : List UInt8) (w : World) (hs : s.length ≤ 90000) :
    Calls Tryz.prog 179 #[.string ⟨s.toArray⟩] w fun e w' => e = .returned (.int .i64 (beginK s)) ∧ Below w.heap.size w w' := by
  obtain ⟨⟨h, q, c⟩, hl⟩ : ∃ r, linkL s = r := ⟨_, rfl⟩
  have hsh := parts_short hl
  cases c with
  | succ k =>
    obtain ⟨z, hz⟩ : ∃ z : Int, ((k + 1 : Nat) : Int) = z := ⟨_, rfl⟩
    have hpos : 0 < z := by omega
    have HR : Hid (((beginK s : Nat) : Int) = z) := by show ((beginK s : Nat) : Int) = z; rw [begin_bad hl, hz]
    have HZ := Lib.hid hz
    have HL := Lib.hid hl
    clear hl hz
    go_enter Tryz.func179, Tryz.ntmps179
    go_wp2_with fail
    refine (linkParts_is s h q _ _ hs HL.out).mono ?_
    rintro e w1 ⟨⟨kk, rfl⟩, hb1⟩
    have HB1 := Lib.hid hb1
    clear hb1
    rw [HZ.out]
    go_wp2
    go_ret
    exact ⟨by rw [HR.out]; rfl, HB1.out⟩
  | zero =>
    have HL := Lib.hid hl
    rcases List.eq_nil_or_concat q with hq | ⟨l, c, hq⟩
    · subst hq
      have HR := Lib.hid (begin_none hl rfl)
      clear hl
      go_enter Tryz.func179, Tryz.ntmps179
      go_wp2_with fail
      refine (linkParts_is s h _ _ _ hs HL.out).mono ?_
      rintro e w1 ⟨⟨kk, rfl⟩, hb1⟩
      have HB1 := Lib.hid hb1
      clear hb1
      go_wp2
      go_ret
      exact ⟨by rw [HR.out]; rfl, HB1.out⟩
    · rw [List.concat_eq_append] at hq
      have hql : q.length = l.length + 1 := by rw [hq]; simp
      have hql' : (q.length : Int) = l.length + 1 := by omega
      have hpos : (0 : Int) < q.length := by omega
      have hsz : l.length < ({ data := q.toArray } : ByteArray).size := by simp [ByteArray.size]; omega
      have hat := last_at q hq hsz
      by_cases h47 : c = 47
      · have HD : Hid (dropSlash q = l) := by show dropSlash q = l; rw [hq, h47, slash_yes]
        have hbyte : ((({ data := q.toArray } : ByteArray)[l.length]'hsz).toNat : Int) = 47 := by rw [hat, h47]; rfl
        have HX : Hid (({ data := q.toArray } : ByteArray).extract 0 l.length = ⟨l.toArray⟩) := by
          show ({ data := q.toArray } : ByteArray).extract 0 l.length = _
          rw [extract_to, hq]; simp
        by_cases h0 : l = []
        · have HR : Hid (beginK s = 0) := begin_none hl (by rw [HD.out, h0])
          have he : (({ data := q.toArray } : ByteArray).extract 0 l.length).toList.isEmpty = true := by rw [HX.out, h0, Lib.toList_data]; rfl
          clear hat hl hq hql h47 h0
          go_enter Tryz.func179, Tryz.ntmps179
          go_wp2_with fail
          refine (linkParts_is s h q _ _ hs HL.out).mono ?_
          rintro e w1 ⟨⟨kk, rfl⟩, hb1⟩
          have HB1 := Lib.hid hb1
          clear hb1
          go_wp2
          go_ret
          exact ⟨by rw [HR.out]; rfl, HB1.out⟩
        · have HR : Hid (beginK s = checkCode l) := by show beginK s = _; rw [begin_path hl (by rw [HD.out]; exact h0), HD.out]
          have he : (({ data := q.toArray } : ByteArray).extract 0 l.length).toList.isEmpty = false := by rw [HX.out, Lib.toList_data]; simpa using h0
          clear hat hl hq hql h47 h0
          go_enter Tryz.func179, Tryz.ntmps179
          go_wp2_with fail
          refine (linkParts_is s h q _ _ hs HL.out).mono ?_
          rintro e w1 ⟨⟨kk, rfl⟩, hb1⟩
          have HB1 := Lib.hid hb1
          clear hb1
          go_wp2_with fail
          rw [HX.out]
          refine (pathError_any l _ (by omega)).mono ?_
          rintro e w2 ⟨rfl, hb2⟩
          have HB2 := Lib.hid (HB1.out.trans (hb2.mono HB1.out.size))
          clear hb2
          go_wp2
          go_ret
          exact ⟨by rw [HR.out]; rfl, HB2.out⟩
      · have HD : Hid (dropSlash q = q) := by show dropSlash q = q; rw [hq, slash_no h47]
        have hbyte : (((({ data := q.toArray } : ByteArray)[l.length]'hsz).toNat : Int) == 47) = false := by
          rw [hat, beq_eq_false_iff_ne]
          intro e
          apply h47
          apply UInt8.toNat_inj.1
          have : (47 : UInt8).toNat = 47 := rfl
          omega
        have hqne : q ≠ [] := by rw [hq]; simp
        have HR : Hid (beginK s = checkCode q) := by show beginK s = _; rw [begin_path hl (by rw [HD.out]; exact hqne), HD.out]
        have he : q.isEmpty = false := by simpa using hqne
        clear hat hl hq hql h47 hqne
        go_enter Tryz.func179, Tryz.ntmps179
        go_wp2_with fail
        refine (linkParts_is s h q _ _ hs HL.out).mono ?_
        rintro e w1 ⟨⟨kk, rfl⟩, hb1⟩
        have HB1 := Lib.hid hb1
        clear hb1
        go_wp2_with fail
        refine (pathError_any q _ (by omega)).mono ?_
        rintro e w2 ⟨rfl, hb2⟩
        have HB2 := Lib.hid (HB1.out.trans (hb2.mono HB1.out.size))
        clear hb2
        go_wp2
        go_ret
        exact ⟨by rw [HR.out]; rfl, HB2.out⟩

theorem beginError_is (s : List UInt8) (z : Int) (w : World) (hs : s.length ≤ 90000) (h : ((beginK s : Nat) : Int) = z) :
    Calls Tryz.prog 179 #[.string ⟨s.toArray⟩] w fun e w' => e = .returned (.int .i64 z) ∧ Below w.heap.size w w' := by
  have := beginError_any s w hs
  rwa [h] at this
theorem linkError_is (s : List UInt8) (z : Int) (w : World) (hs : s.length ≤ 90000) (h : ((checkK s : Nat) : Int) = z) :
    Calls Tryz.prog 120 #[.string ⟨s.toArray⟩] w fun e w' => e = .returned (.int .i64 z) ∧ Below w.heap.size w w' := by
  have := linkError_any s w hs
  rwa [h] at this
theorem begins_is (s q : List UInt8) (r : Bool) (w : World) (hs : s.length ≤ 200000) (hq : q.length ≤ 200000) (h : Lib.hasPrefix s q = r) : Calls Tryz.prog 131 #[.string ⟨s.toArray⟩, .string ⟨q.toArray⟩] w fun e w' => e = .returned (.bool r) ∧ Below w.heap.size w w' := by
  have h0 := begins_any s q w hs hq
  rw [h] at h0
  exact h0.mono fun e w' ⟨h1, h2⟩ => ⟨h1, by rw [h2]; exact Below.refl _ _⟩
theorem ret_pair {x y : Value} {u v : Int} (h : x = y) (e : u = v) : Ending.returned (.tuple #[x, .int .i64 u]) = .returned (.tuple #[y, .int .i64 v]) := by rw [h, e]
theorem bytes_cat (a b : List UInt8) : ({ data := a.toArray } : ByteArray) ++ { data := b.toArray } = ⟨(a ++ b).toArray⟩ := by
  apply ByteArray.ext
  simp [ByteArray.data_append]
theorem swapK_a {a b s : List UInt8} {k : Nat} (h : beginK a = k + 1) : swapK a b s = ([], k + 1) := by simp [swapK, h]
theorem swapK_b {a b s : List UInt8} {k : Nat} (h1 : beginK a = 0) (h : beginK b = k + 1) : swapK a b s = ([], k + 1) := by simp [swapK, h1, h]
theorem swapK_s {a b s : List UInt8} {k : Nat} (h1 : beginK a = 0) (h2 : beginK b = 0) (h : checkK s = k + 1) : swapK a b s = ([], k + 1) := by simp [swapK, h1, h2, h]
theorem swapK_n {a b s : List UInt8} (h1 : beginK a = 0) (h2 : beginK b = 0) (h3 : checkK s = 0) (h : Lib.hasPrefix s a = false) : swapK a b s = ([], 6) := by simp [swapK, h1, h2, h3, h]
theorem swapK_x {a b s : List UInt8} {k : Nat} (h1 : beginK a = 0) (h2 : beginK b = 0) (h3 : checkK s = 0) (h4 : Lib.hasPrefix s a = true) (h : checkK (b ++ s.drop a.length) = k + 1) : swapK a b s = ([], k + 1) := by simp [swapK, h1, h2, h3, h4, h]

set_option maxRecDepth 100000 in
set_option maxHeartbeats 2000000 in
theorem swapOf_any (a b s : List UInt8) (w : World) (ha : a.length ≤ 40000) (hb : b.length ≤ 40000) (hs : s.length ≤ 40000) :
    Calls Tryz.prog 132 #[.string ⟨a.toArray⟩, .string ⟨b.toArray⟩, .string ⟨s.toArray⟩] w fun e w' => e = .returned (.tuple #[.string ⟨(swapK a b s).1.toArray⟩, .int .i64 (swapK a b s).2]) ∧ Below w.heap.size w w' := by
  cases h1 : beginK a with
  | succ k =>
    have HR := Lib.hid (swapK_a (b := b) (s := s) h1)
    obtain ⟨z, hz⟩ : ∃ z : Int, ((k + 1 : Nat) : Int) = z := ⟨_, rfl⟩
    have hpos : 0 < z := by omega
    have hz0 : (z == 0) = false := by rw [beq_eq_false_iff_ne]; omega
    have HC : Hid (((beginK a : Nat) : Int) = z) := by show ((beginK a : Nat) : Int) = z; rw [h1, hz]
    have HZ := Lib.hid hz
    clear h1 hz
    go_enter Tryz.func132, Tryz.ntmps132
    go_wp2_with fail
    refine (beginError_is a z _ (by omega) HC.out).mono ?_
    rintro e w1 ⟨rfl, hb1⟩
    have HB1 := Lib.hid hb1
    clear hb1
    go_wp2
    go_ret2
    exact ⟨by rw [HR.out]; exact ret_pair rfl HZ.out.symm, HB1.out⟩
  | zero =>
    have H1 : Hid (((beginK a : Nat) : Int) = 0) := by show ((beginK a : Nat) : Int) = 0; rw [h1]; rfl
    cases h2 : beginK b with
    | succ k =>
      have HR := Lib.hid (swapK_b (s := s) h1 h2)
      obtain ⟨z, hz⟩ : ∃ z : Int, ((k + 1 : Nat) : Int) = z := ⟨_, rfl⟩
      have hpos : 0 < z := by omega
      have hz0 : (z == 0) = false := by rw [beq_eq_false_iff_ne]; omega
      have HC : Hid (((beginK b : Nat) : Int) = z) := by show ((beginK b : Nat) : Int) = z; rw [h2, hz]
      have HZ := Lib.hid hz
      clear h1 h2 hz
      go_enter Tryz.func132, Tryz.ntmps132
      go_wp2_with fail
      refine (beginError_is a 0 _ (by omega) H1.out).mono ?_
      rintro e w1 ⟨rfl, hb1⟩
      have HB1 := Lib.hid hb1
      clear hb1
      go_wp2_with fail
      refine (beginError_is b z _ (by omega) HC.out).mono ?_
      rintro e w2 ⟨rfl, hb2⟩
      have HB2 := Lib.hid (HB1.out.trans (hb2.mono HB1.out.size))
      clear hb2
      go_wp2
      go_ret2
      exact ⟨by rw [HR.out]; exact ret_pair rfl HZ.out.symm, HB2.out⟩
    | zero =>
      have H2 : Hid (((beginK b : Nat) : Int) = 0) := by show ((beginK b : Nat) : Int) = 0; rw [h2]; rfl
      cases h3 : checkK s with
      | succ k =>
        have HR := Lib.hid (swapK_s h1 h2 h3)
        obtain ⟨z, hz⟩ : ∃ z : Int, ((k + 1 : Nat) : Int) = z := ⟨_, rfl⟩
        have hpos : 0 < z := by omega
        have hz0 : (z == 0) = false := by rw [beq_eq_false_iff_ne]; omega
        have HC : Hid (((checkK s : Nat) : Int) = z) := by show ((checkK s : Nat) : Int) = z; rw [h3, hz]
        have HZ := Lib.hid hz
        clear h1 h2 h3 hz
        go_enter Tryz.func132, Tryz.ntmps132
        go_wp2_with fail
        refine (beginError_is a 0 _ (by omega) H1.out).mono ?_
        rintro e w1 ⟨rfl, hb1⟩
        have HB1 := Lib.hid hb1
        clear hb1
        go_wp2_with fail
        refine (beginError_is b 0 _ (by omega) H2.out).mono ?_
        rintro e w2 ⟨rfl, hb2⟩
        have HB2 := Lib.hid (HB1.out.trans (hb2.mono HB1.out.size))
        clear hb2
        go_wp2_with fail
        refine (linkError_is s z _ (by omega) HC.out).mono ?_
        rintro e w3 ⟨rfl, hb3⟩
        have HB3 := Lib.hid (HB2.out.trans (hb3.mono HB2.out.size))
        clear hb3
        go_wp2
        go_ret2
        exact ⟨by rw [HR.out]; exact ret_pair rfl HZ.out.symm, HB3.out⟩
      | zero =>
        have H3 : Hid (((checkK s : Nat) : Int) = 0) := by show ((checkK s : Nat) : Int) = 0; rw [h3]; rfl
        cases h4 : Lib.hasPrefix s a with
        | false =>
          have HR := Lib.hid (swapK_n h1 h2 h3 h4)
          have H4 := Lib.hid h4
          clear h1 h2 h3 h4
          go_enter Tryz.func132, Tryz.ntmps132
          go_wp2_with fail
          refine (beginError_is a 0 _ (by omega) H1.out).mono ?_
          rintro e w1 ⟨rfl, hb1⟩
          have HB1 := Lib.hid hb1
          clear hb1
          go_wp2_with fail
          refine (beginError_is b 0 _ (by omega) H2.out).mono ?_
          rintro e w2 ⟨rfl, hb2⟩
          have HB2 := Lib.hid (HB1.out.trans (hb2.mono HB1.out.size))
          clear hb2
          go_wp2_with fail
          refine (linkError_is s 0 _ (by omega) H3.out).mono ?_
          rintro e w3 ⟨rfl, hb3⟩
          have HB3 := Lib.hid (HB2.out.trans (hb3.mono HB2.out.size))
          clear hb3
          go_wp2_with fail
          refine (begins_is s a false _ (by omega) (by omega) H4.out).mono ?_
          rintro e w4 ⟨rfl, hb4⟩
          have HB4 := Lib.hid (HB3.out.trans (hb4.mono HB3.out.size))
          clear hb4
          go_wp2
          go_ret2
          exact ⟨by rw [HR.out]; rfl, HB4.out⟩
        | true =>
          have H4 := Lib.hid h4
          have hal : a.length ≤ s.length := (List.isPrefixOf_iff_prefix.1 h4).length_le
          have hal' : (a.length : Int) ≤ s.length := by omega
          have hrl : (s.drop a.length).length ≤ 40000 := by rw [List.length_drop]; omega
          have HX : Hid (({ data := s.toArray } : ByteArray).extract a.length s.length = ⟨(s.drop a.length).toArray⟩) := extract_from s a.length
          cases h5 : checkK (b ++ s.drop a.length) with
          | succ k =>
            have HR := Lib.hid (swapK_x h1 h2 h3 h4 h5)
            obtain ⟨z, hz⟩ : ∃ z : Int, ((k + 1 : Nat) : Int) = z := ⟨_, rfl⟩
            have hpos : 0 < z := by omega
            have hz0 : (z == 0) = false := by rw [beq_eq_false_iff_ne]; omega
            have HC : Hid (((checkK (b ++ s.drop a.length) : Nat) : Int) = z) := by show ((checkK (b ++ s.drop a.length) : Nat) : Int) = z; rw [h5, hz]
            have HZ := Lib.hid hz
            clear h1 h2 h3 h4 h5 hz
            go_enter Tryz.func132, Tryz.ntmps132
            go_wp2_with fail
            refine (beginError_is a 0 _ (by omega) H1.out).mono ?_
            rintro e w1 ⟨rfl, hb1⟩
            have HB1 := Lib.hid hb1
            clear hb1
            go_wp2_with fail
            refine (beginError_is b 0 _ (by omega) H2.out).mono ?_
            rintro e w2 ⟨rfl, hb2⟩
            have HB2 := Lib.hid (HB1.out.trans (hb2.mono HB1.out.size))
            clear hb2
            go_wp2_with fail
            refine (linkError_is s 0 _ (by omega) H3.out).mono ?_
            rintro e w3 ⟨rfl, hb3⟩
            have HB3 := Lib.hid (HB2.out.trans (hb3.mono HB2.out.size))
            clear hb3
            go_wp2_with fail
            refine (begins_is s a true _ (by omega) (by omega) H4.out).mono ?_
            rintro e w4 ⟨rfl, hb4⟩
            have HB4 := Lib.hid (HB3.out.trans (hb4.mono HB3.out.size))
            clear hb4
            go_wp2_with fail
            rw [HX.out, bytes_cat]
            refine (linkError_is _ z _ (by rw [List.length_append]; omega) HC.out).mono ?_
            rintro e w5 ⟨rfl, hb5⟩
            have HB5 := Lib.hid (HB4.out.trans (hb5.mono HB4.out.size))
            clear hb5
            go_wp2
            go_ret2
            exact ⟨by rw [HR.out]; exact ret_pair rfl HZ.out.symm, HB5.out⟩
          | zero =>
            have HR := Lib.hid (swap_is h1 h2 h3 h4 h5)
            have HC : Hid (((checkK (b ++ s.drop a.length) : Nat) : Int) = 0) := by show ((checkK _ : Nat) : Int) = 0; rw [h5]; rfl
            clear h1 h2 h3 h4 h5
            go_enter Tryz.func132, Tryz.ntmps132
            go_wp2_with fail
            refine (beginError_is a 0 _ (by omega) H1.out).mono ?_
            rintro e w1 ⟨rfl, hb1⟩
            have HB1 := Lib.hid hb1
            clear hb1
            go_wp2_with fail
            refine (beginError_is b 0 _ (by omega) H2.out).mono ?_
            rintro e w2 ⟨rfl, hb2⟩
            have HB2 := Lib.hid (HB1.out.trans (hb2.mono HB1.out.size))
            clear hb2
            go_wp2_with fail
            refine (linkError_is s 0 _ (by omega) H3.out).mono ?_
            rintro e w3 ⟨rfl, hb3⟩
            have HB3 := Lib.hid (HB2.out.trans (hb3.mono HB2.out.size))
            clear hb3
            go_wp2_with fail
            refine (begins_is s a true _ (by omega) (by omega) H4.out).mono ?_
            rintro e w4 ⟨rfl, hb4⟩
            have HB4 := Lib.hid (HB3.out.trans (hb4.mono HB3.out.size))
            clear hb4
            go_wp2_with fail
            rw [HX.out, bytes_cat]
            refine (linkError_is _ 0 _ (by rw [List.length_append]; omega) HC.out).mono ?_
            rintro e w5 ⟨rfl, hb5⟩
            have HB5 := Lib.hid (HB4.out.trans (hb5.mono HB4.out.size))
            clear hb5
            go_wp2
            go_ret2
            exact ⟨by rw [HR.out]; rfl, HB5.out⟩
end Go.Proofs.YtmcfkoenpikldaaGreatDoor
