/- The contracts of Parse, of the program and of the reference. Conditions: a string of at most 10^6 bytes; the library's variable MaxLen holds a number. -/
import Derived.Test.YtgfmfeaapffdfaaDoorText
namespace Go.Proofs.YtgfmfeaapffdfaaDoor
open Go.RowKit

theorem prefix_one (l : List UInt8) : Lib.hasPrefix l [47] = (l.head? == some 47) := by
  cases l with
  | nil => rfl
  | cons c r =>
    show (47 == c && [].isPrefixOf r) = (some c == some 47)
    rw [List.isPrefixOf, Bool.and_true, Bool.eq_iff_iff]
    simp only [beq_iff_eq, Option.some.injEq]
    exact eq_comm
theorem trim_one (l : List UInt8) (h : Lib.hasPrefix l [47] = true) : Lib.trimPrefix l [47] = l.tail := by
  unfold Lib.trimPrefix
  rw [h, if_pos rfl]
  cases l <;> rfl
theorem mk_size (l : List UInt8) : (mk l).size = l.length := by rw [← bs_len]; rfl

set_option maxRecDepth 100000 in
set_option maxHeartbeats 2000000 in
theorem parse_any (w : World) (s : ByteArray) (hs : s.size ≤ 1000000) (hm : ML w) :
    Calls Tryd.prog 13 #[.string s] w fun e w' => PathE w (parseR s) e w' := by
  have HCP := Lib.hid (Tryd.strings_CutPrefix s sl w)
  cases hpre : Lib.hasPrefix (bs s) [47] with
  | false =>
    have H : Hid (parseR s = ([], 6)) := by
      show parseR s = _
      unfold parseR
      by_cases h0 : s.size = 0
      · rw [if_pos h0]
      · rw [if_neg h0, if_pos]
        rw [prefix_one] at hpre
        simpa using hpre
    have e1 : Lib.hasPrefix s.data.toList sl.data.toList = false := hpre
    rw [e1] at HCP
    clear hpre e1
    go_enter Tryd.func13, Tryd.ntmps13
    go_wp2_with fail
    refine HCP.out.mono ?_
    rintro e w' ⟨rfl, rfl⟩
    go_wp2_with fail
    go_ret2
    rw [H.out]
    exact ⟨_, rfl, SL.nil _ _, Below.refl _ _⟩
  | true =>
    have e1 : Lib.hasPrefix s.data.toList sl.data.toList = true := hpre
    have e2 : Lib.trimPrefix s.data.toList sl.data.toList = (bs s).tail := trim_one _ hpre
    have hhead : (bs s).head? = some 47 := by rw [prefix_one] at hpre; simpa using hpre
    have h0 : ¬ s.size = 0 := fun h => by
      have := bs_len s; rw [h] at this
      rw [List.eq_nil_of_length_eq_zero this] at hhead; cases hhead
    have hcons : bs s = 47 :: (bs s).tail := by
      cases hb : bs s with
      | nil => rw [hb] at hhead; cases hhead
      | cons c r => rw [hb] at hhead; injection hhead with hc; rw [hc]; rfl
    have hpr : parseR s = if (bs s).tail = [] then ([], 0) else if checkE (segsP s) = 0 then (segsP s, 0) else ([], checkE (segsP s)) := by
      unfold parseR
      rw [if_neg h0, if_neg (by rw [hhead]; simp)]
      by_cases ht : (bs s).tail = []
      · rw [if_pos ht, if_pos (by rw [hcons, ht])]
      · rw [if_neg ht, if_neg (fun e => ht (by rw [e]; rfl))]
    rw [e1, e2] at HCP
    obtain ⟨R, hR⟩ : ∃ R : ByteArray, R = ⟨(bs s).tail.toArray⟩ := ⟨_, rfl⟩
    have hRb : bs R = (bs s).tail := by rw [hR]; rfl
    have hRs : R.size ≤ 1000000 := by rw [← bs_len, hRb, List.length_tail, bs_len]; omega
    rw [← hR] at HCP
    by_cases ht : (bs s).tail = []
    · have H : Hid (parseR s = ([], 0)) := by show parseR s = _; rw [hpr, if_pos ht]
      have hl : R.toList = [] := by rw [Lib.toList_data]; show bs R = []; rw [hRb, ht]
      clear hpre e1 e2 hhead hcons hpr hR hRb ht
      go_enter Tryd.func13, Tryd.ntmps13
      go_wp2_with fail
      refine HCP.out.mono ?_
      rintro e w' ⟨rfl, rfl⟩
      go_wp2_with fail
      go_ret2
      rw [H.out]
      exact ⟨_, rfl, SL.nil _ _, Below.refl _ _⟩
    · have hl : R.toList ≠ [] := by rw [Lib.toList_data]; show bs R ≠ []; rw [hRb]; exact ht
      have hl2 : (R.toList == []) = false := by simpa using hl
      obtain ⟨m, hm2⟩ := hm.2
      have HSP := Lib.hid (Tryd.strings_SplitN R sl 9 m w (by omega) hm2 (by decide) (by omega) (by omega))
      obtain ⟨n, hn⟩ : ∃ n, n = min 9 (R.size + 1) - 1 := ⟨_, rfl⟩
      rw [← hn] at HSP
      have h9 := split_nine R n hn
      have hseg : (segs (bs R)).map mk = segsP s := by unfold segsP; rw [hRb]
      rw [hseg] at h9
      obtain ⟨xs, hxs⟩ : ∃ xs, xs = Lib.splitB sl 0 n R := ⟨_, rfl⟩
      have hxl : xs.length ≤ min 9 (R.size + 1) := by have := Lib.splitB_length_le sl 0 n R; rw [← hxs] at this; omega
      have hx9 : xs.length ≤ 9 := by omega
      have hxz : ∀ x ∈ xs, x.size ≤ 1000000000 := fun x hx => by rw [hxs] at hx; have := splitB_size sl n R x hx; omega
      rw [← hxs] at HSP h9
      have hSLx : SL encS (w.alloc (.cells (Lib.cellsOf xs (min 9 (R.size + 1))) 9)) (w.alloc (.cells (Lib.cellsOf xs (min 9 (R.size + 1))) 9)).heap.size (.slice (some ⟨w.heap.size, 0, none⟩) xs.length (min 9 (R.size + 1))) xs := sl_split xs _ hxl
      obtain ⟨W1, hW1⟩ : ∃ W1, W1 = w.alloc (.cells (Lib.cellsOf xs (min 9 (R.size + 1))) 9) := ⟨_, rfl⟩
      have hB1 : Below w.heap.size w W1 := by rw [hW1]; exact (Below.refl _ w).alloc (Nat.le_refl _) _
      rw [← hW1] at HSP hSLx
      obtain ⟨N, hN⟩ : ∃ N, N = min 9 (R.size + 1) := ⟨_, rfl⟩
      rw [← hN] at HSP hSLx
      have HCK := Lib.hid (check_any W1 _ xs hSLx hxz)
      have HB := Lib.hid hB1
      by_cases hE : checkE xs = 0
      case neg =>
        have hb := int_some hE
        have H : Hid (parseR s = ([], checkE xs)) := by show parseR s = _; rw [hpr, if_neg ht, ← h9.1, if_neg hE]
        clear hpre e1 e2 hhead hcons hpr hR hRb ht hE hSLx hW1 hN hxs hn h9 hseg hm2 hB1 hxl
        go_enter Tryd.func13, Tryd.ntmps13
        go_wp2_with fail
        refine HCP.out.mono ?_
        rintro e w' ⟨rfl, rfl⟩
        go_wp2_with fail
        refine HSP.out.mono ?_
        rintro e w' ⟨rfl, rfl⟩
        go_wp2_with fail
        refine HCK.out.mono ?_
        rintro e w' ⟨rfl, rfl⟩
        go_wp2_with fail
        go_ret2
        rw [H.out]
        exact ⟨_, rfl, SL.nil _ _, HB.out⟩
      have hb := int_zero hE
      have H : Hid (parseR s = (xs, 0)) := by
        show parseR s = _
        have e3 := h9.2 (by rw [← h9.1]; exact hE)
        rw [hpr, if_neg ht, ← h9.1, if_pos hE, e3]
      have HFR := Lib.hid (fresh_any W1 _ xs hSLx (by omega) hxz)
      clear hpre e1 e2 hhead hcons hpr hR hRb ht hE hSLx hW1 hN hxs hn h9 hseg hm2 hB1 hxl
      go_enter Tryd.func13, Tryd.ntmps13
      go_wp2_with fail
      refine HCP.out.mono ?_
      rintro e w' ⟨rfl, rfl⟩
      go_wp2_with fail
      refine HSP.out.mono ?_
      rintro e w' ⟨rfl, rfl⟩
      go_wp2_with fail
      refine HCK.out.mono ?_
      rintro e w' ⟨rfl, rfl⟩
      go_wp2_with fail
      refine HFR.out.mono ?_
      rintro e w3 ⟨v', rfl, hown, hb3⟩
      have HO := Lib.hid hown.sl
      have HB2 := Lib.hid (HB.out.trans (hb3.mono HB.out.size))
      obtain ⟨A3, c3, rfl⟩ := HO.out.form
      clear hown hb3
      go_wp2_with fail
      go_ret2
      rw [H.out]
      exact ⟨_, rfl, HO.out, HB2.out⟩
end Go.Proofs.YtgfmfeaapffdfaaDoor
