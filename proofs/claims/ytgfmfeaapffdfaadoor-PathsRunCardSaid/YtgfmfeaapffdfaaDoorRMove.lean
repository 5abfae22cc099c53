/- The contract of the reference's Move. Conditions: the slices hold what is said of them; paths of at most 10^6 strings of at most 10^9 bytes. -/
import Derived.Test.YtgfmfeaapffdfaaDoorMove2
namespace Go.Proofs.YtgfmfeaapffdfaaDoor
open Go.RowKit

set_option maxRecDepth 100000 in
set_option maxHeartbeats 4000000 in
theorem rmove_any (w : World) (v v2 v3 : Value) (p f t : Path) (hv : SL encS w w.heap.size v p) (hv2 : SL encS w w.heap.size v2 f) (hv3 : SL encS w w.heap.size v3 t) (hp : Fit p) (hf : Fit f) (ht : Fit t) :
    Calls Tryd.prog 33 #[v, v2, v3] w fun e w' => PathE w (moveR p f t) e w' := by
  obtain ⟨A, c, rfl⟩ := hv.form
  obtain ⟨A2, c2, rfl⟩ := hv2.form
  obtain ⟨A3, c3, rfl⟩ := hv3.form
  have HBO := Lib.hid (both_any w _ _ p f hv hv2 hp hf)
  have HCT := Lib.hid (rcheck_any w _ t hv3 ht.2)
  have HCO := Lib.hid (rcommon_any w _ _ p f hv hv2 hp.1 hf.1)
  have hpl := hp.1
  have htl := ht.1
  have hfl := hf.1
  by_cases hB : bothE p f = 0
  case neg =>
    have hb := int_some hB
    have hb' := int_some' hB
    have H : Hid (moveR p f t = ([], bothE p f)) := by
      show moveR p f t = _
      have e : moveE p f t = bothE p f := by unfold moveE; rw [if_neg hB]
      unfold moveR; rw [e, if_neg hB]
    clear hB hv hv2 hv3
    go_enter Tryd.func33, Tryd.ntmps33
    go_wp2_with fail
    refine HBO.out.mono ?_
    rintro e w' ⟨rfl, rfl⟩
    go_wp2_with fail
    go_ret2
    rw [H.out]
    exact ⟨_, rfl, SL.nil _ _, Below.refl _ _⟩
  have hb := int_zero hB
  have hb' := int_zero' hB
  have hE0 : moveE p f t = checkE t := by unfold moveE; rw [if_pos hB]
  by_cases hC : checkE t = 0
  case neg =>
    have hb2 := int_some hC
    have hb2' := int_some' hC
    have H : Hid (moveR p f t = ([], checkE t)) := by show moveR p f t = _; unfold moveR; rw [hE0, if_neg hC]
    clear hB hv hv2 hv3 hC hE0
    go_enter Tryd.func33, Tryd.ntmps33
    go_wp2_with fail
    refine HBO.out.mono ?_
    rintro e w' ⟨rfl, rfl⟩
    go_wp2_with fail
    refine HCT.out.mono ?_
    rintro e w' ⟨rfl, rfl⟩
    go_wp2_with fail
    go_ret2
    rw [H.out]
    exact ⟨_, rfl, SL.nil _ _, Below.refl _ _⟩
  have hb2 := int_zero hC
  have hb2' := int_zero' hC
  cases hun : un p f with
  | false =>
    have hne : (((cn p f : Nat) : Int) != (f.length : Int)) = true := by
      unfold un at hun
      rw [beq_eq_false_iff_ne] at hun
      rw [bne_iff_ne]; omega
    have H : Hid (moveR p f t = ([], 4)) := by show moveR p f t = _; unfold moveR; rw [hE0, if_pos hC, hun]; rfl
    clear hB hv hv2 hv3 hC hE0
    go_enter Tryd.func33, Tryd.ntmps33
    go_wp2_with fail
    refine HBO.out.mono ?_
    rintro e w' ⟨rfl, rfl⟩
    go_wp2_with fail
    refine HCT.out.mono ?_
    rintro e w' ⟨rfl, rfl⟩
    go_wp2_with fail
    refine HCO.out.mono ?_
    rintro e w' ⟨rfl, m, rfl⟩
    go_wp2_with fail
    go_ret2
    rw [H.out]
    exact ⟨_, rfl, SL.nil _ _, drew_below _ _⟩
  | true =>
    have hle := un_le hun
    have hne : (((cn p f : Nat) : Int) != (f.length : Int)) = false := by
      unfold un at hun
      rw [beq_iff_eq] at hun
      rw [bne_eq_false_iff_eq]; omega
    by_cases h8 : 8 < t.length + (p.length - f.length)
    · have H : Hid (moveR p f t = ([], 3)) := by show moveR p f t = _; unfold moveR; rw [hE0, if_pos hC, hun, if_pos rfl, if_pos h8]
      have i1 : (8 : Int) < (t.length : Int) + (p.length : Int) - f.length := by omega
      clear hB hv hv2 hv3 hC hE0
      go_enter Tryd.func33, Tryd.ntmps33
      go_wp2_with fail
      refine HBO.out.mono ?_
      rintro e w' ⟨rfl, rfl⟩
      go_wp2_with fail
      refine HCT.out.mono ?_
      rintro e w' ⟨rfl, rfl⟩
      go_wp2_with fail
      refine HCO.out.mono ?_
      rintro e w' ⟨rfl, m, rfl⟩
      go_wp2_with fail
      go_ret2
      rw [H.out]
      exact ⟨_, rfl, SL.nil _ _, drew_below _ _⟩
    have H : Hid (moveR p f t = (t ++ p.drop f.length, 0)) := by show moveR p f t = _; unfold moveR; rw [hE0, if_pos hC, hun, if_pos rfl, if_neg h8]
    have i1 : ¬ (8 : Int) < (t.length : Int) + (p.length : Int) - f.length := by omega
    have hcap := hv.cap
    have hfc : f.length ≤ c := by omega
    have hR := hv.rest (k := f.length) hle
    have HT := Lib.hid hv3
    have HLEN : Hid ((p.drop f.length).length = p.length - f.length) := by show (p.drop f.length).length = _; simp
    clear hB hv hv2 hv3 hC hE0
    by_cases hcf : c = f.length
    · subst hcf
      rw [if_pos rfl, Nat.sub_self, show p.length - f.length = 0 by omega] at hR
      have HR := Lib.hid hR
      clear hR
      go_enter Tryd.func33, Tryd.ntmps33
      go_wp2_with fail
      refine HBO.out.mono ?_
      rintro e w' ⟨rfl, rfl⟩
      go_wp2_with fail
      refine HCT.out.mono ?_
      rintro e w' ⟨rfl, rfl⟩
      go_wp2_with fail
      refine HCO.out.mono ?_
      rintro e w' ⟨rfl, m, rfl⟩
      go_wp2_with fail
      have HTV : Hid (SL encS (w.drewN m) (w.drewN m).heap.size (.slice A3 t.length c3) t) := HT.out
      have HRV : Hid (SL encS (w.drewN m) (w.drewN m).heap.size _ (p.drop f.length)) := HR.out
      have HBV : Hid (Below w.heap.size w (w.drewN m)) := drew_below w m
      have HVS : Hid ((w.drewN m).heap.size = w.heap.size) := rfl
      generalize w.drewN m = V at *
      have HNV : Hid ((V.alloc (.cells #[] 9)).drew.ownsRow V.heap.size 9 1 (.slice (some ⟨V.heap.size, 0, none⟩) 0 0) 0 []) := own_new V 9
      have HB1 : Hid (Below V.heap.size V (V.alloc (.cells #[] 9)).drew) := ((Below.refl V.heap.size V).alloc (Nat.le_refl _) _).drew
      have HT1 := Lib.hid (HTV.out.below HB1.out (Nat.le_refl _))
      have hbd : t.length + (p.drop f.length).length ≤ 1000000000 := by rw [HLEN.out]; omega
      clear HTV HT HR
      go_region_law (first
        | (rw [if_pos (by simp [Region.wanted])]
           refine wp_append_sl _ _ rfl V.heap.size V.heap.size _ 0 [] rfl HNV.out _ t rfl HT1.out (by omega) (by simp) ?_
           intro v4 w4 hown4 hgrow4
           rw [List.nil_append, Nat.zero_add] at hown4
           have HO4 := Lib.hid hown4
           have HB4 : Hid (Below V.heap.size V w4) := HB1.out.grown hgrow4 (by simp) (fun r e => (HNV.out.lt r e).1)
           have HR4 := Lib.hid (HRV.out.below HB4.out (Nat.le_refl _))
           have hsz4 : V.heap.size ≤ w4.heap.size := HB4.out.size
           clear hown4 hgrow4)
        | (rw [if_pos (by simp [Region.wanted])]
           refine wp_append_sl _ _ rfl V.heap.size V.heap.size _ t.length (t.map encS) rfl HO4.out _ (p.drop f.length) rfl HR4.out hbd hsz4 ?_
           intro v5 w5 hown5 hgrow5))
      all_goals
        have hO8 := OwnP.two (p := t) (q := p.drop f.length) hown5 rfl
        have HO8 := Lib.hid hO8.sl
        have HB8 : Hid (Below V.heap.size V w5) := HB4.out.grown hgrow5 hsz4 (fun r e => (HO4.out.lt r e).1)
        clear hO8 hown5 hgrow5
        go_wp2_with fail
        go_ret2
        rw [H.out]
        exact ⟨_, rfl, HO8.out, HBV.out.trans (HB8.out.mono (by have := HVS.out; omega))⟩
    · rw [if_neg hcf] at hR
      have HR := Lib.hid hR
      clear hR
      go_enter Tryd.func33, Tryd.ntmps33
      go_wp2_with fail
      refine HBO.out.mono ?_
      rintro e w' ⟨rfl, rfl⟩
      go_wp2_with fail
      refine HCT.out.mono ?_
      rintro e w' ⟨rfl, rfl⟩
      go_wp2_with fail
      refine HCO.out.mono ?_
      rintro e w' ⟨rfl, m, rfl⟩
      go_wp2_with fail
      have HTV : Hid (SL encS (w.drewN m) (w.drewN m).heap.size (.slice A3 t.length c3) t) := HT.out
      have HRV : Hid (SL encS (w.drewN m) (w.drewN m).heap.size _ (p.drop f.length)) := HR.out
      have HBV : Hid (Below w.heap.size w (w.drewN m)) := drew_below w m
      have HVS : Hid ((w.drewN m).heap.size = w.heap.size) := rfl
      generalize w.drewN m = V at *
      have HNV : Hid ((V.alloc (.cells #[] 9)).drew.ownsRow V.heap.size 9 1 (.slice (some ⟨V.heap.size, 0, none⟩) 0 0) 0 []) := own_new V 9
      have HB1 : Hid (Below V.heap.size V (V.alloc (.cells #[] 9)).drew) := ((Below.refl V.heap.size V).alloc (Nat.le_refl _) _).drew
      have HT1 := Lib.hid (HTV.out.below HB1.out (Nat.le_refl _))
      have hbd : t.length + (p.drop f.length).length ≤ 1000000000 := by rw [HLEN.out]; omega
      clear HTV HT HR
      go_region_law (first
        | (rw [if_pos (by simp [Region.wanted])]
           refine wp_append_sl _ _ rfl V.heap.size V.heap.size _ 0 [] rfl HNV.out _ t rfl HT1.out (by omega) (by simp) ?_
           intro v4 w4 hown4 hgrow4
           rw [List.nil_append, Nat.zero_add] at hown4
           have HO4 := Lib.hid hown4
           have HB4 : Hid (Below V.heap.size V w4) := HB1.out.grown hgrow4 (by simp) (fun r e => (HNV.out.lt r e).1)
           have HR4 := Lib.hid (HRV.out.below HB4.out (Nat.le_refl _))
           have hsz4 : V.heap.size ≤ w4.heap.size := HB4.out.size
           clear hown4 hgrow4)
        | (rw [if_pos (by simp [Region.wanted])]
           refine wp_append_sl _ _ rfl V.heap.size V.heap.size _ t.length (t.map encS) rfl HO4.out _ (p.drop f.length) rfl HR4.out hbd hsz4 ?_
           intro v5 w5 hown5 hgrow5))
      all_goals
        have hO8 := OwnP.two (p := t) (q := p.drop f.length) hown5 rfl
        have HO8 := Lib.hid hO8.sl
        have HB8 : Hid (Below V.heap.size V w5) := HB4.out.grown hgrow5 hsz4 (fun r e => (HO4.out.lt r e).1)
        clear hO8 hown5 hgrow5
        go_wp2_with fail
        go_ret2
        rw [H.out]
        exact ⟨_, rfl, HO8.out, HBV.out.trans (HB8.out.mono (by have := HVS.out; omega))⟩
end Go.Proofs.YtgfmfeaapffdfaaDoor
