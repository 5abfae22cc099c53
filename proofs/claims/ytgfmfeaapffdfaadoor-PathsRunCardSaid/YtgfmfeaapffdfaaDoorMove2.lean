/- The contract of paths.Move. Conditions: the slices hold what is said of them; paths of at most 10^6 strings of at most 10^9 bytes. -/
import Derived.Test.YtgfmfeaapffdfaaDoorMove
namespace Go.Proofs.YtgfmfeaapffdfaaDoor
open Go.RowKit

theorem moveE_all (p f t : Path) : allE [p, f, t] = moveE p f t := allE_three p f t
theorem moveE_zero {p f t : Path} (h : moveE p f t = 0) : checkE p = 0 ∧ checkE f = 0 ∧ checkE t = 0 := by
  unfold moveE at h
  by_cases k : bothE p f = 0
  · rw [if_pos k] at h; have := bothE_zero k; exact ⟨this.1, this.2, h⟩
  · rw [if_neg k] at h; exact (k h).elim
theorem un_le {p f : Path} (h : un p f = true) : f.length ≤ p.length := by
  unfold un at h; rw [beq_iff_eq] at h; have := (cn_le p f).1; omega

set_option maxRecDepth 100000 in
set_option maxHeartbeats 4000000 in
theorem move_any (w : World) (v v2 v3 : Value) (p f t : Path) (hv : SL encS w w.heap.size v p) (hv2 : SL encS w w.heap.size v2 f) (hv3 : SL encS w w.heap.size v3 t) (hp : Fit p) (hf : Fit f) (ht : Fit t) :
    Calls Tryd.prog 32 #[v, v2, v3] w fun e w' => PathE w (moveR p f t) e w' := by
  obtain ⟨A, c, rfl⟩ := hv.form
  obtain ⟨A2, c2, rfl⟩ := hv2.form
  obtain ⟨A3, c3, rfl⟩ := hv3.form
  have HCA := Lib.hid (checkAll_any _ _ _ (LL_three hv hv2 hv3) (by simp) (fit_three hp hf ht))
  rw [moveE_all] at HCA
  have hB1 : Below w.heap.size w (w.alloc (.cells #[.slice A p.length c, .slice A2 f.length c2, .slice A3 t.length c3] 22)) := (Below.refl _ w).alloc (Nat.le_refl _) _
  have HB := Lib.hid hB1
  by_cases hE : moveE p f t = 0
  case neg =>
    have hb := int_some hE
    have H : Hid (moveR p f t = ([], moveE p f t)) := by show moveR p f t = _; unfold moveR; rw [if_neg hE]
    clear hE hv hv2 hv3 hB1
    go_enter Tryd.func32, Tryd.ntmps32
    go_wp2_with fail
    refine HCA.out.mono ?_
    rintro e w' ⟨rfl, rfl⟩
    go_wp2_with fail
    go_ret2
    rw [H.out]
    exact ⟨_, rfl, SL.nil _ _, HB.out⟩
  have hb := int_zero hE
  have hz := moveE_zero hE
  obtain ⟨W1, hW1⟩ : ∃ W1, W1 = w.alloc (.cells #[.slice A p.length c, .slice A2 f.length c2, .slice A3 t.length c3] 22) := ⟨_, rfl⟩
  rw [← hW1] at HCA hB1 HB
  have HW1 := Lib.hid hW1
  have HU := Lib.hid (under_any W1 _ _ p f (hv.next hB1) (hv2.next hB1) hp.1 hf.1 (names_of hz.1) (names_of hz.2.1))
  cases hun : un p f with
  | false =>
    rw [hun] at HU
    have H : Hid (moveR p f t = ([], 4)) := by show moveR p f t = _; unfold moveR; rw [if_pos hE, hun]; rfl
    clear hE hv hv2 hv3 hB1 hW1 hz
    go_enter Tryd.func32, Tryd.ntmps32
    go_wp2_with fail
    rw [← HW1.out]
    refine HCA.out.mono ?_
    rintro e w' ⟨rfl, rfl⟩
    go_wp2_with fail
    refine HU.out.mono ?_
    rintro e w2 ⟨rfl, hb2⟩
    go_wp2_with fail
    go_ret2
    rw [H.out]
    exact ⟨_, rfl, SL.nil _ _, HB.out.trans (hb2.mono HB.out.size)⟩
  | true =>
    rw [hun] at HU
    have hle := un_le hun
    have hcap := hv.cap
    have hpl := hp.1
    have htl := ht.1
    have hfc : f.length ≤ c := by omega
    have hsub : ((p.length - f.length : Nat) : Int) = (p.length : Int) - f.length := by omega
    have hR := (hv.next hB1).rest (k := f.length) hle
    have HT := Lib.hid (hv3.next hB1)
    have hlen : (p.drop f.length).length = p.length - f.length := by simp
    by_cases hcf : c = f.length
    · subst hcf
      rw [if_pos rfl, Nat.sub_self, show p.length - f.length = 0 by omega] at hR
      have HR := Lib.hid hR
      clear hR
      by_cases h8 : 8 < t.length + (p.length - f.length)
      · have H : Hid (moveR p f t = ([], 3)) := by show moveR p f t = _; unfold moveR; rw [if_pos hE, hun, if_pos rfl, if_pos h8]
        have i1 : (8 : Int) < (t.length : Int) + ((p.length : Int) - f.length) := by omega
        clear hE hv hv2 hv3 hB1 hW1 hz
        go_enter Tryd.func32, Tryd.ntmps32
        go_wp2_with fail
        rw [← HW1.out]
        refine HCA.out.mono ?_
        rintro e w' ⟨rfl, rfl⟩
        go_wp2_with fail
        refine HU.out.mono ?_
        rintro e w2 ⟨rfl, hb2⟩
        go_wp2_with fail
        go_ret2
        rw [H.out]
        exact ⟨_, rfl, SL.nil _ _, HB.out.trans (hb2.mono HB.out.size)⟩
      have H : Hid (moveR p f t = (t ++ p.drop f.length, 0)) := by show moveR p f t = _; unfold moveR; rw [if_pos hE, hun, if_pos rfl, if_neg h8]
      have i1 : ¬ (8 : Int) < (t.length : Int) + ((p.length : Int) - f.length) := by omega
      have HPD := Lib.hid (hp.drop f.length)
      have HLEN := Lib.hid hlen
      clear hE hv hv2 hv3 hB1 hW1 hz hlen
      go_enter Tryd.func32, Tryd.ntmps32
      go_wp2_with fail
      rw [← HW1.out]
      refine HCA.out.mono ?_
      rintro e w' ⟨rfl, rfl⟩
      go_wp2_with fail
      refine HU.out.mono ?_
      rintro e w2 ⟨rfl, hb2⟩
      go_wp2_with fail
      refine (fresh_any w2 _ t (HT.out.next hb2) ht.1 ht.2).mono ?_
      rintro e w3 ⟨v5, rfl, hown5, hb3⟩
      have HR3 := Lib.hid ((HR.out.next hb2).next hb3)
      have HB3 := Lib.hid ((HB.out.trans (hb2.mono HB.out.size)).trans (hb3.mono (by have := HB.out.size; have := hb2.size; omega)))
      have HO5 := Lib.hid (hown5.lower (base' := w.heap.size) (by have := HB.out.size; have := hb2.size; omega))
      clear hown5 hb2 hb3
      go_wp2_with fail
      refine (fresh_any w3 _ (p.drop f.length) HR3.out HPD.out.1 HPD.out.2).mono ?_
      rintro e w4 ⟨v6, rfl, hown6, hb4⟩
      have HO6 := Lib.hid hown6.sl
      have HO7 := Lib.hid (HO5.out.below hb4)
      have HB4 := Lib.hid (HB3.out.trans (hb4.mono HB3.out.size))
      have hsz : w.heap.size ≤ w4.heap.size := HB4.out.size
      have hbd : t.length + (p.drop f.length).length ≤ 1000000000 := by rw [HLEN.out]; omega
      clear hown6 hb4
      go_wp2_with (at_builtin; refine wpList_append_sl rfl _ _ rfl w.heap.size _ _ t.length (t.map encS) rfl HO7.out.row _ (p.drop f.length) rfl HO6.out hbd hsz ?_; intro v8 w5 hown8 hgrow8)
      have hO8 := OwnP.two (p := t) (q := p.drop f.length) hown8 rfl
      have HO8 := Lib.hid hO8.sl
      have HB8 : Hid (Below w.heap.size w w5) := HB4.out.grown hgrow8 hsz (fun r e => (HO7.out.row.lt r e).1)
      clear hO8 hown8 hgrow8
      go_wp2_with fail
      go_ret2
      rw [H.out]
      exact ⟨_, rfl, HO8.out, HB8.out⟩
    · rw [if_neg hcf] at hR
      have HR := Lib.hid hR
      clear hR
      by_cases h8 : 8 < t.length + (p.length - f.length)
      · have H : Hid (moveR p f t = ([], 3)) := by show moveR p f t = _; unfold moveR; rw [if_pos hE, hun, if_pos rfl, if_pos h8]
        have i1 : (8 : Int) < (t.length : Int) + ((p.length : Int) - f.length) := by omega
        clear hE hv hv2 hv3 hB1 hW1 hz
        go_enter Tryd.func32, Tryd.ntmps32
        go_wp2_with fail
        rw [← HW1.out]
        refine HCA.out.mono ?_
        rintro e w' ⟨rfl, rfl⟩
        go_wp2_with fail
        refine HU.out.mono ?_
        rintro e w2 ⟨rfl, hb2⟩
        go_wp2_with fail
        go_ret2
        rw [H.out]
        exact ⟨_, rfl, SL.nil _ _, HB.out.trans (hb2.mono HB.out.size)⟩
      have H : Hid (moveR p f t = (t ++ p.drop f.length, 0)) := by show moveR p f t = _; unfold moveR; rw [if_pos hE, hun, if_pos rfl, if_neg h8]
      have i1 : ¬ (8 : Int) < (t.length : Int) + ((p.length : Int) - f.length) := by omega
      have HPD := Lib.hid (hp.drop f.length)
      have HLEN := Lib.hid hlen
      clear hE hv hv2 hv3 hB1 hW1 hz hlen
      go_enter Tryd.func32, Tryd.ntmps32
      go_wp2_with fail
      rw [← HW1.out]
      refine HCA.out.mono ?_
      rintro e w' ⟨rfl, rfl⟩
      go_wp2_with fail
      refine HU.out.mono ?_
      rintro e w2 ⟨rfl, hb2⟩
      go_wp2_with fail
      refine (fresh_any w2 _ t (HT.out.next hb2) ht.1 ht.2).mono ?_
      rintro e w3 ⟨v5, rfl, hown5, hb3⟩
      have HR3 := Lib.hid ((HR.out.next hb2).next hb3)
      have HB3 := Lib.hid ((HB.out.trans (hb2.mono HB.out.size)).trans (hb3.mono (by have := HB.out.size; have := hb2.size; omega)))
      have HO5 := Lib.hid (hown5.lower (base' := w.heap.size) (by have := HB.out.size; have := hb2.size; omega))
      clear hown5 hb2 hb3
      go_wp2_with fail
      refine (fresh_any w3 _ (p.drop f.length) HR3.out HPD.out.1 HPD.out.2).mono ?_
      rintro e w4 ⟨v6, rfl, hown6, hb4⟩
      have HO6 := Lib.hid hown6.sl
      have HO7 := Lib.hid (HO5.out.below hb4)
      have HB4 := Lib.hid (HB3.out.trans (hb4.mono HB3.out.size))
      have hsz : w.heap.size ≤ w4.heap.size := HB4.out.size
      have hbd : t.length + (p.drop f.length).length ≤ 1000000000 := by rw [HLEN.out]; omega
      clear hown6 hb4
      go_wp2_with (at_builtin; refine wpList_append_sl rfl _ _ rfl w.heap.size _ _ t.length (t.map encS) rfl HO7.out.row _ (p.drop f.length) rfl HO6.out hbd hsz ?_; intro v8 w5 hown8 hgrow8)
      have hO8 := OwnP.two (p := t) (q := p.drop f.length) hown8 rfl
      have HO8 := Lib.hid hO8.sl
      have HB8 : Hid (Below w.heap.size w w5) := HB4.out.grown hgrow8 hsz (fun r e => (HO7.out.row.lt r e).1)
      clear hO8 hown8 hgrow8
      go_wp2_with fail
      go_ret2
      rw [H.out]
      exact ⟨_, rfl, HO8.out, HB8.out⟩
end Go.Proofs.YtgfmfeaapffdfaaDoor
