/- The contracts of Join and Move, of the program and of the reference. Conditions: the slices hold what is said of them; paths of at most 10^6 strings of at most 10^9 bytes. -/
import Derived.Test.YtgfmfeaapffdfaaDoorParent
import Derived.Maps.AppendAt
namespace Go.Proofs.YtgfmfeaapffdfaaDoor
open Go.RowKit

def joinR (p : Path) (s : ByteArray) : Path × Nat :=
  if checkE p = 0 then (if nameE s = 0 then (if p.length = 8 then ([], 3) else (p ++ [s], 0)) else ([], nameE s)) else ([], checkE p)
def moveE (p f t : Path) : Nat := if bothE p f = 0 then checkE t else bothE p f
def moveR (p f t : Path) : Path × Nat :=
  if moveE p f t = 0 then (if un p f = true then (if 8 < t.length + (p.length - f.length) then ([], 3) else (t ++ p.drop f.length, 0)) else ([], 4)) else ([], moveE p f t)
theorem OwnP.two {w : World} {base n : Nat} {v : Value} {p q : Path} (h : w.ownsRow base 9 1 v n (p.map encS ++ q.map encS)) (hn : n = p.length + q.length) : OwnP w base v (p ++ q) := by
  unfold OwnP
  rw [List.length_append, List.map_append, ← hn]; exact h
theorem sl_one (w : World) (s : ByteArray) : SL encS (w.alloc (.cells #[.string s] 9)) (w.alloc (.cells #[.string s] 9)).heap.size (.slice (some ⟨w.heap.size, 0, none⟩) 1 1) [s] := by
  refine .inr ⟨w.heap.size, 0, 1, rfl, by simp, by simp, fun i hi => ?_⟩
  rw [cells_at, Nat.zero_add]
  rcases i with _ | i
  · rfl
  · simp at hi

set_option maxRecDepth 100000 in
set_option maxHeartbeats 4000000 in
theorem join_any (w : World) (v : Value) (p : Path) (s : ByteArray) (hv : SL encS w w.heap.size v p) (hp : Fit p) (hs : s.size ≤ 1000000000) :
    Calls Tryd.prog 30 #[v, .string s] w fun e w' => PathE w (joinR p s) e w' := by
  have HC := Lib.hid (check_any w _ p hv hp.2)
  have HN := Lib.hid (name_any s w hs)
  by_cases hE : checkE p = 0
  case neg =>
    have hb := int_some hE
    have H : Hid (joinR p s = ([], checkE p)) := by show joinR p s = _; unfold joinR; rw [if_neg hE]
    obtain ⟨A, c, rfl⟩ := hv.form
    clear hE hv
    go_enter Tryd.func30, Tryd.ntmps30
    go_wp2_with fail
    refine HC.out.mono ?_
    rintro e w' ⟨rfl, rfl⟩
    go_wp2_with fail
    go_ret2
    rw [H.out]
    exact ⟨_, rfl, SL.nil _ _, Below.refl _ _⟩
  have hb := int_zero hE
  by_cases hN : nameE s = 0
  case neg =>
    have hb2 := int_some hN
    have H : Hid (joinR p s = ([], nameE s)) := by show joinR p s = _; unfold joinR; rw [if_pos hE, if_neg hN]
    obtain ⟨A, c, rfl⟩ := hv.form
    clear hE hv hN
    go_enter Tryd.func30, Tryd.ntmps30
    go_wp2_with fail
    refine HC.out.mono ?_
    rintro e w' ⟨rfl, rfl⟩
    go_wp2_with fail
    refine HN.out.mono ?_
    rintro e w' ⟨rfl, rfl⟩
    go_wp2_with fail
    go_ret2
    rw [H.out]
    exact ⟨_, rfl, SL.nil _ _, Below.refl _ _⟩
  have hb2 := int_zero hN
  by_cases h8 : p.length = 8
  · have H : Hid (joinR p s = ([], 3)) := by show joinR p s = _; unfold joinR; rw [if_pos hE, if_pos hN, if_pos h8]
    obtain ⟨A, c, rfl⟩ := hv.form
    rw [h8] at HC ⊢
    clear hE hv hN
    go_enter Tryd.func30, Tryd.ntmps30
    go_wp2_with fail
    refine HC.out.mono ?_
    rintro e w' ⟨rfl, rfl⟩
    go_wp2_with fail
    refine HN.out.mono ?_
    rintro e w' ⟨rfl, rfl⟩
    go_wp2_with fail
    go_ret2
    rw [H.out]
    exact ⟨_, rfl, SL.nil _ _, Below.refl _ _⟩
  have H : Hid (joinR p s = (p ++ [s], 0)) := by show joinR p s = _; unfold joinR; rw [if_pos hE, if_pos hN, if_neg h8]
  have hq : ((p.length : Int) == 8) = false := by rw [beq_eq_false_iff_ne]; omega
  have HF := Lib.hid (fresh_any w _ p hv hp.1 hp.2)
  have HCL : Hid (∀ V, Calls Tryd.prog 51 #[.string s] V fun e w' => e = .returned (.string s) ∧ Below V.heap.size V w') := fun V => clone_any V s hs
  have hpl := hp.1
  obtain ⟨A, c, rfl⟩ := hv.form
  clear hE hv hN h8
  go_enter Tryd.func30, Tryd.ntmps30
  go_wp2_with fail
  refine HC.out.mono ?_
  rintro e w' ⟨rfl, rfl⟩
  go_wp2_with fail
  refine HN.out.mono ?_
  rintro e w' ⟨rfl, rfl⟩
  go_wp2_with fail
  refine HF.out.mono ?_
  rintro e w2 ⟨v', rfl, hown, hb3⟩
  go_wp2_with fail
  refine (HCL.out w2).mono ?_
  rintro e w3 ⟨rfl, hb4⟩
  have HO : Hid ((w3.alloc (.cells #[.string s] 9)).ownsRow w.heap.size 9 1 v' p.length (p.map encS)) := (own_below hown hb4).alloc _
  have HB := Lib.hid ((hb3.trans (hb4.mono hb3.size)).alloc (by have := hb3.size; have := hb4.size; omega) (.cells #[.string s] 9))
  have hsz : w.heap.size ≤ (w3.alloc (.cells #[.string s] 9)).heap.size := HB.out.size
  clear hown hb3 hb4
  go_wp2_with (at_builtin; refine wpList_append_sl rfl _ _ rfl w.heap.size _ _ p.length (p.map encS) rfl HO.out _ [s] rfl (sl_one w3 s) (by simp; omega) hsz ?_; intro v4 w4 hown4 hgrow4)
  have hO4 := OwnP.two (p := p) (q := [s]) hown4 rfl
  have HO4 := Lib.hid hO4.sl
  have HB4 : Hid (Below w.heap.size w w4) := HB.out.grown hgrow4 hsz (fun r e => (HO.out.lt r e).1)
  clear hO4 hown4 hgrow4
  go_wp2_with fail
  go_ret2
  rw [H.out]
  exact ⟨_, rfl, HO4.out, HB4.out⟩

set_option maxRecDepth 100000 in
set_option maxHeartbeats 4000000 in
theorem rjoin_any (w : World) (v : Value) (p : Path) (s : ByteArray) (hv : SL encS w w.heap.size v p) (hp : Fit p) (hs : s.size ≤ 1000000000) :
    Calls Tryd.prog 31 #[v, .string s] w fun e w' => PathE w (joinR p s) e w' := by
  have HC := Lib.hid (rcheck_any w _ p hv hp.2)
  have HN := Lib.hid (rname_any s w hs)
  by_cases hE : checkE p = 0
  case neg =>
    have hb := int_some hE
    have hb' := int_some' hE
    have H : Hid (joinR p s = ([], checkE p)) := by show joinR p s = _; unfold joinR; rw [if_neg hE]
    obtain ⟨A, c, rfl⟩ := hv.form
    clear hE hv
    go_enter Tryd.func31, Tryd.ntmps31
    go_wp2_with fail
    refine HC.out.mono ?_
    rintro e w' ⟨rfl, rfl⟩
    go_wp2_with fail
    go_ret2
    rw [H.out]
    exact ⟨_, rfl, SL.nil _ _, Below.refl _ _⟩
  have hb := int_zero hE
  have hb' := int_zero' hE
  by_cases hN : nameE s = 0
  case neg =>
    have hb2 := int_some hN
    have hb2' := int_some' hN
    have H : Hid (joinR p s = ([], nameE s)) := by show joinR p s = _; unfold joinR; rw [if_pos hE, if_neg hN]
    obtain ⟨A, c, rfl⟩ := hv.form
    clear hE hv hN
    go_enter Tryd.func31, Tryd.ntmps31
    go_wp2_with fail
    refine HC.out.mono ?_
    rintro e w' ⟨rfl, rfl⟩
    go_wp2_with fail
    refine HN.out.mono ?_
    rintro e w' ⟨rfl, rfl⟩
    go_wp2_with fail
    go_ret2
    rw [H.out]
    exact ⟨_, rfl, SL.nil _ _, Below.refl _ _⟩
  have hb2 := int_zero hN
  have hb2' := int_zero' hN
  by_cases h8 : p.length = 8
  · have H : Hid (joinR p s = ([], 3)) := by show joinR p s = _; unfold joinR; rw [if_pos hE, if_pos hN, if_pos h8]
    obtain ⟨A, c, rfl⟩ := hv.form
    rw [h8] at HC ⊢
    clear hE hv hN
    go_enter Tryd.func31, Tryd.ntmps31
    go_wp2_with fail
    refine HC.out.mono ?_
    rintro e w' ⟨rfl, rfl⟩
    go_wp2_with fail
    refine HN.out.mono ?_
    rintro e w' ⟨rfl, rfl⟩
    go_wp2_with fail
    go_ret2
    rw [H.out]
    exact ⟨_, rfl, SL.nil _ _, Below.refl _ _⟩
  have H : Hid (joinR p s = (p ++ [s], 0)) := by show joinR p s = _; unfold joinR; rw [if_pos hE, if_pos hN, if_neg h8]
  have hq : ((p.length : Int) == 8) = false := by rw [beq_eq_false_iff_ne]; omega
  have hpl := hp.1
  have HNW := Lib.hid (own_new w 9)
  have HSV := Lib.hid (hv.next ((Below.refl _ w).alloc (Nat.le_refl _) (.cells #[] 9)))
  obtain ⟨A, c, rfl⟩ := hv.form
  clear hE hv hN h8
  go_enter Tryd.func31, Tryd.ntmps31
  go_wp2_with fail
  refine HC.out.mono ?_
  rintro e w' ⟨rfl, rfl⟩
  go_wp2_with fail
  refine HN.out.mono ?_
  rintro e w' ⟨rfl, rfl⟩
  go_wp2_with (first
    | (at_builtin
       refine wpList_append_sl rfl _ _ rfl w.heap.size _ _ 0 [] rfl HNW.out _ p rfl HSV.out (by omega) (by simp) ?_
       intro v2 w2 hown2 hgrow2
       rw [List.nil_append, Nat.zero_add] at hown2
       have hB2 : Below w.heap.size w w2 := ((Below.refl _ w).alloc (Nat.le_refl _) _).grown hgrow2 (by simp) (fun r e => (HNW.out.lt r e).1)
       have HO : Hid ((w2.alloc (.cells #[.string s] 9)).ownsRow w.heap.size 9 1 v2 p.length (p.map encS)) := hown2.alloc _
       have HB := Lib.hid (hB2.alloc hB2.size (.cells #[.string s] 9))
       have hsz : w.heap.size ≤ (w2.alloc (.cells #[.string s] 9)).heap.size := HB.out.size
       clear hown2 hgrow2 hB2)
    | (at_builtin; refine wpList_append_sl rfl _ _ rfl w.heap.size _ _ p.length (p.map encS) rfl HO.out _ [s] rfl (sl_one w2 s) (by simp; omega) hsz ?_; intro v4 w4 hown4 hgrow4))
  have hO4 := OwnP.two (p := p) (q := [s]) hown4 rfl
  have HO4 := Lib.hid hO4.sl
  have HB4 : Hid (Below w.heap.size w w4) := HB.out.grown hgrow4 hsz (fun r e => (HO.out.lt r e).1)
  clear hO4 hown4 hgrow4
  go_wp2_with fail
  go_ret2
  rw [H.out]
  exact ⟨_, rfl, HO4.out, HB4.out⟩
end Go.Proofs.YtgfmfeaapffdfaaDoor
