/- The contract of the law's awake: some results are as the document says. Condition: the library's variable MaxLen holds a number. -/
import Derived.Test.YtgfmfeaapffdfaaDoorRMove
import Derived.Test.YtgfmfeaapffdfaaDoorRParse
namespace Go.Proofs.YtgfmfeaapffdfaaDoor
open Go.RowKit

theorem nameE_of (l : List UInt8) (h : (!(l == [] || (l == [46] || l == [46, 46])) && (l.all okB && decide (l.length ≤ 24))) = true) : nameE ⟨l.toArray⟩ = 0 := by
  simp only [Bool.and_eq_true, Bool.not_eq_true', decide_eq_true_eq] at h
  obtain ⟨h1, h2, h3⟩ := h
  have hs : (⟨l.toArray⟩ : ByteArray).size = l.length := rfl
  unfold nameE
  rw [if_neg, if_pos, if_neg]
  · rw [hs]; omega
  · exact h2
  · unfold oddName
    rw [Lib.toList_data]
    show ¬ (l == [] || (l == [46] || l == [46, 46])) = true
    rw [h1]; simp
def sA : ByteArray := ⟨#[97]⟩
def sB : ByteArray := ⟨#[98]⟩
def sC : ByteArray := ⟨#[99]⟩
def sX : ByteArray := ⟨#[120]⟩
def sY : ByteArray := ⟨#[121]⟩
def sAB : ByteArray := ⟨#[97, 98]⟩
def sBC : ByteArray := ⟨#[98, 99]⟩
def sAm : ByteArray := ⟨#[97, 45]⟩
theorem nA : nameE sA = 0 := nameE_of [97] (by decide)
theorem nB : nameE sB = 0 := nameE_of [98] (by decide)
theorem nC : nameE sC = 0 := nameE_of [99] (by decide)
theorem nX : nameE sX = 0 := nameE_of [120] (by decide)
theorem nY : nameE sY = 0 := nameE_of [121] (by decide)
theorem nAB : nameE sAB = 0 := nameE_of [97, 98] (by decide)
theorem nBC : nameE sBC = 0 := nameE_of [98, 99] (by decide)
theorem nAm : nameE sAm = 0 := nameE_of [97, 45] (by decide)
theorem two_ok {s t : ByteArray} (h1 : nameE s = 0) (h2 : nameE t = 0) : checkE [s, t] = 0 := (checkE_zero _).2 ⟨by simp, by simp [h1, h2]⟩
theorem one_ok {s : ByteArray} (h1 : nameE s = 0) : checkE [s] = 0 := (checkE_zero _).2 ⟨by simp, by simp [h1]⟩
theorem both_ok {p q : Path} (h1 : checkE p = 0) (h2 : checkE q = 0) : bothE p q = 0 := by unfold bothE; rw [if_pos h1, h2]
theorem ne_of_bs {s t : ByteArray} (h : bs s ≠ bs t) : s ≠ t := fun e => h (by rw [e])
theorem aw1 : parseR ⟨#[47, 97, 47, 98, 99]⟩ = ([sA, sBC], 0) := parse_print [sA, sBC] (two_ok nA nBC)
theorem aw2 : printR [sA, sBC] = (⟨#[47, 97, 47, 98, 99]⟩, 0) := by unfold printR; rw [if_pos (two_ok nA nBC)]; rfl
theorem aw3 : parseR ⟨#[47, 97, 47]⟩ = ([], 6) := by
  have e : segsP ⟨#[47, 97, 47]⟩ = [sA, ⟨#[]⟩] := rfl
  have h0 : nameE ⟨#[]⟩ = 6 := by
    unfold nameE oddName
    rw [Lib.toList_data]; rfl
  have hc : checkE [sA, ⟨#[]⟩] = 6 := by
    unfold checkE
    rw [if_neg (by simp)]
    show (if nameE sA = 0 then (if nameE ⟨#[]⟩ = 0 then 0 else nameE ⟨#[]⟩) else nameE sA) = 6
    rw [if_pos nA, h0]; rfl
  unfold parseR
  rw [if_neg (by decide), if_neg (by decide), if_neg (by decide), e, hc]; rfl
theorem aw4 : compR [sA, sB] [sAm] = (-1, 0) := by
  unfold compR
  rw [if_pos (both_ok (two_ok nA nB) (one_ok nAm))]
  have h : pl [sA, sB] [sAm] = true := by
    show (if sA = sAm then pl [sB] [] else nl sA sAm) = true
    rw [if_neg (ne_of_bs (by decide))]
    unfold nl
    rw [Lib.toList_data, Lib.toList_data]; rfl
  unfold pc
  rw [if_pos h]
theorem aw5 : undR [sAB] [sA] = (false, 0) := by
  unfold undR
  rw [if_pos (both_ok (one_ok nAB) (one_ok nA))]
  have h : cn [sAB] [sA] = 0 := by
    show (if sAB = sA then _ else 0) = 0
    rw [if_neg (ne_of_bs (by decide))]
  unfold un
  rw [h]; rfl
theorem cn_one : cn [sA, sB] [sA] = 1 := by
  show (if sA = sA then cn [sB] [] + 1 else 0) = 1
  rw [if_pos rfl]; rfl
theorem aw6 : moveR [sA, sB] [sA] [sX, sY] = ([sX, sY, sB], 0) := by
  have h : moveE [sA, sB] [sA] [sX, sY] = 0 := by unfold moveE; rw [if_pos (both_ok (two_ok nA nB) (one_ok nA))]; exact two_ok nX nY
  have hu : un [sA, sB] [sA] = true := by unfold un; rw [cn_one]; rfl
  unfold moveR
  rw [if_pos h, if_pos hu, if_neg (by decide)]; rfl
theorem aw7 : comR [sA, sB] [sA, sC] = ([sA], 0) := by
  unfold comR
  rw [if_pos (both_ok (two_ok nA nB) (two_ok nA nC))]
  have h : cn [sA, sB] [sA, sC] = 1 := by
    show (if sA = sA then (if sB = sC then cn [] [] + 1 else 0) + 1 else 0) = 1
    rw [if_pos rfl, if_neg (ne_of_bs (by decide))]
  rw [h]; rfl
theorem aw8 : nameE ⟨#[46, 46]⟩ = 6 := by
  unfold nameE oddName
  rw [Lib.toList_data]; rfl
theorem fit_of (p : Path) (h1 : p.length ≤ 1000000) (h : ∀ s ∈ p, s.size ≤ 1000000000) : Fit p := ⟨h1, h⟩
theorem fit1 (s : ByteArray) (h : s.size ≤ 1000000000) : Fit [s] := ⟨by simp, by simp [h]⟩
theorem fit2 (s t : ByteArray) (h : s.size ≤ 1000000000) (h2 : t.size ≤ 1000000000) : Fit [s, t] := ⟨by simp, by simp [h, h2]⟩
theorem sl_cells (w : World) (l : Path) : SL encS (w.alloc (.cells (l.map encS).toArray 9)) (w.alloc (.cells (l.map encS).toArray 9)).heap.size (.slice (some ⟨w.heap.size, 0, none⟩) l.length l.length) l := by
  refine .inr ⟨w.heap.size, 0, l.length, rfl, by simp, Nat.le_refl _, fun i hi => ?_⟩
  rw [cells_at, Nat.zero_add]
  simp [hi]
theorem al (w : World) (o : Obj) : Below w.heap.size w (w.alloc o) := (Below.refl _ w).alloc (Nat.le_refl _) _
theorem le2 (w : World) (a b : Obj) : w.heap.size ≤ ((w.alloc a).alloc b).heap.size := by simp; omega
theorem le3 (w : World) (a b c : Obj) : w.heap.size ≤ (((w.alloc a).alloc b).alloc c).heap.size := by simp; omega
theorem le_alloc (w : World) (o : Obj) : w.heap.size ≤ (w.alloc o).heap.size := by simp

set_option maxRecDepth 100000 in
set_option maxHeartbeats 8000000 in
theorem awake_any (w : World) (hm : ML w) : Calls Tryd.prog 12 #[] w fun e w' => e = .returned (.bool true) ∧ Below w.heap.size w w' := by
  have HM := Lib.hid hm
  clear hm
  go_enter Tryd.func12, Tryd.ntmps12
  go_wp2_with fail
  have HP1 := parse_any w ⟨#[47, 97, 47, 98, 99]⟩ (by decide) HM.out
  rw [aw1] at HP1
  refine HP1.mono ?_
  clear HP1
  rintro e w1 ⟨v1, rfl, hs1, hb1⟩
  have HM1 := Lib.hid (HM.out.next hb1)
  have HP2 := print_any w1 _ _ hs1 (fit2 _ _ (by decide) (by decide))
  rw [aw2] at HP2
  have HP2' := Lib.hid HP2
  have HB1 := Lib.hid hb1
  obtain ⟨A1, c1, rfl⟩ := hs1.form
  clear HP2 hs1 hb1
  go_wp2_with fail
  refine HP2'.out.mono ?_
  rintro e w2 ⟨rfl, hb2⟩
  have HM2 := Lib.hid (HM1.out.next hb2)
  have HB2 := Lib.hid (HB1.out.trans (hb2.mono HB1.out.size))
  clear hb2 HP2' HM1 HB1
  go_wp2_with fail
  have HP3 := parse_any w2 ⟨#[47, 97, 47]⟩ (by decide) HM2.out
  rw [aw3] at HP3
  refine HP3.mono ?_
  clear HP3
  rintro e w3 ⟨v3, rfl, hs3, hb3⟩
  have HB3 := Lib.hid (HB2.out.trans (hb3.mono HB2.out.size))
  obtain ⟨A3, c3, rfl⟩ := hs3.form
  clear hb3 hs3 HB2 HM2
  go_wp2_with fail
  have HC4 := pCompare_any _ _ _ [sA, sB] [sAm] ((sl_cells w3 [sA, sB]).next (al _ (.cells ([sAm].map encS).toArray 9))) (sl_cells (w3.alloc (.cells ([sA, sB].map encS).toArray 9)) [sAm]) (fit2 _ _ (by decide) (by decide)) (fit1 _ (by decide))
  rw [aw4] at HC4
  simp only [World.size_alloc] at HC4
  refine HC4.mono ?_
  clear HC4
  rintro e w4 ⟨rfl, hb4⟩
  have HB4 := Lib.hid (HB3.out.trans (((al w3 _).trans ((al _ _).mono (le_alloc _ _))).trans (hb4.mono (by omega)) |>.mono HB3.out.size))
  clear hb4 HB3
  go_wp2_with fail
  have HC5 := pUnder_any _ _ _ [sAB] [sA] ((sl_cells w4 [sAB]).next (al _ (.cells ([sA].map encS).toArray 9))) (sl_cells (w4.alloc (.cells ([sAB].map encS).toArray 9)) [sA]) (fit1 _ (by decide)) (fit1 _ (by decide))
  rw [aw5] at HC5
  simp only [World.size_alloc] at HC5
  refine HC5.mono ?_
  clear HC5
  rintro e w5 ⟨rfl, hb5⟩
  have HB5 := Lib.hid (HB4.out.trans (((al w4 _).trans ((al _ _).mono (le_alloc _ _))).trans (hb5.mono (by omega)) |>.mono HB4.out.size))
  clear hb5 HB4
  go_wp2_with fail
  have HC6 := move_any _ _ _ _ [sA, sB] [sA] [sX, sY] (((sl_cells w5 [sA, sB]).next (al _ (.cells ([sA].map encS).toArray 9))).next (al _ (.cells ([sX, sY].map encS).toArray 9)))
    ((sl_cells (w5.alloc (.cells ([sA, sB].map encS).toArray 9)) [sA]).next (al _ (.cells ([sX, sY].map encS).toArray 9)))
    (sl_cells ((w5.alloc (.cells ([sA, sB].map encS).toArray 9)).alloc (.cells ([sA].map encS).toArray 9)) [sX, sY]) (fit2 _ _ (by decide) (by decide)) (fit1 _ (by decide)) (fit2 _ _ (by decide) (by decide))
  rw [aw6] at HC6
  simp only [World.size_alloc] at HC6
  refine HC6.mono ?_
  clear HC6
  rintro e w6 ⟨v6, rfl, hs6, hb6⟩
  have HB6 := Lib.hid (HB5.out.trans ((((al w5 _).trans ((al _ _).mono (le_alloc _ _))).trans ((al _ _).mono (le2 _ _ _))).trans (hb6.mono (le3 _ _ _ _)) |>.mono HB5.out.size))
  have HS6 := Lib.hid hs6
  obtain ⟨A6, c6, rfl⟩ := hs6.form
  clear hb6 hs6 HB5
  go_wp2_with fail
  have HC7 := pCommon_any _ _ _ [sA, sB] [sA, sC] ((sl_cells w6 [sA, sB]).next (al _ (.cells ([sA, sC].map encS).toArray 9))) (sl_cells (w6.alloc (.cells ([sA, sB].map encS).toArray 9)) [sA, sC]) (fit2 _ _ (by decide) (by decide)) (fit2 _ _ (by decide) (by decide))
  rw [aw7] at HC7
  simp only [World.size_alloc] at HC7
  refine HC7.mono ?_
  clear HC7
  rintro e w7 ⟨v7, rfl, hs7, hb7⟩
  have hb67 : Below w6.heap.size w6 w7 := ((al w6 _).trans ((al _ _).mono (le_alloc _ _))).trans (hb7.mono (le2 _ _ _))
  have HB7 := Lib.hid (HB6.out.trans (hb67.mono HB6.out.size))
  have HS67 := Lib.hid (HS6.out.next hb67)
  have HS7 := Lib.hid hs7
  obtain ⟨A7, c7, rfl⟩ := hs7.form
  clear hb7 hs7 HB6 HS6 hb67
  go_wp2_with fail
  have HC8 := same_any _ _ _ [sX, sY, sB] [sX, sY, sB] (HS67.out.next (al w7 (.cells ([sX, sY, sB].map encS).toArray 9))) (sl_cells w7 [sX, sY, sB]) (by simp) (by simp)
  rw [decide_eq_true rfl] at HC8
  refine HC8.mono ?_
  clear HC8
  rintro e w8 ⟨rfl, m, hw8⟩
  have hb78 : Below w7.heap.size w7 w8 := by rw [hw8]; exact below_drewN (al w7 _) m
  have HB8 := Lib.hid (HB7.out.trans (hb78.mono HB7.out.size))
  have HS78 := Lib.hid (HS7.out.next hb78)
  clear hw8 hb78 HB7 HS7 HS67
  go_wp2_with fail
  have HC9 := same_any _ _ _ [sA] [sA] (HS78.out.next (al w8 (.cells ([sA].map encS).toArray 9))) (sl_cells w8 [sA]) (by simp) (by simp)
  rw [decide_eq_true rfl] at HC9
  refine HC9.mono ?_
  clear HC9
  rintro e w9 ⟨rfl, m2, hw9⟩
  have hb89 : Below w8.heap.size w8 w9 := by rw [hw9]; exact below_drewN (al w8 _) m2
  have HB9 := Lib.hid (HB8.out.trans (hb89.mono HB8.out.size))
  clear hw9 hb89 HB8 HS78
  go_wp2_with fail
  have HC10 := name_any ⟨#[46, 46]⟩ w9 (by decide)
  rw [aw8] at HC10
  refine HC10.mono ?_
  clear HC10
  rintro e w10 ⟨rfl, rfl⟩
  go_wp2_with fail
  go_ret
  exact ⟨rfl, HB9.out⟩
end Go.Proofs.YtgfmfeaapffdfaaDoor
