/- The contracts of Encode and Size of the reference. Conditions: a slice whose cells hold the values; at most 10^9 of them. -/
import Derived.Test.YtkbmkheipmbllaaRVal
import Derived.Test.YtkbmkheipmbllaaEnc
namespace Go.Proofs.Ytkbmkheipmbllaa
open Go.RowKit

set_option maxRecDepth 100000 in
set_option maxHeartbeats 800000 in
theorem rencode_any (w : World) (v : Value) (fs : List UInt8) (l : List Rm.Val) (hv : VL w w.heap.size v l) (hf : fs.length ≤ 1000000000) (hl : l.length ≤ 1000000000) :
    Calls Try.prog 12 #[.string ⟨fs.toArray⟩, v] w fun e w' => EnE w fs l e w' := by
  obtain ⟨A, c0, rfl⟩ := hv.form
  have HV := Lib.hid hv
  have HFA := Lib.hid (form_any w fs hf)
  clear hv
  go_enter Try.func12, Try.ntmps12
  go_wp2_with fail
  refine HFA.out.mono ?_
  rintro e w' ⟨rfl, rfl⟩
  clear HFA
  by_cases hfe : Rm.formE fs = 0
  case neg =>
    have HR : Hid (Rm.encR fs l = ([], Rm.formE fs)) := by unfold Rm.encR; exact if_pos hfe
    obtain ⟨n, hn⟩ : ∃ n, n = Rm.formE fs := ⟨_, rfl⟩
    rw [← hn] at HR hfe ⊢
    have hd : ((n : Int) != 0) = true := by rw [bne_iff_ne]; omega
    have hd2 : ((n : Int) == 0) = false := by rw [beq_eq_false_iff_ne]; omega
    clear hn
    go_wp2_with fail
    go_ret2
    exact EnE.bad HR.out rfl (Below.refl _ _)
  rw [hfe]
  by_cases hne : l.length = fs.length
  case neg =>
    have HR : Hid (Rm.encR fs l = ([], 2)) := by unfold Rm.encR; rw [if_neg (by rw [hfe]; simp), if_pos hne]; rfl
    have hd : ((l.length : Int) != (fs.length : Int)) = true := by rw [bne_iff_ne]; omega
    clear hfe hne
    go_wp2_with fail
    go_ret2
    exact EnE.bad HR.out rfl (Below.refl _ _)
  have HFE := Lib.hid hfe
  have HNE := Lib.hid hne
  have h64 := (Rm.formE_zero hfe).1
  have HAK := Lib.hid (Rm.formE_zero hfe).2
  have hd : ((l.length : Int) != (fs.length : Int)) = false := by rw [bne_eq_false_iff_eq]; omega
  clear hfe hne
  go_wp2_with fail
  go_loopw [7, 8] (fun b i wr => ∃ (k : Nat) (B : List UInt8), k ≤ fs.length ∧ i = .int .i64 k ∧ Hid (Rm.encL (fs.take k) (l.take k) = (B, 0)) ∧ B.length ≤ 1000 * k ∧ Hid (OB wr w.heap.size b B) ∧ Hid (Below w.heap.size w wr)) (fun _ i _ => fs.length - (intOf i).toNat)
  case atStart => exact ⟨0, [], by omega, rfl, by simp [Hid, Rm.encL_nil], by simp, OB.nil _ _, Below.refl _ _⟩
  case round =>
    obtain ⟨k, B, hk, rfl, HE, hBl, HO, HB⟩ := hrel
    by_cases hlt : k < fs.length
    · have hltI : (k : Int) < (fs.length : Int) := by omega
      have hlt2 : k < l.length := by rw [HNE.out]; exact hlt
      have hltI2 : (k : Int) < (l.length : Int) := by omega
      obtain ⟨bv, ov, hA, hbv, hcv⟩ := HV.out.at (by omega)
      subst hA
      have hva := hcv k hlt2
      clear hcv
      have hisk : Hid (Rm.isK fs[k] = true) := List.all_eq_true.1 HAK.out _ (List.getElem_mem _)
      have hnx : Hid (Rm.valE fs[k] l[k] = 0 → Rm.encL (fs.take (k + 1)) (l.take (k + 1)) = (B ++ Rm.valB fs[k] l[k], 0)) := fun h => Rm.encL_next hlt hlt2 HE.out h
      have hst : Hid (Rm.valE fs[k] l[k] ≠ 0 → Rm.encL fs l = ([], Rm.valE fs[k] l[k])) := fun h => Rm.encL_stop hlt hlt2 HE.out h
      have hvl : Hid (Rm.valE fs[k] l[k] = 0 → (Rm.valB fs[k] l[k]).length ≤ 1000) := fun h => valB_le hisk.out h (by obtain ⟨_, _, _, _, _, hh⟩ := hva; omega)
      have hsz : (⟨fs.toArray⟩ : ByteArray).size = fs.length := by simp [ByteArray.size]
      have hh : k < (⟨fs.toArray⟩ : ByteArray).size := by rw [hsz]; exact hlt
      obtain ⟨x, hx⟩ : ∃ x, x = l[k] := ⟨_, rfl⟩
      rw [← hx] at hva hnx hst hvl
      clear hx
      obtain ⟨lv, b0, b1, b2, hsl, hn64⟩ := hva.below HB.out hbv (Nat.le_refl _)
      clear hva
      have hwr := HB.out.size
      have HC : Hid (Calls Try.prog 25 #[.int .u8 ((((⟨fs.toArray⟩ : ByteArray)[k]'hh).toNat : Nat) : Int), .agg #[.int .u64 (x.num : Int), .string ⟨x.str.toArray⟩, lv]] wr.drew fun e w' => VaE wr.drew fs[k] x e w') :=
        rvalue_any wr.drew fs[k] hisk.out w.heap.size _ x ⟨lv, rfl, hsl, hn64⟩ hwr
      obtain ⟨c, hc⟩ : ∃ c, c = fs[k] := ⟨_, rfl⟩
      rw [← hc] at hisk hnx hst hvl HC
      clear hc
      have hS : Hid (wr.drew.cell? ⟨bv, ov + k * 3, none⟩ = some (.int .u64 (x.num : Int)) ∧ wr.drew.cell? ⟨bv, ov + k * 3 + 1, none⟩ = some (.string ⟨x.str.toArray⟩) ∧ wr.drew.cell? ⟨bv, ov + k * 3 + 2, none⟩ = some lv) := ⟨b0, b1, b2⟩
      clear hsl
      go_wp2_with fail
      go_region_held_law (fun W => W.cell? ⟨bv, ov + k * 3, none⟩ = some (.int .u64 (x.num : Int)) ∧ W.cell? ⟨bv, ov + k * 3 + 1, none⟩ = some (.string ⟨x.str.toArray⟩) ∧ W.cell? ⟨bv, ov + k * 3 + 2, none⟩ = some lv) (first | exact hS.out | exact HS5.out)
        (first
        | (with_reducible refine HC.out.mono ?_
           rintro e w4 ⟨v4, rfl, ho4, hb4⟩
           have HO4 := Lib.hid ho4
           have HB4 : Hid (Below wr.heap.size wr w4) := (Below.refl wr.heap.size wr).drew.trans hb4
           have HS5 : Hid (w4.cell? ⟨bv, ov + k * 3, none⟩ = some (.int .u64 (x.num : Int)) ∧ w4.cell? ⟨bv, ov + k * 3 + 1, none⟩ = some (.string ⟨x.str.toArray⟩) ∧ w4.cell? ⟨bv, ov + k * 3 + 2, none⟩ = some lv) := ⟨(HB4.out.cell (p := ⟨bv, _, none⟩) (show bv < wr.heap.size by omega)).trans b0, (HB4.out.cell (p := ⟨bv, _, none⟩) (show bv < wr.heap.size by omega)).trans b1, (HB4.out.cell (p := ⟨bv, _, none⟩) (show bv < wr.heap.size by omega)).trans b2⟩
           clear ho4 hb4))
      rename_i hHeld
      clear hHeld b0 b1 b2 HC hS
      have hs4 := HB4.out.size
      obtain ⟨n, hn⟩ : ∃ n, n = Rm.valE c x := ⟨_, rfl⟩
      rw [← hn] at hnx hst hvl HO4
      rw [← hn]
      have HB5 : Hid (Below w.heap.size w w4) := HB.out.trans (HB4.out.mono hwr)
      clear hn
      by_cases h0 : n = 0
      · subst h0
        have hvl0 := hvl.out rfl
        have HO5 : Hid (OB w4 w.heap.size u7 B) := HO.out.below HB4.out
        have hsv := (HO4.out rfl).sl
        obtain ⟨A4, c4, rfl⟩ := hsv.form
        have HS4 := Lib.hid hsv
        clear hsv
        go_wp2_with (at_builtin; refine wpList_append_sl rfl _ _ rfl w.heap.size w4.heap.size _ _ _ rfl HO5.out _ (Rm.valB c x) rfl HS4.out (by omega) (by omega) ?_; intro v' w6 hown2 hgrow)
        have HB6 : Hid (Below w.heap.size w w6) := HO5.out.grown HB5.out hgrow (Nat.le_refl _) (by omega)
        have HO6 : Hid (OB w6 w.heap.size v' (B ++ Rm.valB c x)) := by
          unfold OB; rw [List.length_append, List.map_append]; exact hown2
        clear hown2 hgrow
        go_wp2_with fail
        go_roundw
        case rel => exact ⟨k + 1, _, by omega, by go_num, (by have h := hnx.out; first | exact h rfl | exact h trivial), by rw [List.length_append]; omega, HO6.out, HB6.out⟩
        case measure => simp [intOf]; omega
      · have hd0 : ((n : Int) != 0) = true := by rw [bne_iff_ne]; omega
        have HR : Hid (Rm.encR fs l = ([], n)) := by
          have h := hst.out h0
          show Rm.encR fs l = ([], n)
          unfold Rm.encR
          rw [h, if_neg (by rw [HFE.out]; simp), if_neg (by rw [HNE.out]; simp), if_pos h0]
        clear h0
        go_wp2_with fail
        go_ret2
        exact EnE.bad HR.out rfl HB5.out
    · obtain rfl : k = fs.length := by omega
      have hltI : ¬ ((fs.length : Int) < (fs.length : Int)) := by omega
      have HE2 := HE
      rw [List.take_length, ← HNE.out, List.take_length] at HE2
      obtain ⟨Ab, cb, rfl⟩ := HO.out.form
      by_cases h4 : 4000 < B.length
      · have h4I : (4000 : Int) < (B.length : Int) := by omega
        have HR : Hid (Rm.encR fs l = ([], 3)) := by
          show Rm.encR fs l = ([], 3)
          unfold Rm.encR
          rw [HE2.out, if_neg (by rw [HFE.out]; simp), if_neg (by rw [HNE.out]; simp), if_neg (by simp), if_pos h4]
        go_wp2_with fail
        go_ret2
        exact EnE.bad HR.out rfl HB.out
      · have h4I : ¬ (4000 : Int) < (B.length : Int) := by omega
        have HR : Hid (Rm.encR fs l = (B, 0)) := by
          show Rm.encR fs l = (B, 0)
          unfold Rm.encR
          rw [HE2.out, if_neg (by rw [HFE.out]; simp), if_neg (by rw [HNE.out]; simp), if_neg (by simp), if_neg h4]
        go_wp2_with fail
        go_ret2
        unfold EnE
        rw [HR.out]
        exact ⟨_, rfl, HO.out.sl, HB.out⟩
/-- What Size of the reference hands back. -/
theorem rsize_any (w : World) (v : Value) (fs : List UInt8) (l : List Rm.Val) (hv : VL w w.heap.size v l) (hf : fs.length ≤ 1000000000) (hl : l.length ≤ 1000000000) :
    Calls Try.prog 14 #[.string ⟨fs.toArray⟩, v] w fun e w' => e = .returned (.tuple #[.int .i64 (((Rm.encR fs l).1.length : Nat) : Int), .int .i64 (((Rm.encR fs l).2 : Nat) : Int)]) ∧ Below w.heap.size w w' := by
  have HE := Lib.hid (rencode_any w v fs l hv hf hl)
  clear hv
  go_enter Try.func14, Try.ntmps14
  go_wp2_with fail
  refine HE.out.mono ?_
  rintro e w1 ⟨v1, rfl, hs, hb⟩
  obtain ⟨B, n, hr⟩ : ∃ B n, Rm.encR fs l = (B, n) := ⟨_, _, rfl⟩
  rw [hr] at hs ⊢
  simp only at hs ⊢
  obtain ⟨A1, c1, rfl⟩ := hs.form
  have HB := Lib.hid hb
  have HR := Lib.hid hr
  clear hs hb HE hr
  go_wp2_with fail
  go_ret2
  exact ⟨by rw [HR.out]; rfl, HB.out⟩
end Go.Proofs.Ytkbmkheipmbllaa
