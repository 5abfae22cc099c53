/- The contracts of words.appendChar, appendQuoted and Quote. Conditions: a row of bytes of the call's own, shorter than 10^10; the table of letters holds what its text lays. -/
import Derived.Test.YtdkaogcimecfiaaDoorOwn
import Derived.Test.YtdkaogcimecfiaaDoorEsc
import Derived.StillTailTactics
import Derived.WalkSmall
import Derived.Deep.RegionLaw
namespace Go.Proofs.YtdkaogcimecfiaaDoor
open Go.RowKit

theorem and_all : ((List.range 256).all fun n => decide (bits BinOp.and IntKind.u8 ((n : Nat) : Int) 15 = ((n : Nat) : Int) % 16)) = true := by decide +kernel
theorem and_15 (n : Nat) (h : n < 256) : bits BinOp.and IntKind.u8 (n : Int) 15 = (n : Int) % 16 := by
  have := List.all_eq_true.1 and_all n (List.mem_range.2 h)
  simpa using this
theorem hex_all : ∀ k : Fin 16, ((⟨#[48, 49, 50, 51, 52, 53, 54, 55, 56, 57, 97, 98, 99, 100, 101, 102]⟩ : ByteArray)[k.val]'(k.isLt)).toNat = M.hexN k.val := by decide +kernel
theorem hex_dig (k : Nat) (h : k < 16) (h2 : k < (⟨#[48, 49, 50, 51, 52, 53, 54, 55, 56, 57, 97, 98, 99, 100, 101, 102]⟩ : ByteArray).size) :
    ((⟨#[48, 49, 50, 51, 52, 53, 54, 55, 56, 57, 97, 98, 99, 100, 101, 102]⟩ : ByteArray)[k]'h2).toNat = M.hexN k := hex_all ⟨k, h⟩
theorem hexN_lt (k : Nat) (h : k < 16) : M.hexN k < 256 := by unfold M.hexN; split <;> omega
theorem cell_four_new (w : World) (a b c d : Value) (t : TypeId) : ∀ j u, [a, b, c, d][j]? = some u → (w.alloc (.cells #[a, b, c, d] t)).cell? ((⟨w.heap.size, 0, none⟩ : Addr).add j) = some u := by
  intro j u hj
  match j, hj with
  | 0, hj => simp at hj; subst hj; simp [Addr.add]
  | 1, hj => simp at hj; subst hj; simp [Addr.add]
  | 2, hj => simp at hj; subst hj; simp [Addr.add]
  | 3, hj => simp at hj; subst hj; simp [Addr.add]
  | j + 4, hj => simp at hj
theorem letter_lt (c x : Nat) (h : M.letterN c = some x) : x < 256 := by
  unfold M.letterN at h
  split at h
  · cases h; omega
  split at h
  · cases h; omega
  split at h
  · cases h; omega
  split at h
  · cases h; omega
  split at h
  · cases h; omega
  · cases h

set_option maxRecDepth 100000 in
set_option maxHeartbeats 400000 in
theorem appendChar_any (base : Nat) (v : Value) (y : List UInt8) (c : UInt8) (w : World) (hown0 : w.ownsRow base 5 1 v y.length (bvs y)) (hb0 : base ≤ w.heap.size) (hy : y.length ≤ 10000000000) (T : Tab w) :
    Calls Tryd.prog 61 #[v, .int .u8 (c.toNat : Int)] w fun e w' => ∃ v', e = .returned v' ∧ w'.ownsRow base 5 1 v' (y.length + (M.esc c).length) (bvs (y ++ M.esc c)) ∧ Below base w w' := by
  obtain ⟨i0, hi, hz0, hz1, hz2⟩ := info_parts info_u8
  have HL := Lib.hid (letterOf_any c.toNat w T)
  have HOWN := Lib.hid hown0
  clear hown0
  cases hp : M.plainN c.toNat with
  | true =>
    have he : M.esc c = [c] := by unfold M.esc; rw [hp]; rfl
    have hP : plainB (c.toNat : Int) = true := by
      rw [← hp]; unfold plainB M.plainN; rw [Bool.eq_iff_iff]; simp; omega
    have HE := Lib.hid he
    have HP := Lib.hid hP
    clear he hp hP
    go_enter Tryd.func61, Tryd.ntmps61
    go_wp2_with fail
    refine (isPlain_any _ _).mono ?_
    rintro e w' ⟨rfl, rfl⟩
    rw [HP.out]
    go_wp2_with (at_builtin; refine wpList_append_own _ rfl _ _ 38 rfl base 5 i0 (.int .u8 0) 1 1 Tryd.underlying38 hi hz0 hz1 hz2 rfl (by decide) _ _ _ rfl (HOWN.out.alloc _) ⟨w.heap.size, 0, none⟩ 1 1 [.int .u8 (c.toNat : Int)] rfl rfl ?c1 ?c2 ?c3 ?c4 ?c5 ?_)
    case c1 => exact cell_one_new _ _ _
    case c2 => simp [Value.oneCell']
    case c3 => unfold maxLen; omega
    case c4 => omega
    case c5 => simp; omega
    intro v' w1 hown' hgrow _
    have hB3 : Below base w w1 := ((Below.refl base w).alloc hb0 _).grown hgrow (by simp; omega) (fun g hg => (HOWN.out.lt g hg).1)
    rw [← bvs_snoc] at hown'
    have HO := Lib.hid hown'
    clear hgrow hown'
    go_wp2_with fail
    go_ret
    exact ⟨v', rfl, by rw [HE.out]; exact HO.out, hB3⟩
  | false =>
    have hP : plainB (c.toNat : Int) = false := by
      rw [← hp]; unfold plainB M.plainN; rw [Bool.eq_iff_iff]; simp; omega
    have HP := Lib.hid hP
    clear hP
    cases hl : M.letterN c.toNat with
    | some x =>
      have he : M.esc c = [92, M.u x] := by unfold M.esc; rw [hp, hl]; rfl
      have hx : x < 256 := letter_lt _ _ hl
      have HE := Lib.hid he
      have HX := Lib.hid hl
      clear he hp hl
      go_enter Tryd.func61, Tryd.ntmps61
      go_wp2_with fail
      refine (isPlain_any _ _).mono ?_
      rintro e w' ⟨rfl, rfl⟩
      rw [HP.out]
      go_wp2_with fail
      refine (HL.out).mono ?_
      rintro e w' ⟨rfl, rfl⟩
      simp only [HX.out, pairOf]
      go_wp2_with (at_builtin; refine wpList_append_own _ rfl _ _ 38 rfl base 5 i0 (.int .u8 0) 1 1 Tryd.underlying38 hi hz0 hz1 hz2 rfl (by decide) _ _ _ rfl (HOWN.out.alloc _) ⟨w.heap.size, 0, none⟩ 2 2 [.int .u8 92, .int .u8 (x : Int)] rfl rfl ?c1 ?c2 ?c3 ?c4 ?c5 ?_)
      case c1 => exact cell_two_new _ _ _ _
      case c2 => simp [Value.oneCell']
      case c3 => unfold maxLen; omega
      case c4 => omega
      case c5 => simp; omega
      intro v' w1 hown' hgrow _
      have hB3 : Below base w w1 := ((Below.refl base w).alloc hb0 _).grown hgrow (by simp; omega) (fun g hg => (HOWN.out.lt g hg).1)
      have hbv : bvs (y ++ [92, M.u x]) = bvs y ++ [.int .u8 92, .int .u8 (x : Int)] := by
        rw [bvs_app]; congr 1
        show [Value.int .u8 (((92 : UInt8).toNat : Nat) : Int), Value.int .u8 (((M.u x).toNat : Nat) : Int)] = _
        unfold M.u
        rw [UInt8.toNat_ofNat_of_lt' hx]; rfl
      rw [← hbv] at hown'
      have HO := Lib.hid hown'
      clear hgrow hown' hbv
      go_wp2_with fail
      go_ret
      exact ⟨v', rfl, by rw [HE.out]; exact HO.out, hB3⟩
    | none =>
      have he : M.esc c = [92, 120, M.u (M.hexN (c.toNat / 16)), M.u (M.hexN (c.toNat % 16))] := by unfold M.esc; rw [hp, hl]; rfl
      have HE := Lib.hid he
      have HX := Lib.hid hl
      clear he hp hl
      go_enter Tryd.func61, Tryd.ntmps61
      go_wp2_with fail
      refine (isPlain_any _ _).mono ?_
      rintro e w' ⟨rfl, rfl⟩
      rw [HP.out]
      go_wp2_with fail
      refine (HL.out).mono ?_
      rintro e w' ⟨rfl, rfl⟩
      simp only [HX.out, pairOf]
      go_wp2_with fail
      have hc := c.toNat_lt
      have hand := and_15 c.toNat hc
      have q0 : (0 : Int) ≤ (c.toNat : Int) / 16 := by omega
      have q1 : (c.toNat : Int) / 16 < 16 := by omega
      have q2 : ((c.toNat : Int) / 16).toNat = c.toNat / 16 := by omega
      have r0 : (0 : Int) ≤ (c.toNat : Int) % 16 := by omega
      have r1 : (c.toNat : Int) % 16 < 16 := by omega
      have r2 : ((c.toNat : Int) % 16).toNat = c.toNat % 16 := by omega
      have d1 := hex_dig (c.toNat / 16) (by omega)
      have d2 := hex_dig (c.toNat % 16) (by omega)
      have hbv : bvs (y ++ [92, 120, M.u (M.hexN (c.toNat / 16)), M.u (M.hexN (c.toNat % 16))]) = bvs y ++ [.int .u8 92, .int .u8 120, .int .u8 (M.hexN (c.toNat / 16) : Nat), .int .u8 (M.hexN (c.toNat % 16) : Nat)] := by
        rw [bvs_app]; congr 1
        show [Value.int .u8 (((92 : UInt8).toNat : Nat) : Int), Value.int .u8 (((120 : UInt8).toNat : Nat) : Int), Value.int .u8 (((M.u (M.hexN (c.toNat / 16))).toNat : Nat) : Int), Value.int .u8 (((M.u (M.hexN (c.toNat % 16))).toNat : Nat) : Int)] = _
        unfold M.u
        rw [UInt8.toNat_ofNat_of_lt' (hexN_lt _ (by omega)), UInt8.toNat_ofNat_of_lt' (hexN_lt _ (by omega))]; rfl
      have HBV := Lib.hid hbv
      clear hc hbv
      go_region_law (rw [if_pos (by simp [Region.wanted])]; refine wp_append_own _ _ _ 38 rfl base 5 i0 (.int .u8 0) 1 1 Tryd.underlying38 hi hz0 hz1 hz2 rfl (by decide) _ _ _ rfl ((World.ownsRow.alloc (w := w.drew) HOWN.out) _) ⟨w.heap.size, 0, none⟩ 4 4 [.int .u8 92, .int .u8 120, .int .u8 (M.hexN (c.toNat / 16) : Nat), .int .u8 (M.hexN (c.toNat % 16) : Nat)] rfl rfl (cell_four_new _ _ _ _ _ _) (by simp [Value.oneCell']) (by unfold maxLen; omega) (by omega) (by simp; omega) ?_; intro v' w1 hown' hgrow _)
      all_goals
        have hB3 : Below base w w1 := (((Below.refl base w).drew).alloc hb0 _).grown hgrow (by simp; omega) (fun g hg => (HOWN.out.lt g hg).1)
        rw [← HBV.out] at hown'
        have HO := Lib.hid hown'
        clear hgrow hown'
        go_wp2_with fail
        go_ret
        exact ⟨v', rfl, by rw [HE.out]; exact HO.out, hB3⟩
end Go.Proofs.YtdkaogcimecfiaaDoor
