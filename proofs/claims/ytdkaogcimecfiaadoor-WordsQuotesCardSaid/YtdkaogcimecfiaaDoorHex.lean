/- The contract of words.hexChar. Condition: the table words.escapes holds what the program's text lays. -/
import Derived.Test.YtdkaogcimecfiaaDoorEsc
import Derived.Test.YtdkaogcimecfiaaDoorShelf
namespace Go.Proofs.YtdkaogcimecfiaaDoor
open Go.RowKit

/-- What strings.IndexByte says of a digit of base 16. -/
def hexI (c : Nat) : Int := match M.unhexN c with | some x => (x : Int) | none => -1
theorem index_hex (c : UInt8) : Lib.indexByte [48, 49, 50, 51, 52, 53, 54, 55, 56, 57, 97, 98, 99, 100, 101, 102] c = hexI c.toNat := by
  have := M.u8_all (fun c => decide (Lib.indexByte [48, 49, 50, 51, 52, 53, 54, 55, 56, 57, 97, 98, 99, 100, 101, 102] c = hexI c.toNat)) (by decide +kernel) c
  simpa using this
theorem byte_back (c : UInt8) : (c.toNat : Int).toNat.toUInt8 = c := by simp
theorem indexByte_any (c : UInt8) (w : World) :
    Calls Tryd.prog 109 #[.string ⟨#[48, 49, 50, 51, 52, 53, 54, 55, 56, 57, 97, 98, 99, 100, 101, 102]⟩, .int .u8 (c.toNat : Int)] w fun e w' => e = .returned (.int .i64 (hexI c.toNat)) ∧ w = w' :=
  (Tryd.strings_IndexByte ⟨#[48, 49, 50, 51, 52, 53, 54, 55, 56, 57, 97, 98, 99, 100, 101, 102]⟩ (c.toNat : Int) w).mono fun e w' ⟨he, hw⟩ => ⟨by rw [he, byte_back, index_hex], hw.symm⟩

theorem or16 (a b : Nat) (ha : a < 16) (hb : b < 16) : bits BinOp.or IntKind.i64 ((a : Int) * 16) (b : Int) % 256 = ((a * 16 + b : Nat) : Int) := by
  have h : ∀ a < 16, ∀ b < 16, bits BinOp.or IntKind.i64 (((a * 16 : Nat) : Int)) ((b : Nat) : Int) % 256 = ((a * 16 + b : Nat) : Int) := by decide +kernel
  have := h a ha b hb
  rw [← this, Int.natCast_mul]; rfl

set_option maxHeartbeats 1000000 in
theorem hexChar_any (h l : UInt8) (w : World) (T : Tab w) :
    Calls Tryd.prog 88 #[.int .u8 (h.toNat : Int), .int .u8 (l.toNat : Int)] w fun e w' => e = .returned (pairOf (M.hexChar h.toNat l.toNat)) ∧ w = w' := by
  have ch := indexByte_any h w
  have cl := indexByte_any l w
  cases hh : M.unhexN h.toNat with
  | none =>
    have hfin : M.hexChar h.toNat l.toNat = none := by unfold M.hexChar; rw [hh]
    rw [show hexI h.toNat = _ from by unfold hexI; rw [hh]] at ch
    have H := Lib.hid hfin
    have CH := Lib.hid ch
    have CL := Lib.hid cl
    clear hfin ch cl hh
    go_enter Tryd.func88, Tryd.ntmps88
    go_wp2_with fail
    refine (CH.out).mono ?_
    rintro e w' ⟨rfl, rfl⟩
    go_wp2_with fail
    refine (CL.out).mono ?_
    rintro e w' ⟨rfl, rfl⟩
    go_wp2_with fail
    go_ret2
    exact ⟨by rw [H.out]; rfl, rfl⟩
  | some a =>
  cases hl : M.unhexN l.toNat with
  | none =>
    have hfin : M.hexChar h.toNat l.toNat = none := by unfold M.hexChar; rw [hh, hl]
    rw [show hexI h.toNat = _ from by unfold hexI; rw [hh]] at ch
    rw [show hexI l.toNat = _ from by unfold hexI; rw [hl]] at cl
    have H := Lib.hid hfin
    have CH := Lib.hid ch
    have CL := Lib.hid cl
    clear hfin ch cl hh hl
    go_enter Tryd.func88, Tryd.ntmps88
    go_wp2_with fail
    refine (CH.out).mono ?_
    rintro e w' ⟨rfl, rfl⟩
    go_wp2_with fail
    refine (CL.out).mono ?_
    rintro e w' ⟨rfl, rfl⟩
    go_wp2_with fail
    go_ret2
    exact ⟨by rw [H.out]; rfl, rfl⟩
  | some b =>
    have ha := (M.hex_inv h a hh).1
    have hb := (M.hex_inv l b hl).1
    rw [show hexI h.toNat = _ from by unfold hexI; rw [hh]] at ch
    rw [show hexI l.toNat = _ from by unfold hexI; rw [hl]] at cl
    obtain ⟨c, hc⟩ : ∃ c : Nat, c = a * 16 + b := ⟨_, rfl⟩
    have hfin : M.hexChar h.toNat l.toNat = if (M.letterN c).isSome || M.plainN c then none else some c := by unfold M.hexChar; rw [hh, hl, hc]
    have hor := or16 a b ha hb
    rw [← hc] at hor
    have cL := fun w => letterOf_any c w
    have cP := fun w => isPlain_any (c : Int) w
    have hP : plainB (c : Int) = M.plainN c := by
      unfold plainB M.plainN
      rw [Bool.eq_iff_iff]; simp; omega
    have H := Lib.hid hfin
    have CH := Lib.hid ch
    have CL := Lib.hid cl
    have HC := Lib.hid hc
    have HP := Lib.hid hP
    clear ch cl hfin hh hl hc hP
    cases hlc : M.letterN c with
    | some x =>
      have HX := Lib.hid hlc
      clear hlc
      go_enter Tryd.func88, Tryd.ntmps88
      go_wp2_with fail
      refine (CH.out).mono ?_
      rintro e w' ⟨rfl, rfl⟩
      go_wp2_with fail
      refine (CL.out).mono ?_
      rintro e w' ⟨rfl, rfl⟩
      go_wp2_with fail
      refine (letterOf_any c _ T).mono ?_
      rintro e w' ⟨rfl, rfl⟩
      simp only [HX.out, pairOf]
      go_wp2_with fail
      go_ret2
      exact ⟨by rw [H.out, HX.out]; rfl, rfl⟩
    | none =>
      have HX := Lib.hid hlc
      clear hlc
      cases hp : M.plainN c with
      | true =>
        have HQ := Lib.hid (HP.out.trans hp)
        have HQ2 := Lib.hid hp
        clear hp
        go_enter Tryd.func88, Tryd.ntmps88
        go_wp2_with fail
        refine (CH.out).mono ?_
        rintro e w' ⟨rfl, rfl⟩
        go_wp2_with fail
        refine (CL.out).mono ?_
        rintro e w' ⟨rfl, rfl⟩
        go_wp2_with fail
        refine (letterOf_any c _ T).mono ?_
        rintro e w' ⟨rfl, rfl⟩
        simp only [HX.out, pairOf]
        go_wp2_with fail
        refine (isPlain_any c _).mono ?_
        rintro e w' ⟨rfl, rfl⟩
        rw [HQ.out]
        go_wp2_with fail
        go_ret2
        exact ⟨by rw [H.out, HX.out, HQ2.out]; rfl, rfl⟩
      | false =>
        have HQ := Lib.hid (HP.out.trans hp)
        have HQ2 := Lib.hid hp
        clear hp
        go_enter Tryd.func88, Tryd.ntmps88
        go_wp2_with fail
        refine (CH.out).mono ?_
        rintro e w' ⟨rfl, rfl⟩
        go_wp2_with fail
        refine (CL.out).mono ?_
        rintro e w' ⟨rfl, rfl⟩
        go_wp2_with fail
        refine (letterOf_any c _ T).mono ?_
        rintro e w' ⟨rfl, rfl⟩
        simp only [HX.out, pairOf]
        go_wp2_with fail
        refine (isPlain_any c _).mono ?_
        rintro e w' ⟨rfl, rfl⟩
        rw [HQ.out]
        go_wp2_with fail
        go_ret2
        exact ⟨by rw [H.out, HX.out, HQ2.out]; rfl, rfl⟩
end Go.Proofs.YtdkaogcimecfiaaDoor
