/- The contract of shown, the calls that each statement makes beside its own: it returns true. Condition: the package-level variables hold what the program's text lays. -/
import Derived.Test.YtdkaogcimecfiaaDoorList
namespace Go.Proofs.YtdkaogcimecfiaaDoor
open Go.RowKit

def l1 : List UInt8 := [103, 101, 116, 32, 47, 32, 34, 97, 32, 98, 34]
def fs1 : List (List UInt8 × Bool) := [([103, 101, 116], false), ([47], false), ([97, 32, 98], true)]
theorem split1 : splitR l1 = (fs1, 0) := by decide +kernel
theorem int1 : intR [45, 49, 50] (-20) 20 = (-12, 0) := by decide +kernel
theorem unq1 : unqV [34, 97, 92, 110, 92, 120, 48, 48, 92, 34, 34] = .tuple #[.string ⟨#[97, 10, 0, 34]⟩, .int .i64 0] := by
  have h : quotedAt [34, 97, 92, 110, 92, 120, 48, 48, 92, 34, 34] 0 = some ([97, 10, 0, 34], 11) := by decide +kernel
  unfold unqV; rw [h]; rfl
theorem name1 : nameB [119, 101, 98, 45, 49] = true := by decide +kernel
theorem itoa_small (n : Nat) (h : n < 10) : Lib.itoa (n : Int) = [UInt8.ofNat (48 + n)] := by
  unfold Lib.itoa; rw [if_neg (by omega)]
  rw [Int.toNat_natCast, Lib.decDigits, dif_pos h]
theorem listE1 : listE [1, 2, 3, 5, 8, 9] = 0 := by decide +kernel
theorem runs1 : runs [1, 2, 3, 5, 8, 9] 0 = [runText [1, 2, 3, 5, 8, 9] 0 2, runText [1, 2, 3, 5, 8, 9] 3 3, runText [1, 2, 3, 5, 8, 9] 4 5] := by
  have e0 : runEnd [1, 2, 3, 5, 8, 9] 0 = 2 := by decide +kernel
  have e3 : runEnd [1, 2, 3, 5, 8, 9] 3 = 3 := by decide +kernel
  have e4 : runEnd [1, 2, 3, 5, 8, 9] 4 = 5 := by decide +kernel
  rw [runs_next _ 0 (by decide), e0, runs_next _ (2 + 1) (by decide), e3, runs_next _ (3 + 1) (by decide), e4, runs_end _ (5 + 1) (by decide)]
theorem list1 : listR [1, 2, 3, 5, 8, 9] = ([49, 45, 51, 44, 53, 44, 56, 45, 57], 0) := by
  unfold listR
  rw [if_neg (by rw [listE1]; simp), if_neg (by decide), runs1]
  have d1 := itoa_small 1 (by omega)
  have d3 := itoa_small 3 (by omega)
  have d5 := itoa_small 5 (by omega)
  have d8 := itoa_small 8 (by omega)
  have d9 := itoa_small 9 (by omega)
  simp only [runText, List.getD_cons_zero, List.getD_cons_succ]
  simp only [show (1 : Int) = ((1 : Nat) : Int) from rfl, show (3 : Int) = ((3 : Nat) : Int) from rfl, show (5 : Int) = ((5 : Nat) : Int) from rfl, show (8 : Int) = ((8 : Nat) : Int) from rfl, show (9 : Int) = ((9 : Nat) : Int) from rfl, d1, d3, d5, d8, d9]
  decide +kernel

set_option maxRecDepth 100000 in
set_option maxHeartbeats 4000000 in
theorem shown_any (w : World) (E : Env w) :
    Calls Tryd.prog 11 #[] w fun e w' => e = .returned (.bool true) ∧ Below w.heap.size w w' := by
  have hEs := E.size
  have TE : Hid (∀ W, Below w.heap.size w W → Env W) := fun W hb => E.below hb hEs
  go_enter Tryd.func11, Tryd.ntmps11
  go_wp2_with fail
  refine (callsIn_wide.1 (split_in ⟨#[103, 101, 116, 32, 47, 32, 34, 97, 32, 98, 34]⟩ w (by decide) E.tab hEs)).mono ?_
  rw [show splitR (bs ⟨#[103, 101, 116, 32, 47, 32, 34, 97, 32, 98, 34]⟩) = (fs1, 0) from split1]
  rintro e w1 ⟨v1, rfl, ho1, hb1⟩
  have HO1 := Lib.hid ho1
  clear ho1
  go_wp2_with fail
  refine (int_any ⟨#[45, 49, 50]⟩ (-20) 20 _ (by decide) (TE.out _ hb1)).mono ?_
  rw [show intR (bs ⟨#[45, 49, 50]⟩) (-20) 20 = (-12, 0) from int1]
  rintro e w2 ⟨rfl, hb2⟩
  simp only [intV]
  go_wp2_with fail
  have hb12 : Below w.heap.size w w2 := hb1.trans (hb2.mono hb1.size)
  obtain ⟨W3, hW3⟩ : ∃ W3, W3 = w2.alloc (Obj.cells #[Value.int IntKind.i64 1, Value.int IntKind.i64 2, Value.int IntKind.i64 3, Value.int IntKind.i64 5, Value.int IntKind.i64 8, Value.int IntKind.i64 9] 3) := ⟨_, rfl⟩
  have hh : W3.heap[w2.heap.size]? = some (.cells #[Value.int IntKind.i64 1, Value.int IntKind.i64 2, Value.int IntKind.i64 3, Value.int IntKind.i64 5, Value.int IntKind.i64 8, Value.int IntKind.i64 9] 3 (0, 0)) := by rw [hW3]; exact World.alloc_heap_new w2 _
  have hs3 : W3.heap.size = w2.heap.size + 1 := by rw [hW3]; simp
  have hb3 : Below w.heap.size w W3 := by rw [hW3]; exact hb12.alloc hb12.size _
  have hb13 : Below w1.heap.size w1 W3 := by rw [hW3]; exact hb2.alloc hb2.size _
  have hIS : IS W3 W3.heap.size (.slice (some ⟨w2.heap.size, 0, none⟩) 6 6) [1, 2, 3, 5, 8, 9] := .inr ⟨w2.heap.size, 0, 6, rfl, by omega, fun i hi => by
    rw [Nat.zero_add]
    simp only [World.cell?, hh]
    match i, hi with
    | 0, _ => rfl
    | 1, _ => rfl
    | 2, _ => rfl
    | 3, _ => rfl
    | 4, _ => rfl
    | 5, _ => rfl⟩
  rw [← hW3]
  have HL := Lib.hid (list_any W3 _ [1, 2, 3, 5, 8, 9] hIS (by decide) (TE.out _ hb3))
  rw [list1] at HL
  clear hW3 hh hs3 hIS
  refine (HL.out).mono ?_
  rintro e w4 ⟨rfl, hb4⟩
  have hb4' : Below w.heap.size w w4 := hb3.trans (hb4.mono hb3.size)
  have hb14 : Below w1.heap.size w1 w4 := hb13.trans (hb4.mono hb13.size)
  go_wp2_with fail
  refine (unquote_any ⟨#[34, 97, 92, 110, 92, 120, 48, 48, 92, 34, 34]⟩ _ (by decide) (TE.out _ hb4').tab (TE.out _ hb4').size).mono ?_
  rw [show unqV (bs ⟨#[34, 97, 92, 110, 92, 120, 48, 48, 92, 34, 34]⟩) = _ from unq1]
  rintro e w5 ⟨rfl, hb5⟩
  have hb5' : Below w.heap.size w w5 := hb4'.trans (hb5.mono hb4'.size)
  have hb15 : Below w1.heap.size w1 w5 := hb14.trans (hb5.mono hb14.size)
  go_wp2_with fail
  obtain ⟨W6, hW6⟩ : ∃ W6, W6 = w5.alloc (Obj.cells #[Value.string ⟨#[103, 101, 116]⟩, Value.bool false, Value.string ⟨#[47]⟩, Value.bool false, Value.string ⟨#[97, 32, 98]⟩, Value.bool true] 49) := ⟨_, rfl⟩
  have hh : W6.heap[w5.heap.size]? = some (.cells #[Value.string ⟨#[103, 101, 116]⟩, Value.bool false, Value.string ⟨#[47]⟩, Value.bool false, Value.string ⟨#[97, 32, 98]⟩, Value.bool true] 49 (0, 0)) := by rw [hW6]; exact World.alloc_heap_new w5 _
  have hs6 : W6.heap.size = w5.heap.size + 1 := by rw [hW6]; simp
  have hb6 : Below w.heap.size w W6 := by rw [hW6]; exact hb5'.alloc hb5'.size _
  have hb16 : Below w1.heap.size w1 W6 := by rw [hW6]; exact hb15.alloc hb15.size _
  have hF1 : FlS W6 W6.heap.size v1 fs1 := by
    have h := (FlS.of_own rfl HO1.out).below hb16 (Nat.le_refl _)
    rcases h with h | ⟨b, off, c, rfl, hl, hc⟩
    · exact .inl h
    · exact .inr ⟨b, off, c, rfl, Nat.lt_of_lt_of_le hl hb16.size, hc⟩
  have hF2 : FlS W6 W6.heap.size (.slice (some ⟨w5.heap.size, 0, none⟩) 3 3) fs1 := .inr ⟨w5.heap.size, 0, 3, rfl, by omega, fun i hi => by
    simp only [World.cell?, hh, Nat.zero_add]
    match i, hi with
    | 0, _ => exact ⟨rfl, rfl⟩
    | 1, _ => exact ⟨rfl, rfl⟩
    | 2, _ => exact ⟨rfl, rfl⟩⟩
  rw [← hW6]
  have HS := Lib.hid (same_any W6 _ _ fs1 fs1 hF1 hF2 (by decide) (by decide))
  rw [decide_eq_true rfl] at HS
  clear hW6 hh hs6 hF1 hF2
  refine (HS.out).mono ?_
  rintro e w7 ⟨rfl, hb7⟩
  have hb7' : Below w.heap.size w w7 := hb6.trans (hb7.mono hb6.size)
  go_wp2_with fail
  refine (name_any ⟨#[119, 101, 98, 45, 49]⟩ _ (by decide)).mono ?_
  rw [show nameB (bs ⟨#[119, 101, 98, 45, 49]⟩) = true from name1]
  rintro e w8 ⟨rfl, rfl⟩
  go_wp2_with fail
  go_ret
  exact ⟨rfl, hb7'⟩
end Go.Proofs.YtdkaogcimecfiaaDoor
