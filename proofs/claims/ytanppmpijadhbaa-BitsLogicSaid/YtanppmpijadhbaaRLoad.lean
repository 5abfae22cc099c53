/- The contracts of the reference's New and Load. Condition: the bytes lie as said. -/
import Derived.Test.YtanppmpijadhbaaMade
import Derived.Test.YtanppmpijadhbaaSpec
import Derived.Outline
namespace Go.Proofs.Ytanppmpijadhbaa
open Go.RowKit

theorem rnew_bad (w : World) (n : Int) (h : n < 0 ∨ 4096 < n) :
    Calls Try.prog 16 #[.int .i64 n] w fun e w' => e = .returned (.tuple #[.slice none 0 0, .int .i64 7]) ∧ w = w' := by
  rcases h with h | h
  · go_enter Try.func16, Try.ntmps16
    go_wp2_with fail
    go_ret2
    exact ⟨rfl, rfl⟩
  · have h1 : (0 : Int) ≤ n := by omega
    go_enter Try.func16, Try.ntmps16
    go_wp2_with fail
    go_ret2
    exact ⟨rfl, rfl⟩
/-- A slice of n bools of the call's own, which holds l. -/
def OwnT (w : World) (base g n : Nat) (F : Nat → Bool) : Prop := w.ownsRow base 4 1 (.slice (some ⟨g, 0, none⟩) n n) n ((List.range n).map (boolV F))
theorem boolV_rep (n : Nat) : List.replicate n (Value.bool false) = (List.range n).map (boolV fun _ => false) := by
  symm
  rw [List.eq_replicate_iff]
  refine ⟨by simp, fun v hv => ?_⟩
  obtain ⟨i, _, rfl⟩ := List.mem_map.1 hv
  rfl
theorem OwnT.set {w : World} {base g n i : Nat} {F : Nat → Bool} (h : OwnT w base g n F) (v : Bool) : OwnT (w.setCell ⟨g, i, none⟩ (.bool v)) base g n (Bm.upd F i v) := by
  have := (World.ownsRow.stored h i (.bool v)).1
  unfold OwnT
  have e : ((List.range n).map (boolV F)).set i (.bool v) = (List.range n).map (boolV (Bm.upd F i v)) := by
    apply List.ext_getElem (by simp)
    intro j h1 h2
    rw [List.getElem_set]
    simp only [List.getElem_map, List.getElem_range]
    unfold boolV Bm.upd
    by_cases e : i = j
    · rw [if_pos e, if_pos e.symm]
    · rw [if_neg e, if_neg (fun x => e x.symm)]
  rw [← e]; exact this
theorem OwnT.sl {w : World} {base g n : Nat} {F : Nat → Bool} (h : OwnT w base g n F) : SL encT w w.heap.size (.slice (some ⟨g, 0, none⟩) n n) ((List.range n).map F) :=
  SL.of_own (n := n) (by simp) (by unfold OwnT at h; rw [List.map_map]; exact h)
theorem OwnT.congr {w : World} {base g n : Nat} {F G : Nat → Bool} (h : OwnT w base g n F) (e : ∀ i, i < n → F i = G i) : OwnT w base g n G := by
  unfold OwnT at *
  have : (List.range n).map (boolV F) = (List.range n).map (boolV G) := by
    apply List.map_congr_left
    intro i hi
    unfold boolV; rw [e i (List.mem_range.1 hi)]
  rw [← this]; exact h
theorem OwnT.cell {w : World} {base g n i : Nat} {F : Nat → Bool} (h : OwnT w base g n F) (hi : i < n) : w.cell? ⟨g, i, none⟩ = some (.bool (F i)) := by
  rw [World.ownsRow.cellAt h i (by omega)]; simp [hi, boolV]
theorem OwnT.free {w : World} {base g n : Nat} {F : Nat → Bool} (h : OwnT w base g n F) (i : Nat) : w.frozen? ⟨g, i, none⟩ = false := World.ownsRow.frozenAt h i
theorem OwnT.kept {w w' : World} {base g n : Nat} {F : Nat → Bool} {r : Option Nat} (h : OwnT w base g n F) (hg : w.grownBy w' r) (hr : some g ≠ r) : OwnT w' base g n F := World.ownsRow.kept h hg (.inr (by simpa [Value.ownBlock] using hr))
set_option maxRecDepth 100000 in
theorem rnew_ok (w : World) (n : Nat) (hn : n ≤ 4096) :
    Calls Try.prog 16 #[.int .i64 (n : Int)] w fun e w' => e = .returned (.tuple #[.slice (some ⟨w.heap.size, 0, none⟩) n n, .int .i64 0]) ∧ OwnT w' w.heap.size w.heap.size n (fun _ => false) ∧ Below w.heap.size w w' := by
  obtain ⟨i0, hi, hz0, hz1, hz2⟩ := info_parts info_bool
  have h1 : (0 : Int) ≤ (n : Int) := by omega
  go_enter Try.func16, Try.ntmps16
  go_wp2_with (at_make; refine wpList_make_full _ rfl _ _ 27 rfl w.heap.size 4 i0 (.bool false) 1 Try.underlying27 hi hz0 hz1 _ _ _ _ n rfl rfl rfl rfl ?c1 ?c2 ?c3 ?_)
  case c1 => rw [hz2]; omega
  case c2 => unfold maxLen; omega
  case c3 => omega
  intro w1 hown hgrow
  rw [made_bool, boolV_rep] at hown
  have HO : Hid (OwnT w1 w.heap.size w.heap.size n (fun _ => false)) := hown
  have HB : Hid (Below w.heap.size w w1) := (Below.refl _ _).grown hgrow (Nat.le_refl _) (by simp)
  clear hown hgrow
  go_wp2_with fail
  go_ret2
  exact ⟨rfl, HO.out, HB.out⟩
theorem rload_range (w : World) (n : Int) (v : Value) (y : List UInt8) (hv : SL encB w w.heap.size v y) (h : n < 0 ∨ 4096 < n) :
    Calls Try.prog 18 #[.int .i64 n, v] w fun e w' => e = .returned (.tuple #[.slice none 0 0, .int .i64 7]) ∧ w = w' := by
  obtain ⟨A, c, rfl⟩ := hv.form
  have HN := Lib.hid (rnew_bad w n h)
  clear h hv
  go_enter Try.func18, Try.ntmps18
  go_wp2_with fail
  refine HN.out.mono ?_
  rintro e w' ⟨rfl, rfl⟩
  go_wp2_with fail
  go_ret2
  exact ⟨rfl, rfl⟩
theorem rload_len (w : World) (n : Nat) (v : Value) (y : List UInt8) (hv : SL encB w w.heap.size v y) (hn : n ≤ 4096) (hl : y.length ≠ (n + 7) / 8) :
    Calls Try.prog 18 #[.int .i64 (n : Int), v] w fun e w' => e = .returned (.tuple #[.slice none 0 0, .int .i64 6]) ∧ Below w.heap.size w w' := by
  obtain ⟨A, c, rfl⟩ := hv.form
  have HN := Lib.hid (rnew_ok w n hn)
  have h1 : ((y.length : Int) != ((n : Int) + 7) / 8) = true := by rw [bne_iff_ne]; omega
  clear hv hl
  go_enter Try.func18, Try.ntmps18
  go_wp2_with fail
  refine HN.out.mono ?_
  rintro e w' ⟨rfl, ho, hb⟩
  have HB := Lib.hid hb
  clear ho hb
  go_wp2_with fail
  go_ret2
  exact ⟨rfl, HB.out⟩
theorem bitsY_val (y : List UInt8) (k : Nat) (h : k / 8 < y.length) : ((((y[k / 8].toNat : Nat) : Int) / 2 ^ (k % 8)).tmod 2 == 1) = Bm.bitsY y k := by
  have e : y.getD (k / 8) 0 = y[k / 8] := by rw [List.getD_eq_getElem?_getD, List.getElem?_eq_getElem h]; rfl
  unfold Bm.bitsY
  rw [e, Nat.testBit_eq_decide_div_mod_eq, pow_cast, ← Int.natCast_ediv, Int.tmod_eq_emod_of_nonneg (Int.natCast_nonneg _)]
  rw [Bool.eq_iff_iff, beq_iff_eq, decide_eq_true_eq]
  omega
theorem upd_cut {F : Nat → Bool} {k : Nat} : ∀ i, Bm.upd (Bm.cut F k) k (F k) i = Bm.cut F (k + 1) i := by
  intro j
  unfold Bm.upd Bm.cut
  by_cases e1 : j = k
  · rw [if_pos e1, e1, decide_eq_true (p := k < k + 1) (by omega)]; rfl
  · rw [if_neg e1]
    by_cases h2 : j < k
    · rw [decide_eq_true h2, decide_eq_true (p := j < k + 1) (by omega)]
    · rw [decide_eq_false h2, decide_eq_false (p := j < k + 1) (by omega)]
end Go.Proofs.Ytanppmpijadhbaa
