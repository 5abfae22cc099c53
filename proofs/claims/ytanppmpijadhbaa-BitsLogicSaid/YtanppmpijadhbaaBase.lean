/- Maps of bits in memory: the block of a map, its cells, and what stores into it leave. Condition: the types have the numbers of this translation. -/
import Derived.Test.YtanppmpijadhbaaRows
import Derived.Test.YtanppmpijadhbaaMath
import Derived.WalkKit
import Derived.WalkSpells
import Derived.WalkLawsBesides
import Derived.Deep.QuietTactic
import Derived.BigQuiet
import Derived.Lib.Hide
import Derived.Lib.SmallJoins
import Derived.Handy
import Derived.Below
import Derived.Laws.Rows
import Derived.Laws.AppendOwn
import Derived.LaidEqlPtr
namespace Go.Proofs.Ytanppmpijadhbaa
open Go.RowKit

theorem ret_bool {a b : Bool} (h : a = b) : Ending.returned (.bool a) = .returned (.bool b) := by rw [h]
theorem ret_int {k : IntKind} {a b : Int} (h : a = b) : Ending.returned (.int k a) = .returned (.int k b) := by rw [h]

theorem infoMap : (Try.prog.info? 66).isSome = true := by kernel_rfl
theorem uMapP : Try.prog.underlying 26 = some (.pointer 66) := by kernel_rfl
theorem eq_self (w : World) (a : Addr) : (binOp .eql 26 (.pointer (some a)) (.pointer (some a))).run Try.prog w = .ok (.bool true) w := by
  obtain ⟨i, hi⟩ := Option.isSome_iff_exists.1 infoMap
  exact run_eql_ptr_same w a uMapP hi
theorem eq_nil_some (w : World) (a : Addr) : (binOp .eql 26 (.pointer none) (.pointer (some a))).run Try.prog w = .ok (.bool false) w := by
  have h : ∀ d : Nat, (Op.equalIn (d + 1) 26 (.pointer none) (.pointer (some a))).run Try.prog w = .ok false w := fun d => by
    simp [Op.equalIn, run_underlying uMapP]
  simp only [binOp]
  simp [Op.equal, Op.maxDepth, h 9999]
theorem ret_int2 {k : IntKind} {a b : Int} {v : Value} (h : a = b) : Ending.returned (.tuple #[.int k a, v]) = .returned (.tuple #[.int k b, v]) := by rw [h]
/-- A word of a map, and the cells of a map in block b. -/
def wcell (f : Nat → Bool) (k : Nat) : Value := .int .u64 ((Bm.word f k : Nat) : Int)
def wcells (f : Nat → Bool) : List Value := (List.range 64).map (wcell f)
theorem wcells_len (f : Nat → Bool) : (wcells f).length = 64 := by simp [wcells]
theorem wcells_get (f : Nat → Bool) (k : Nat) (h : k < 64) : (wcells f)[k]? = some (wcell f k) := by
  simp [wcells, h]
def mcells (b n : Nat) (f : Nat → Bool) : Array Value := (Value.pointer (some ⟨b, 0, none⟩) :: .int .i64 ((n : Nat) : Int) :: wcells f).toArray
structure MapAt (w : World) (b n : Nat) (f : Nat → Bool) : Prop where
  heap : w.heap[b]? = some (.cells (mcells b n f) 66 (0, 0))
  le : n ≤ 4096
  off : ∀ i, n ≤ i → f i = false
section
variable {w w' : World} {b n : Nat} {f : Nat → Bool}
theorem MapAt.lt (h : MapAt w b n f) : b < w.heap.size := (Array.getElem?_eq_some_iff.1 h.heap).1
theorem MapAt.self (h : MapAt w b n f) : w.cell? ⟨b, 0, none⟩ = some (.pointer (some ⟨b, 0, none⟩)) := by
  rw [cell_of_row w b 0 _ _ _ h.heap]; rfl
theorem MapAt.num (h : MapAt w b n f) : w.cell? ⟨b, 1, none⟩ = some (.int .i64 ((n : Nat) : Int)) := by
  rw [cell_of_row w b 1 _ _ _ h.heap]; rfl
theorem mcells_word (b n : Nat) (f : Nat → Bool) (k : Nat) (h : k < 64) : (mcells b n f)[2 + k]? = some (wcell f k) := by
  unfold mcells
  rw [List.getElem?_toArray, show 2 + k = k + 1 + 1 by omega, List.getElem?_cons_succ, List.getElem?_cons_succ, wcells_get f k h]
theorem MapAt.word (h : MapAt w b n f) (k : Nat) (hk : k < 64) : w.cell? ⟨b, 2 + k, none⟩ = some (.int .u64 ((Bm.word f k : Nat) : Int)) := by
  rw [cell_of_row w b _ _ _ _ h.heap, mcells_word b n f k hk]; rfl
theorem MapAt.free (h : MapAt w b n f) (o : Nat) : w.frozen? ⟨b, o, none⟩ = false := frozen_of_row w b o _ _ h.heap
theorem MapAt.of_block (h : MapAt w b n f) (he : w'.heap[b]? = w.heap[b]?) : MapAt w' b n f := ⟨he.trans h.heap, h.le, h.off⟩
theorem MapAt.drewN (h : MapAt w b n f) (k : Nat) : MapAt (w.drewN k) b n f := h.of_block rfl
theorem MapAt.grown {r : Option Nat} (h : MapAt w b n f) (hg : w.grownBy w' r) (hr : some b ≠ r) : MapAt w' b n f := h.of_block (hg.block b h.lt hr)
theorem MapAt.below {B : Nat} (h : MapAt w b n f) (hb : Below B w w') (hB : b < B) : MapAt w' b n f := h.of_block (hb.block b hB)
theorem mcells_set (b n : Nat) (f g : Nat → Bool) (k : Nat) (h : k < 64) (hw : ∀ j, j ≠ k → Bm.word g j = Bm.word f j) : (mcells b n f).setIfInBounds (2 + k) (wcell g k) = mcells b n g := by
  apply Array.ext'
  unfold mcells
  rw [Array.toList_setIfInBounds]
  apply List.ext_getElem?
  intro i
  rw [List.getElem?_set]
  rcases i with _ | _ | i
  · rw [if_neg (by omega)]; simp only [List.getElem?_cons_zero]
  · rw [if_neg (by omega)]; simp only [List.getElem?_cons_zero, List.getElem?_cons_succ]
  · simp only [List.length_cons, wcells_len, List.getElem?_cons_succ]
    by_cases e : 2 + k = i + 1 + 1
    · obtain rfl : k = i := by omega
      rw [if_pos e, if_pos (by omega), wcells_get g k h]
    · rw [if_neg e]
      by_cases hi : i < 64
      · rw [wcells_get f i hi, wcells_get g i hi]
        unfold wcell; rw [hw i (by omega)]
      · rw [List.getElem?_eq_none (by rw [wcells_len]; omega), List.getElem?_eq_none (by rw [wcells_len]; omega)]
theorem MapAt.store (h : MapAt w b n f) (g : Nat → Bool) (k : Nat) (hk : k < 64) (hw : ∀ j, j ≠ k → Bm.word g j = Bm.word f j) (ho : ∀ i, n ≤ i → g i = false) :
    MapAt (w.setCell ⟨b, 2 + k, none⟩ (.int .u64 ((Bm.word g k : Nat) : Int))) b n g := by
  refine ⟨?_, h.le, ho⟩
  rw [heap_setCell_same w b (2 + k) _ _ _ h.heap]
  have := mcells_set b n f g k hk hw
  unfold wcell at this
  rw [this]
theorem grown_setCell (w : World) (b o : Nat) (v : Value) : w.grownBy (w.setCell ⟨b, o, none⟩ v) (some b) :=
  ⟨rfl, rfl, rfl, by simp [World.setCell], fun k _ hk => Below.heap_setCell _ _ _ _ (fun e => hk (by rw [e]))⟩
theorem grown_refl (w : World) (r : Option Nat) : w.grownBy w r := ⟨rfl, rfl, rfl, Nat.le_refl _, fun _ _ _ => rfl⟩
theorem grown_trans {a c : World} {r : Option Nat} (h : w.grownBy a r) (k : a.grownBy c r) : w.grownBy c r :=
  ⟨k.os.trans h.os, k.tape.trans h.tape, k.output.trans h.output, Nat.le_trans h.size k.size, fun i hi hr => (k.block i (Nat.lt_of_lt_of_le hi h.size) hr).trans (h.block i hi hr)⟩
theorem grown_below (h : Below w.heap.size w w') (r : Option Nat) : w.grownBy w' r := ⟨h.os, h.tape, h.output, h.size, fun k hk _ => h.block k hk⟩
theorem grown_drewN {a : World} {r : Option Nat} (h : w.grownBy a r) (k : Nat) : w.grownBy (a.drewN k) r := ⟨h.os, h.tape, h.output, h.size, h.block⟩
theorem below_drewN {B : Nat} {a w : World} (h : Below B a w) (n : Nat) : Below B a (w.drewN n) := ⟨h.os, h.tape, h.output, h.size, h.block⟩
theorem below_grown {B : Nat} {a : World} (h : Below B a w) (hg : w.grownBy w' (some b)) (hB : B ≤ w.heap.size) (hb : B ≤ b) : Below B a w' :=
  h.grown hg hB (fun k hk => by cases hk; exact hb)
end
/-- A slice value that holds a list, in blocks below lim. -/
def SL {α : Type} (enc : α → Value) (w : World) (lim : Nat) (v : Value) (l : List α) : Prop :=
  (l = [] ∧ ∃ A c, v = .slice A 0 c) ∨
  ∃ b off c, v = .slice (some ⟨b, off, none⟩) l.length c ∧ b < lim ∧ ∀ i (h : i < l.length), w.cell? ⟨b, off + i, none⟩ = some (enc l[i])
theorem SL.below {α : Type} {enc : α → Value} {w w' : World} {lim : Nat} {v : Value} {l : List α} (h : SL enc w lim v l) {B : Nat} (hb : Below B w w') (hB : lim ≤ B) : SL enc w' lim v l := by
  rcases h with h | ⟨b, off, c, rfl, hl, hc⟩
  · exact .inl h
  · exact .inr ⟨b, off, c, rfl, hl, fun i hi => (hb.cell (p := ⟨b, _, none⟩) (show b < B by omega)).trans (hc i hi)⟩
theorem SL.mono {α : Type} {enc : α → Value} {w : World} {lim lim' : Nat} {v : Value} {l : List α} (h : SL enc w lim v l) (hl : lim ≤ lim') : SL enc w lim' v l := by
  rcases h with h | ⟨b, off, c, rfl, hb, hc⟩
  · exact .inl h
  · exact .inr ⟨b, off, c, rfl, by omega, hc⟩
theorem SL.form {α : Type} {enc : α → Value} {w : World} {lim : Nat} {v : Value} {l : List α} (h : SL enc w lim v l) : ∃ A c, v = .slice A l.length c := by
  rcases h with ⟨rfl, A, c, rfl⟩ | ⟨b, off, c, rfl, _⟩
  · exact ⟨A, c, rfl⟩
  · exact ⟨_, c, rfl⟩
theorem SL.at {α : Type} {enc : α → Value} {w : World} {lim : Nat} {A : Option Addr} {c n : Nat} {l : List α} (h : SL enc w lim (.slice A n c) l) (hne : 0 < l.length) :
    ∃ b off, A = some ⟨b, off, none⟩ ∧ b < lim ∧ ∀ i (h : i < l.length), w.cell? ⟨b, off + i, none⟩ = some (enc l[i]) := by
  rcases h with ⟨rfl, _⟩ | ⟨b, off, c', e, hb, hc⟩
  · simp at hne
  · injection e with e1 _ _; exact ⟨b, off, e1, hb, hc⟩
def encB (c : UInt8) : Value := .int .u8 (c.toNat : Int)
def encT (t : Bool) : Value := .bool t
theorem SL.of_own {α : Type} {enc : α → Value} {w : World} {base E n : Nat} {v : Value} {l : List α} (hn : n = l.length) (h : w.ownsRow base E 1 v n (l.map enc)) : SL enc w w.heap.size v l := by
  subst hn
  rcases Go.Joins.ownsRow_forms h with ⟨rfl, h0⟩ | ⟨g, cap, rfl⟩
  · exact .inl ⟨List.eq_nil_of_length_eq_zero h0, none, 0, rfl⟩
  · refine .inr ⟨g, 0, cap, rfl, (h.lt g rfl).2, fun i hi => ?_⟩
    rw [Nat.zero_add, h.cellAt i (by omega)]; simp [hi]
end Go.Proofs.Ytanppmpijadhbaa
