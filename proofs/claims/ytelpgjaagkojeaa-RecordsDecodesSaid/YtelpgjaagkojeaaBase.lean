/- Blocks and slices in memory. Condition: the types have the numbers of this translation. -/
import Derived.Test.YtelpgjaagkojeaaRows
import Derived.Test.YtelpgjaagkojeaaRm
import Derived.WalkKit
import Derived.WalkSpells
import Derived.WalkLawsBesides
import Derived.RegionTactic
import Derived.ChangeAlike
import Derived.BigRegion
import Derived.Deep.QuietTactic
import Derived.BigQuiet
import Derived.Lib.Hide
import Derived.Lib.SmallJoins
import Derived.Handy
import Derived.Below
import Derived.Laws.Rows
import Derived.Laws.AppendOwn
import Derived.OwnWalk
import Derived.Laws.OwnMore
import Derived.Lib.Strings
import Derived.Laws.BitsAllLaws
namespace Go.Proofs.Ytelpgjaagkojeaa
open Go.RowKit

theorem ret_bool {a b : Bool} (h : a = b) : Ending.returned (.bool a) = .returned (.bool b) := by rw [h]
theorem ret_int {k : IntKind} {a b : Int} (h : a = b) : Ending.returned (.int k a) = .returned (.int k b) := by rw [h]
theorem ret_nat {k : IntKind} {a b : Nat} (h : a = b) : Ending.returned (.int k (a : Int)) = .returned (.int k (b : Int)) := by rw [h]
theorem ret_int2 {k : IntKind} {a b : Int} {v : Value} (h : a = b) : Ending.returned (.tuple #[.int k a, v]) = .returned (.tuple #[.int k b, v]) := by rw [h]
section
variable {w w' : World}
/-- A block known whole. -/
def Blk (w : World) (b : Nat) (cs : Array Value) (t : TypeId) : Prop := w.heap[b]? = some (.cells cs t (0, 0))
variable {b : Nat} {cs : Array Value} {t : TypeId}
theorem Blk.lt (h : Blk w b cs t) : b < w.heap.size := (Array.getElem?_eq_some_iff.1 h).1
theorem Blk.cell (h : Blk w b cs t) (o : Nat) {v : Value} (hv : cs[o]? = some v) : w.cell? ⟨b, o, none⟩ = some v := by
  rw [cell_of_row w b o _ _ _ h, hv]
theorem Blk.free (h : Blk w b cs t) (o : Nat) : w.frozen? ⟨b, o, none⟩ = false := frozen_of_row w b o _ _ h
theorem Blk.of_block (h : Blk w b cs t) (he : w'.heap[b]? = w.heap[b]?) : Blk w' b cs t := he.trans h
theorem Blk.drewN (h : Blk w b cs t) (k : Nat) : Blk (w.drewN k) b cs t := h
theorem Blk.grown {r : Option Nat} (h : Blk w b cs t) (hg : w.grownBy w' r) (hr : some b ≠ r) : Blk w' b cs t := h.of_block (hg.block b h.lt hr)
theorem Blk.below {B : Nat} (h : Blk w b cs t) (hb : Below B w w') (hB : b < B) : Blk w' b cs t := h.of_block (hb.block b hB)
theorem Blk.set (h : Blk w b cs t) (o : Nat) (v : Value) : Blk (w.setCell ⟨b, o, none⟩ v) b (cs.setIfInBounds o v) t := heap_setCell_same w b o _ _ _ h
theorem Blk.new (w : World) (cs : Array Value) (t : TypeId) : Blk (w.alloc (.cells cs t)) w.heap.size cs t := heap_alloc_new w _
theorem grown_setCell (w : World) (b o : Nat) (v : Value) : w.grownBy (w.setCell ⟨b, o, none⟩ v) (some b) :=
  ⟨rfl, rfl, rfl, by simp [World.setCell], fun k _ hk => Below.heap_setCell _ _ _ _ (fun e => hk (by rw [e]))⟩
theorem grown_refl (w : World) (r : Option Nat) : w.grownBy w r := ⟨rfl, rfl, rfl, Nat.le_refl _, fun _ _ _ => rfl⟩
theorem grown_trans {a c : World} {r : Option Nat} (h : w.grownBy a r) (k : a.grownBy c r) : w.grownBy c r :=
  ⟨k.os.trans h.os, k.tape.trans h.tape, k.output.trans h.output, Nat.le_trans h.size k.size, fun i hi hr => (k.block i (Nat.lt_of_lt_of_le hi h.size) hr).trans (h.block i hi hr)⟩
theorem grown_below (h : Below w.heap.size w w') (r : Option Nat) : w.grownBy w' r := ⟨h.os, h.tape, h.output, h.size, fun k hk _ => h.block k hk⟩
theorem grown_drewN {a : World} {r : Option Nat} (h : w.grownBy a r) (k : Nat) : w.grownBy (a.drewN k) r := ⟨h.os, h.tape, h.output, h.size, h.block⟩
theorem grown_set {a : World} {b : Nat} (h : w.grownBy a (some b)) (o : Nat) (v : Value) : w.grownBy (a.setCell ⟨b, o, none⟩ v) (some b) := grown_trans h (grown_setCell _ _ _ _)
theorem below_drewN {B : Nat} {a w : World} (h : Below B a w) (n : Nat) : Below B a (w.drewN n) := ⟨h.os, h.tape, h.output, h.size, h.block⟩
theorem below_grown {B : Nat} {a : World} (h : Below B a w) (hg : w.grownBy w' (some b)) (hB : B ≤ w.heap.size) (hb : B ≤ b) : Below B a w' :=
  h.grown hg hB (fun k hk => by cases hk; exact hb)
theorem of_grown (hg : w.grownBy w' (some b)) (hb : b ≤ w.heap.size) : Below b w w' := (Below.refl b w).grown hg hb (fun k hk => by cases hk; exact Nat.le_refl _)
theorem set_set (cs : Array Value) (o : Nat) (u v : Value) : (cs.setIfInBounds o u).setIfInBounds o v = cs.setIfInBounds o v := by simp
theorem set_get (cs : Array Value) (o : Nat) (v : Value) (h : o < cs.size) : (cs.setIfInBounds o v)[o]? = some v := by simp [h]
theorem set_other (cs : Array Value) (o p : Nat) (v : Value) (h : o ≠ p) : (cs.setIfInBounds o v)[p]? = cs[p]? := by simp [h]
end
/-- A slice value that holds a list, in blocks below lim. -/
def SL {α : Type} (enc : α → Value) (w : World) (lim : Nat) (v : Value) (l : List α) : Prop :=
  (l = [] ∧ (v = .slice none 0 0 ∨ ∃ ad c, v = .slice (some ad) 0 c)) ∨
  ∃ b off c, v = .slice (some ⟨b, off, none⟩) l.length c ∧ b < lim ∧ l.length ≤ c ∧ ∀ i (h : i < l.length), w.cell? ⟨b, off + i, none⟩ = some (enc l[i])
section
variable {α : Type} {enc : α → Value} {w w' : World} {lim : Nat} {v : Value} {l : List α}
theorem SL.below (h : SL enc w lim v l) {B : Nat} (hb : Below B w w') (hB : lim ≤ B) : SL enc w' lim v l := by
  rcases h with h | ⟨b, off, c, rfl, hl, hcap, hc⟩
  · exact .inl h
  · exact .inr ⟨b, off, c, rfl, hl, hcap, fun i hi => (hb.cell (p := ⟨b, _, none⟩) (show b < B by omega)).trans (hc i hi)⟩
theorem SL.mono {lim' : Nat} (h : SL enc w lim v l) (hl : lim ≤ lim') : SL enc w lim' v l := by
  rcases h with h | ⟨b, off, c, rfl, hb, hcap, hc⟩
  · exact .inl h
  · exact .inr ⟨b, off, c, rfl, by omega, hcap, hc⟩
theorem SL.next (h : SL enc w w.heap.size v l) (hb : Below w.heap.size w w') : SL enc w' w'.heap.size v l := (h.below hb (Nat.le_refl _)).mono hb.size
theorem SL.drewN (h : SL enc w lim v l) (m : Nat) : SL enc (w.drewN m) lim v l := h
theorem SL.form (h : SL enc w lim v l) : ∃ A c, v = .slice A l.length c := by
  rcases h with ⟨rfl, rfl | ⟨ad, c, rfl⟩⟩ | ⟨b, off, c, rfl, _⟩
  · exact ⟨none, 0, rfl⟩
  · exact ⟨_, c, rfl⟩
  · exact ⟨_, c, rfl⟩
theorem SL.at {A : Option Addr} {c n : Nat} (h : SL enc w lim (.slice A n c) l) (hne : 0 < l.length) :
    ∃ b off, A = some ⟨b, off, none⟩ ∧ b < lim ∧ ∀ i (h : i < l.length), w.cell? ⟨b, off + i, none⟩ = some (enc l[i]) := by
  rcases h with ⟨rfl, _⟩ | ⟨b, off, c', e, hb, _, hc⟩
  · simp at hne
  · injection e with e1 _ _; exact ⟨b, off, e1, hb, hc⟩
theorem SL.cap {A : Option Addr} {c n : Nat} (h : SL enc w lim (.slice A n c) l) : l.length ≤ c := by
  rcases h with ⟨rfl, _⟩ | ⟨b, off, c', e, hb, hk, hc⟩
  · simp
  · injection e with _ _ e3; subst e3; exact hk
theorem SL.of_own {base E n : Nat} (hn : n = l.length) (h : w.ownsRow base E 1 v n (l.map enc)) : SL enc w w.heap.size v l := by
  subst hn
  rcases h.2 with ⟨rfl, h0⟩ | ⟨g, cap, cur, hv, hb, hg, hcap, hm, hs, ht⟩
  · exact .inl ⟨List.eq_nil_of_length_eq_zero h0, .inl rfl⟩
  · subst hv
    refine .inr ⟨g, 0, cap, rfl, (h.lt g rfl).2, hcap, fun i hi => ?_⟩
    rw [Nat.zero_add, h.cellAt i (by omega)]; simp [hi]
theorem SL.nil (w : World) (lim : Nat) : SL enc w lim (.slice none 0 0) ([] : List α) := .inl ⟨rfl, .inl rfl⟩
/-- The first k of a slice. -/
theorem SL.first {A : Option Addr} {n c k : Nat} (h : SL enc w lim (.slice A n c) l) (hk : k ≤ l.length) : SL enc w lim (.slice A k c) (l.take k) := by
  have hlen : (l.take k).length = k := by simp; omega
  rcases h with ⟨rfl, h⟩ | ⟨b, off, c', e, hb, hk', hcell⟩
  · simp at hk; subst hk
    refine .inl ⟨by simp, ?_⟩
    rcases h with h | ⟨ad, c', h⟩
    · injection h with h1 _ h3; subst h1 h3; exact .inl rfl
    · injection h with h1 _ h3; subst h1; exact .inr ⟨ad, c, rfl⟩
  · injection e with e1 _ e3
    subst e1 e3
    refine .inr ⟨b, off, c, by rw [hlen], hb, by omega, fun i hi => ?_⟩
    rw [hcell i (by omega)]; simp
/-- What comes behind the first k of a slice. -/
theorem SL.rest {A : Option Addr} {n c k : Nat} (h : SL enc w lim (.slice A n c) l) (hk : k ≤ l.length) :
    SL enc w lim (.slice (if c = k then A else A.map fun x => x.add k) (l.length - k) (c - k)) (l.drop k) := by
  have hlen : (l.drop k).length = l.length - k := by simp
  by_cases he : k = l.length
  · have hnil : l.drop k = [] := by rw [List.drop_of_length_le (by omega)]
    rw [hnil, he, Nat.sub_self]
    refine .inl ⟨rfl, ?_⟩
    rcases h with ⟨rfl, h⟩ | ⟨b, off, c', e, hb, hk', hcell⟩
    · simp at he; subst he
      rcases h with h | ⟨ad, c', h⟩
      · injection h with h1 _ h3; subst h1 h3; exact .inl rfl
      · injection h with h1 _ h3; subst h1
        split
        · exact .inr ⟨_, _, rfl⟩
        · exact .inr ⟨_, _, rfl⟩
    · injection e with e1 _ e3; subst e1
      split
      · exact .inr ⟨_, _, rfl⟩
      · exact .inr ⟨_, _, rfl⟩
  · rcases h with ⟨rfl, _⟩ | ⟨b, off, c', e, hb, hk', hcell⟩
    · simp at hk he; omega
    · injection e with e1 _ e3
      subst e1 e3
      have hadd : (⟨b, off, none⟩ : Addr).add k = ⟨b, off + k, none⟩ := by unfold Addr.add; split <;> simp_all
      refine .inr ⟨b, off + k, c - k, ?_, hb, by omega, fun i hi => ?_⟩
      · rw [if_neg (by omega), hlen, Option.map_some, hadd]
      · rw [Nat.add_assoc, hcell (k + i) (by omega)]; simp
end
def encB (c : UInt8) : Value := .int .u8 (c.toNat : Int)
end Go.Proofs.Ytelpgjaagkojeaa
