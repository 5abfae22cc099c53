/- Plain lemmas on bytes, endings and slices of strings in memory, for the contracts of this seat. No condition. -/
import Derived.Test.YtgfmfeaapffdfaaDoorRows
import Derived.WalkKit
import Derived.WalkSpells
import Derived.WalkLawsBesides
import Derived.Deep.QuietTactic
import Derived.BigQuiet
import Derived.Lib.Hide
import Derived.Lib.Strings
import Derived.Lib.IndexBytes
import Derived.Lib.SmallJoins
import Derived.Handy
import Derived.Below
import Derived.Laws.Rows
import Derived.Laws.AppendOwn
import Derived.Shelf.SlSortCmp.QuietGrown
namespace Go.Proofs.YtgfmfeaapffdfaaDoor
open Go.RowKit

theorem ret_bool {a b : Bool} (h : a = b) : Ending.returned (.bool a) = .returned (.bool b) := by rw [h]
theorem ret_int {k : IntKind} {a b : Int} (h : a = b) : Ending.returned (.int k a) = .returned (.int k b) := by rw [h]

/-- The bytes of a string, as a list: a name that the walk does not open. -/
def bs (s : ByteArray) : List UInt8 := s.data.toList
theorem bs_mk (l : List UInt8) : bs ⟨l.toArray⟩ = l := rfl
theorem mk_bs (s : ByteArray) : (⟨(bs s).toArray⟩ : ByteArray) = s := by unfold bs; simp
theorem bs_len (s : ByteArray) : (bs s).length = s.size := by unfold bs; simp
theorem bs_get (s : ByteArray) (k : Nat) (h : k < s.size) : (bs s)[k]'(by rw [bs_len]; exact h) = s[k] := rfl
theorem bs_getD (s : ByteArray) (k : Nat) (h : k < s.size) (d : UInt8) : (bs s).getD k d = s[k] := by
  rw [List.getD_eq_getElem?_getD, List.getElem?_eq_getElem (by rw [bs_len]; exact h)]; rfl
theorem bs_inj {s t : ByteArray} (h : bs s = bs t) : s = t := by rw [← mk_bs s, ← mk_bs t, h]
theorem bs_app (s t : ByteArray) : bs (s ++ t) = bs s ++ bs t := Go.Joins.data_append s t
theorem bs_extract (s : ByteArray) (a b : Nat) : bs (s.extract a b) = ((bs s).drop a).take (b - a) := Lib.extract_data s a b
theorem bs_extract_end (s : ByteArray) (a : Nat) : bs (s.extract a s.size) = (bs s).drop a := Lib.extract_to_end s a
theorem all_take (s : ByteArray) (p : UInt8 → Bool) (k : Nat) (h : k < s.size) : ((bs s).take (k + 1)).all p = (((bs s).take k).all p && p s[k]) := by
  rw [List.take_succ_eq_append_getElem (by rw [bs_len]; exact h), List.all_append, bs_get _ _ h]; simp
theorem all_no (s : ByteArray) (p : UInt8 → Bool) (k : Nat) (h : k < s.size) (hp : p s[k] = false) : (bs s).all p = false := by
  rw [List.all_eq_false]; exact ⟨s[k], by rw [← bs_get s k h]; exact List.getElem_mem _, by rw [hp]; simp⟩
theorem bs_drop (s : ByteArray) (k : Nat) (h : k < s.size) : (bs s).drop k = s[k] :: (bs s).drop (k + 1) := by
  rw [List.drop_eq_getElem_cons (by rw [bs_len]; exact h)]; rfl
theorem bs_drop_end (s : ByteArray) (k : Nat) (h : s.size ≤ k) : (bs s).drop k = [] := List.drop_of_length_le (by rw [bs_len]; exact h)
theorem toList_nil (s : ByteArray) (h : s.size = 0) : s.toList = [] := by
  rw [Lib.toList_data]; exact List.eq_nil_of_length_eq_zero (by simpa using h)
theorem toList_isEmpty_no (s : ByteArray) (h : 0 < s.size) : s.toList.isEmpty = false := by
  have hl := bs_len s
  unfold bs at hl
  rw [Lib.toList_data]
  cases hs : s.data.toList with
  | nil => rw [hs] at hl; simp at hl; omega
  | cons => rfl
theorem toList_ne (s : ByteArray) (h : 0 < s.size) : ¬ s.toList = [] := by
  have := toList_isEmpty_no s h
  intro e; rw [e] at this; simp at this
theorem byte_lt (c : UInt8) : (c.toNat : Int) < 256 := by have := c.toNat_lt; omega
theorem below_drewN {B : Nat} {a w : World} (h : Below B a w) (n : Nat) : Below B a (w.drewN n) := ⟨h.os, h.tape, h.output, h.size, h.block⟩

section
variable {w w' : World}
theorem grown_setCell (w : World) (b o : Nat) (v : Value) : w.grownBy (w.setCell ⟨b, o, none⟩ v) (some b) :=
  ⟨rfl, rfl, rfl, by simp [World.setCell], fun k _ hk => Below.heap_setCell _ _ _ _ (fun e => hk (by rw [e]))⟩
theorem grown_refl (w : World) (r : Option Nat) : w.grownBy w r := ⟨rfl, rfl, rfl, Nat.le_refl _, fun _ _ _ => rfl⟩
theorem grown_trans {a c : World} {r : Option Nat} (h : w.grownBy a r) (k : a.grownBy c r) : w.grownBy c r :=
  ⟨k.os.trans h.os, k.tape.trans h.tape, k.output.trans h.output, Nat.le_trans h.size k.size, fun i hi hr => (k.block i (Nat.lt_of_lt_of_le hi h.size) hr).trans (h.block i hi hr)⟩
theorem grown_below (h : Below w.heap.size w w') (r : Option Nat) : w.grownBy w' r := ⟨h.os, h.tape, h.output, h.size, fun k hk _ => h.block k hk⟩
theorem grown_drewN {a : World} {r : Option Nat} (h : w.grownBy a r) (k : Nat) : w.grownBy (a.drewN k) r := ⟨h.os, h.tape, h.output, h.size, h.block⟩
end
/-- A slice value that holds a list, in blocks below lim. -/
def SL {α : Type} (enc : α → Value) (w : World) (lim : Nat) (v : Value) (l : List α) : Prop :=
  (l = [] ∧ (v = .slice none 0 0 ∨ ∃ ad c, v = .slice (some ad) 0 c)) ∨
  ∃ b off c, v = .slice (some ⟨b, off, none⟩) l.length c ∧ b < lim ∧ l.length ≤ c ∧ ∀ i (h : i < l.length), w.cell? ⟨b, off + i, none⟩ = some (enc l[i])
section
variable {α : Type} {enc : α → Value} {w w' : World} {lim : Nat} {v : Value} {l : List α}
theorem SL.below (h : SL enc w lim v l) {B : Nat} (hb : Below B w w') (hB : lim ≤ B) : SL enc w' lim v l := by
  rcases h with h | ⟨b, off, c, rfl, hl, hcap, hc⟩
  · exact .inl h
  · exact .inr ⟨b, off, c, rfl, hl, hcap, fun i hi => (hb.cell (p := ⟨b, _, none⟩) (show b < B by omega)).trans (hc i hi)⟩
theorem SL.mono {lim' : Nat} (h : SL enc w lim v l) (hl : lim ≤ lim') : SL enc w lim' v l := by
  rcases h with h | ⟨b, off, c, rfl, hb, hcap, hc⟩
  · exact .inl h
  · exact .inr ⟨b, off, c, rfl, by omega, hcap, hc⟩
theorem SL.next (h : SL enc w w.heap.size v l) (hb : Below w.heap.size w w') : SL enc w' w'.heap.size v l := (h.below hb (Nat.le_refl _)).mono hb.size
theorem SL.drewN (h : SL enc w lim v l) (m : Nat) : SL enc (w.drewN m) lim v l := h
theorem SL.form (h : SL enc w lim v l) : ∃ A c, v = .slice A l.length c := by
  rcases h with ⟨rfl, rfl | ⟨ad, c, rfl⟩⟩ | ⟨b, off, c, rfl, _⟩
  · exact ⟨none, 0, rfl⟩
  · exact ⟨_, c, rfl⟩
  · exact ⟨_, c, rfl⟩
theorem SL.at {A : Option Addr} {c n : Nat} (h : SL enc w lim (.slice A n c) l) (hne : 0 < l.length) :
    ∃ b off, A = some ⟨b, off, none⟩ ∧ b < lim ∧ ∀ i (h : i < l.length), w.cell? ⟨b, off + i, none⟩ = some (enc l[i]) := by
  rcases h with ⟨rfl, _⟩ | ⟨b, off, c', e, hb, _, hc⟩
  · simp at hne
  · injection e with e1 _ _; exact ⟨b, off, e1, hb, hc⟩
theorem SL.cap {A : Option Addr} {c n : Nat} (h : SL enc w lim (.slice A n c) l) : l.length ≤ c := by
  rcases h with ⟨rfl, _⟩ | ⟨b, off, c', e, hb, hk, hc⟩
  · simp
  · injection e with _ _ e3; subst e3; exact hk
theorem SL.of_own {base E n : Nat} (hn : n = l.length) (h : w.ownsRow base E 1 v n (l.map enc)) : SL enc w w.heap.size v l := by
  subst hn
  rcases h.2 with ⟨rfl, h0⟩ | ⟨g, cap, cur, hv, hb, hg, hcap, hm, hs, ht⟩
  · exact .inl ⟨List.eq_nil_of_length_eq_zero h0, .inl rfl⟩
  · subst hv
    refine .inr ⟨g, 0, cap, rfl, (h.lt g rfl).2, hcap, fun i hi => ?_⟩
    rw [Nat.zero_add, h.cellAt i (by omega)]; simp [hi]
theorem SL.nil (w : World) (lim : Nat) : SL enc w lim (.slice none 0 0) ([] : List α) := .inl ⟨rfl, .inl rfl⟩
/-- The first k of a slice. -/
theorem SL.first {A : Option Addr} {n c k : Nat} (h : SL enc w lim (.slice A n c) l) (hk : k ≤ l.length) : SL enc w lim (.slice A k c) (l.take k) := by
  have hlen : (l.take k).length = k := by simp; omega
  rcases h with ⟨rfl, h⟩ | ⟨b, off, c', e, hb, hk', hcell⟩
  · simp at hk; subst hk
    refine .inl ⟨by simp, ?_⟩
    rcases h with h | ⟨ad, c', h⟩
    · injection h with h1 _ h3; subst h1 h3; exact .inl rfl
    · injection h with h1 _ h3; subst h1; exact .inr ⟨ad, c, rfl⟩
  · injection e with e1 _ e3
    subst e1 e3
    refine .inr ⟨b, off, c, by rw [hlen], hb, by omega, fun i hi => ?_⟩
    rw [hcell i (by omega)]; simp
/-- What comes behind the first k of a slice. -/
theorem SL.rest {A : Option Addr} {n c k : Nat} (h : SL enc w lim (.slice A n c) l) (hk : k ≤ l.length) :
    SL enc w lim (.slice (if c = k then A else A.map fun x => x.add k) (l.length - k) (c - k)) (l.drop k) := by
  have hlen : (l.drop k).length = l.length - k := by simp
  by_cases he : k = l.length
  · have hnil : l.drop k = [] := by rw [List.drop_of_length_le (by omega)]
    rw [hnil, he, Nat.sub_self]
    refine .inl ⟨rfl, ?_⟩
    rcases h with ⟨rfl, h⟩ | ⟨b, off, c', e, hb, hk', hcell⟩
    · simp at he; subst he
      rcases h with h | ⟨ad, c', h⟩
      · injection h with h1 _ h3; subst h1 h3; exact .inl rfl
      · injection h with h1 _ h3; subst h1
        split
        · exact .inr ⟨_, _, rfl⟩
        · exact .inr ⟨_, _, rfl⟩
    · injection e with e1 _ e3; subst e1
      split
      · exact .inr ⟨_, _, rfl⟩
      · exact .inr ⟨_, _, rfl⟩
  · rcases h with ⟨rfl, _⟩ | ⟨b, off, c', e, hb, hk', hcell⟩
    · simp at hk he; omega
    · injection e with e1 _ e3
      subst e1 e3
      have hadd : (⟨b, off, none⟩ : Addr).add k = ⟨b, off + k, none⟩ := by unfold Addr.add; split <;> simp_all
      refine .inr ⟨b, off + k, c - k, ?_, hb, by omega, fun i hi => ?_⟩
      · rw [if_neg (by omega), hlen, Option.map_some, hadd]
      · rw [Nat.add_assoc, hcell (k + i) (by omega)]; simp
end
/-- Of what was there nothing has turned, and the draws have not become fewer. -/
structure Gr (w w' : World) : Prop where
  below : Below w.heap.size w w'
  drawn : w.drawn ≤ w'.drawn
section
variable {a b c : World}
theorem Gr.refl (a : World) : Gr a a := ⟨Below.refl _ _, Nat.le_refl _⟩
theorem Gr.trans (h : Gr a b) (k : Gr b c) : Gr a c := ⟨h.below.trans (k.below.mono h.below.size), Nat.le_trans h.drawn k.drawn⟩
theorem Gr.drewN (h : Gr a b) (n : Nat) : Gr a (b.drewN n) := ⟨⟨h.below.os, h.below.tape, h.below.output, h.below.size, h.below.block⟩, Nat.le_trans h.drawn (Nat.le_add_right _ _)⟩
theorem Gr.alloc (h : Gr a b) (o : Obj) : Gr a (b.alloc o) := ⟨h.below.alloc h.below.size o, h.drawn⟩
theorem Gr.grow (h : Gr a b) (os : Array Obj) : Gr a (Go.Sort.grow b os) :=
  h.trans ⟨⟨rfl, rfl, rfl, by simp [Go.Sort.grow], fun k hk => by simp [Go.Sort.grow, Array.getElem?_append, hk]⟩, Nat.le_refl _⟩
theorem Gr.of_by (h : ∃ p : GrownBy, b = Go.Sort.grow (a.drewN p.n) p.os) : Gr a b := by
  obtain ⟨p, rfl⟩ := h
  exact ((Gr.refl a).drewN _).grow _
theorem Gr.by (h : Gr a b) : ∃ p : GrownBy, b = Go.Sort.grow (a.drewN p.n) p.os := by
  refine ⟨⟨b.drawn - a.drawn, b.heap.extract a.heap.size b.heap.size⟩, ?_⟩
  obtain ⟨hb, hd⟩ := h
  obtain ⟨heap', tape', drawn', os', output'⟩ := b
  have e1 : os' = a.os := hb.os
  have e2 : tape' = a.tape := hb.tape
  have e3 : output' = a.output := hb.output
  have hs : a.heap.size ≤ heap'.size := hb.size
  have hbl : ∀ k, k < a.heap.size → heap'[k]? = a.heap[k]? := hb.block
  have hd' : a.drawn ≤ drawn' := hd
  subst e1 e2 e3
  have eh : heap' = a.heap ++ heap'.extract a.heap.size heap'.size := by
    apply Array.ext_getElem?
    intro k
    by_cases hk : k < a.heap.size
    · rw [Array.getElem?_append_left hk]; exact hbl k hk
    · rw [Array.getElem?_append_right (by omega), Array.getElem?_extract]
      by_cases hk2 : k < heap'.size
      · rw [if_pos (by omega)]; congr 1; omega
      · rw [if_neg (by omega), Array.getElem?_eq_none (by omega)]
  have ed : drawn' = a.drawn + (drawn' - a.drawn) := by omega
  simp only [Go.Sort.grow, World.drewN]
  rw [← ed]
  congr 1
theorem Gr.cell (h : Gr a b) {p : Addr} {v : Value} (hc : a.cell? p = some v) : b.cell? p = some v := by
  rw [h.below.cell (block_lt_of_cell hc)]; exact hc
end
/-- A string as a cell. -/
def encS (s : ByteArray) : Value := .string s
end Go.Proofs.YtgfmfeaapffdfaaDoor
