/- Blocks, slices, rows of sectors and of writes, maps of indices in memory. Condition: the types have the numbers of this translation. -/
import Derived.Test.YtiddbdjcdoiloaaDoorRows
import Derived.Test.YtiddbdjcdoiloaaDoorDv
import Derived.WalkKit
import Derived.WalkSpells
import Derived.WalkLawsBesides
import Derived.RegionTactic
import Derived.ChangeAlike
import Derived.BigRegion
import Derived.Deep.QuietTactic
import Derived.BigQuiet
import Derived.Lib.Hide
import Derived.Lib.SmallJoins
import Derived.Handy
import Derived.Below
import Derived.Laws.Rows
import Derived.Laws.AppendOwn
import Derived.OwnWalk
import Derived.Laws.OwnMore
import Derived.Lib.Strings
import Derived.Laws.BitsAllLaws
import Derived.Laws.MakeOwn
import Derived.Deep.MidRow
import Derived.Maps.OwnSet
import Derived.LaidEqlPtr
namespace Go.Proofs.YtiddbdjcdoiloaaDoor
open Go.RowKit

theorem ret_bool {a b : Bool} (h : a = b) : Ending.returned (.bool a) = .returned (.bool b) := by rw [h]
theorem ret_int {k : IntKind} {a b : Int} (h : a = b) : Ending.returned (.int k a) = .returned (.int k b) := by rw [h]
theorem ret_nat {k : IntKind} {a b : Nat} (h : a = b) : Ending.returned (.int k (a : Int)) = .returned (.int k (b : Int)) := by rw [h]
theorem ret_int2 {k : IntKind} {a b : Int} {v : Value} (h : a = b) : Ending.returned (.tuple #[.int k a, v]) = .returned (.tuple #[.int k b, v]) := by rw [h]
section
variable {w w' : World}
/-- A block known whole. -/
def Blk (w : World) (b : Nat) (cs : Array Value) (t : TypeId) : Prop := w.heap[b]? = some (.cells cs t (0, 0))
variable {b : Nat} {cs : Array Value} {t : TypeId}
theorem Blk.lt (h : Blk w b cs t) : b < w.heap.size := (Array.getElem?_eq_some_iff.1 h).1
theorem Blk.cell (h : Blk w b cs t) (o : Nat) {v : Value} (hv : cs[o]? = some v) : w.cell? ⟨b, o, none⟩ = some v := by
  rw [cell_of_row w b o _ _ _ h, hv]
theorem Blk.free (h : Blk w b cs t) (o : Nat) : w.frozen? ⟨b, o, none⟩ = false := frozen_of_row w b o _ _ h
theorem Blk.of_block (h : Blk w b cs t) (he : w'.heap[b]? = w.heap[b]?) : Blk w' b cs t := he.trans h
theorem Blk.drewN (h : Blk w b cs t) (k : Nat) : Blk (w.drewN k) b cs t := h
theorem Blk.grown {r : Option Nat} (h : Blk w b cs t) (hg : w.grownBy w' r) (hr : some b ≠ r) : Blk w' b cs t := h.of_block (hg.block b h.lt hr)
theorem Blk.below {B : Nat} (h : Blk w b cs t) (hb : Below B w w') (hB : b < B) : Blk w' b cs t := h.of_block (hb.block b hB)
theorem Blk.set (h : Blk w b cs t) (o : Nat) (v : Value) : Blk (w.setCell ⟨b, o, none⟩ v) b (cs.setIfInBounds o v) t := heap_setCell_same w b o _ _ _ h
theorem Blk.new (w : World) (cs : Array Value) (t : TypeId) : Blk (w.alloc (.cells cs t)) w.heap.size cs t := heap_alloc_new w _
theorem grown_setCell (w : World) (b o : Nat) (v : Value) : w.grownBy (w.setCell ⟨b, o, none⟩ v) (some b) :=
  ⟨rfl, rfl, rfl, by simp [World.setCell], fun k _ hk => Below.heap_setCell _ _ _ _ (fun e => hk (by rw [e]))⟩
theorem grown_refl (w : World) (r : Option Nat) : w.grownBy w r := ⟨rfl, rfl, rfl, Nat.le_refl _, fun _ _ _ => rfl⟩
theorem grown_trans {a c : World} {r : Option Nat} (h : w.grownBy a r) (k : a.grownBy c r) : w.grownBy c r :=
  ⟨k.os.trans h.os, k.tape.trans h.tape, k.output.trans h.output, Nat.le_trans h.size k.size, fun i hi hr => (k.block i (Nat.lt_of_lt_of_le hi h.size) hr).trans (h.block i hi hr)⟩
theorem grown_below (h : Below w.heap.size w w') (r : Option Nat) : w.grownBy w' r := ⟨h.os, h.tape, h.output, h.size, fun k hk _ => h.block k hk⟩
theorem grown_drewN {a : World} {r : Option Nat} (h : w.grownBy a r) (k : Nat) : w.grownBy (a.drewN k) r := ⟨h.os, h.tape, h.output, h.size, h.block⟩
theorem grown_set {a : World} {b : Nat} (h : w.grownBy a (some b)) (o : Nat) (v : Value) : w.grownBy (a.setCell ⟨b, o, none⟩ v) (some b) := grown_trans h (grown_setCell _ _ _ _)
theorem below_drewN {B : Nat} {a w : World} (h : Below B a w) (n : Nat) : Below B a (w.drewN n) := ⟨h.os, h.tape, h.output, h.size, h.block⟩
theorem below_grown {B : Nat} {a : World} (h : Below B a w) (hg : w.grownBy w' (some b)) (hB : B ≤ w.heap.size) (hb : B ≤ b) : Below B a w' :=
  h.grown hg hB (fun k hk => by cases hk; exact hb)
theorem of_grown (hg : w.grownBy w' (some b)) (hb : b ≤ w.heap.size) : Below b w w' := (Below.refl b w).grown hg hb (fun k hk => by cases hk; exact Nat.le_refl _)
theorem set_set (cs : Array Value) (o : Nat) (u v : Value) : (cs.setIfInBounds o u).setIfInBounds o v = cs.setIfInBounds o v := by simp
theorem set_get (cs : Array Value) (o : Nat) (v : Value) (h : o < cs.size) : (cs.setIfInBounds o v)[o]? = some v := by simp [h]
theorem set_other (cs : Array Value) (o p : Nat) (v : Value) (h : o ≠ p) : (cs.setIfInBounds o v)[p]? = cs[p]? := by simp [h]
end
/-- A slice value that holds a list, in blocks below lim. -/
def SL {α : Type} (enc : α → Value) (w : World) (lim : Nat) (v : Value) (l : List α) : Prop :=
  (l = [] ∧ (v = .slice none 0 0 ∨ ∃ ad c, v = .slice (some ad) 0 c)) ∨
  ∃ b off c, v = .slice (some ⟨b, off, none⟩) l.length c ∧ b < lim ∧ l.length ≤ c ∧ ∀ i (h : i < l.length), w.cell? ⟨b, off + i, none⟩ = some (enc l[i])
section
variable {α : Type} {enc : α → Value} {w w' : World} {lim : Nat} {v : Value} {l : List α}
theorem SL.below (h : SL enc w lim v l) {B : Nat} (hb : Below B w w') (hB : lim ≤ B) : SL enc w' lim v l := by
  rcases h with h | ⟨b, off, c, rfl, hl, hcap, hc⟩
  · exact .inl h
  · exact .inr ⟨b, off, c, rfl, hl, hcap, fun i hi => (hb.cell (p := ⟨b, _, none⟩) (show b < B by omega)).trans (hc i hi)⟩
theorem SL.mono {lim' : Nat} (h : SL enc w lim v l) (hl : lim ≤ lim') : SL enc w lim' v l := by
  rcases h with h | ⟨b, off, c, rfl, hb, hcap, hc⟩
  · exact .inl h
  · exact .inr ⟨b, off, c, rfl, by omega, hcap, hc⟩
theorem SL.next (h : SL enc w w.heap.size v l) (hb : Below w.heap.size w w') : SL enc w' w'.heap.size v l := (h.below hb (Nat.le_refl _)).mono hb.size
theorem SL.drewN (h : SL enc w lim v l) (m : Nat) : SL enc (w.drewN m) lim v l := h
theorem SL.form (h : SL enc w lim v l) : ∃ A c, v = .slice A l.length c := by
  rcases h with ⟨rfl, rfl | ⟨ad, c, rfl⟩⟩ | ⟨b, off, c, rfl, _⟩
  · exact ⟨none, 0, rfl⟩
  · exact ⟨_, c, rfl⟩
  · exact ⟨_, c, rfl⟩
theorem SL.at {A : Option Addr} {c n : Nat} (h : SL enc w lim (.slice A n c) l) (hne : 0 < l.length) :
    ∃ b off, A = some ⟨b, off, none⟩ ∧ b < lim ∧ ∀ i (h : i < l.length), w.cell? ⟨b, off + i, none⟩ = some (enc l[i]) := by
  rcases h with ⟨rfl, _⟩ | ⟨b, off, c', e, hb, _, hc⟩
  · simp at hne
  · injection e with e1 _ _; exact ⟨b, off, e1, hb, hc⟩
theorem SL.cap {A : Option Addr} {c n : Nat} (h : SL enc w lim (.slice A n c) l) : l.length ≤ c := by
  rcases h with ⟨rfl, _⟩ | ⟨b, off, c', e, hb, hk, hc⟩
  · simp
  · injection e with _ _ e3; subst e3; exact hk
theorem SL.of_own {base E n : Nat} (hn : n = l.length) (h : w.ownsRow base E 1 v n (l.map enc)) : SL enc w w.heap.size v l := by
  subst hn
  rcases h.2 with ⟨rfl, h0⟩ | ⟨g, cap, cur, hv, hb, hg, hcap, hm, hs, ht⟩
  · exact .inl ⟨List.eq_nil_of_length_eq_zero h0, .inl rfl⟩
  · subst hv
    refine .inr ⟨g, 0, cap, rfl, (h.lt g rfl).2, hcap, fun i hi => ?_⟩
    rw [Nat.zero_add, h.cellAt i (by omega)]; simp [hi]
theorem SL.nil (w : World) (lim : Nat) : SL enc w lim (.slice none 0 0) ([] : List α) := .inl ⟨rfl, .inl rfl⟩
/-- The first k of a slice. -/
theorem SL.first {A : Option Addr} {n c k : Nat} (h : SL enc w lim (.slice A n c) l) (hk : k ≤ l.length) : SL enc w lim (.slice A k c) (l.take k) := by
  have hlen : (l.take k).length = k := by simp; omega
  rcases h with ⟨rfl, h⟩ | ⟨b, off, c', e, hb, hk', hcell⟩
  · simp at hk; subst hk
    refine .inl ⟨by simp, ?_⟩
    rcases h with h | ⟨ad, c', h⟩
    · injection h with h1 _ h3; subst h1 h3; exact .inl rfl
    · injection h with h1 _ h3; subst h1; exact .inr ⟨ad, c, rfl⟩
  · injection e with e1 _ e3
    subst e1 e3
    refine .inr ⟨b, off, c, by rw [hlen], hb, by omega, fun i hi => ?_⟩
    rw [hcell i (by omega)]; simp
/-- What comes behind the first k of a slice. -/
theorem SL.rest {A : Option Addr} {n c k : Nat} (h : SL enc w lim (.slice A n c) l) (hk : k ≤ l.length) :
    SL enc w lim (.slice (if c = k then A else A.map fun x => x.add k) (l.length - k) (c - k)) (l.drop k) := by
  have hlen : (l.drop k).length = l.length - k := by simp
  by_cases he : k = l.length
  · have hnil : l.drop k = [] := by rw [List.drop_of_length_le (by omega)]
    rw [hnil, he, Nat.sub_self]
    refine .inl ⟨rfl, ?_⟩
    rcases h with ⟨rfl, h⟩ | ⟨b, off, c', e, hb, hk', hcell⟩
    · simp at he; subst he
      rcases h with h | ⟨ad, c', h⟩
      · injection h with h1 _ h3; subst h1 h3; exact .inl rfl
      · injection h with h1 _ h3; subst h1
        split
        · exact .inr ⟨_, _, rfl⟩
        · exact .inr ⟨_, _, rfl⟩
    · injection e with e1 _ e3; subst e1
      split
      · exact .inr ⟨_, _, rfl⟩
      · exact .inr ⟨_, _, rfl⟩
  · rcases h with ⟨rfl, _⟩ | ⟨b, off, c', e, hb, hk', hcell⟩
    · simp at hk he; omega
    · injection e with e1 _ e3
      subst e1 e3
      have hadd : (⟨b, off, none⟩ : Addr).add k = ⟨b, off + k, none⟩ := by unfold Addr.add; split <;> simp_all
      refine .inr ⟨b, off + k, c - k, ?_, hb, by omega, fun i hi => ?_⟩
      · rw [if_neg (by omega), hlen, Option.map_some, hadd]
      · rw [Nat.add_assoc, hcell (k + i) (by omega)]; simp
end
def encB (c : UInt8) : Value := .int .u8 (c.toNat : Int)

/-- Only blocks of F turn, and new ones are made. -/
structure Fr (w w' : World) (F : List Nat) : Prop where
  os : w'.os = w.os
  tape : w'.tape = w.tape
  output : w'.output = w.output
  size : w.heap.size ≤ w'.heap.size
  block : ∀ i, i < w.heap.size → i ∉ F → w'.heap[i]? = w.heap[i]?
section
variable {w w' a : World} {F : List Nat}
theorem Fr.refl (w : World) (F : List Nat) : Fr w w F := ⟨rfl, rfl, rfl, Nat.le_refl _, fun _ _ _ => rfl⟩
theorem Fr.trans {G : List Nat} (h : Fr w a F) (k : Fr a w' G) (hG : ∀ i ∈ G, i ∈ F ∨ w.heap.size ≤ i) : Fr w w' F :=
  ⟨k.os.trans h.os, k.tape.trans h.tape, k.output.trans h.output, Nat.le_trans h.size k.size, fun i hi hF => (k.block i (Nat.lt_of_lt_of_le hi h.size) (fun hg => by rcases hG i hg with h | h; exact hF h; omega)).trans (h.block i hi hF)⟩
theorem Fr.of_grown {r : Nat} (h : w.grownBy w' (some r)) (hr : r ∈ F) : Fr w w' F :=
  ⟨h.os, h.tape, h.output, h.size, fun i hi hF => h.block i hi (fun e => hF (by cases e; exact hr))⟩
theorem Fr.of_grown' {r : Option Nat} (h : w.grownBy w' r) (hr : ∀ k, r = some k → k ∈ F ∨ w.heap.size ≤ k) : Fr w w' F :=
  ⟨h.os, h.tape, h.output, h.size, fun i hi hF => h.block i hi (fun e => by rcases hr i e.symm with h | h; exact hF h; omega)⟩
theorem Fr.of_below (h : Below w.heap.size w w') (F : List Nat) : Fr w w' F := ⟨h.os, h.tape, h.output, h.size, fun i hi _ => h.block i hi⟩
theorem Fr.below {B : Nat} {w0 : World} (h : Fr w w' F) (h0 : Below B w0 w) (hB : B ≤ w.heap.size) (hF : ∀ i ∈ F, B ≤ i) : Below B w0 w' :=
  ⟨h.os.trans h0.os, h.tape.trans h0.tape, h.output.trans h0.output, Nat.le_trans h0.size h.size, fun i hi => (h.block i (by omega) (fun hm => by have := hF i hm; omega)).trans (h0.block i hi)⟩
theorem Fr.blk {b : Nat} {cs : Array Value} {t : TypeId} (h : Fr w w' F) (hb : Blk w b cs t) (hn : b ∉ F) : Blk w' b cs t := hb.of_block (h.block b hb.lt hn)
theorem Fr.alloc (w : World) (o : Obj) (F : List Nat) : Fr w (w.alloc o) F := Fr.of_below ((Below.refl _ _).alloc (Nat.le_refl _) _) F
theorem Fr.drewN (h : Fr w w' F) (n : Nat) : Fr w (w'.drewN n) F := ⟨h.os, h.tape, h.output, h.size, h.block⟩
end
/-- The cells of a sector. -/
def secC (x : Dv.Sec) : List Value := x.1.map encB
def secV (x : Dv.Sec) : Value := .agg (secC x).toArray
theorem secC_len (x : Dv.Sec) : (secC x).length = 128 := by unfold secC; rw [List.length_map, x.2]
theorem secC_size (x : Dv.Sec) : (secC x).toArray.size = 128 := by rw [List.size_toArray, secC_len]
theorem secC_one (x : Dv.Sec) : ∀ v ∈ secC x, v.oneCell' = true := fun v hv => by
  obtain ⟨c, _, rfl⟩ := List.mem_map.1 hv; rfl
theorem secC_all (x : Dv.Sec) : (secC x).toArray.all (·.oneCell') = true := all_oneCell_toArray (secC_one x)
theorem uSec : Tryd.prog.underlying 38 = some (.array 128 5) := by kernel_rfl
theorem iSec : (Tryd.prog.info? 38).map (·.size) = some 128 := by kernel_rfl
theorem info_sec : (Tryd.prog.info? 38).map (fun i => (i.zero, i.size, i.bytes)) = some (some (secV Dv.zeroS), 128, 128) := by kernel_rfl
/-- The cells of a write. -/
def wrC (p : Dv.Wr) : List Value := .int .i64 (p.1 : Int) :: secC p.2
def wrV (p : Dv.Wr) : Value := .agg (wrC p).toArray
theorem wrC_len (p : Dv.Wr) : (wrC p).length = 129 := by unfold wrC; rw [List.length_cons, secC_len]
theorem wrC_one (p : Dv.Wr) : ∀ v ∈ wrC p, v.oneCell' = true := fun v hv => by
  rcases List.mem_cons.1 hv with rfl | h
  · rfl
  · exact secC_one _ v h
theorem wrC_all (p : Dv.Wr) : (wrC p).toArray.all (·.oneCell') = true := all_oneCell_toArray (wrC_one p)
theorem iWr : (Tryd.prog.info? 112).map (·.size) = some 129 := by kernel_rfl
theorem info_wr : (Tryd.prog.info? 112).map (fun i => (i.zero, i.size, i.bytes)) = some (some (wrV (0, Dv.zeroS)), 129, 136) := by kernel_rfl
/-- A row of sectors. -/
structure Stb (w : World) (g : Nat) (st : List Dv.Sec) : Prop where
  blk : ∃ cs, Blk w g cs 38
  at_ : ∀ i (h : i < st.length), w.rangeAt g (i * 128) (secC st[i])
section
variable {w w' : World} {g : Nat} {st : List Dv.Sec}
theorem Stb.lt (h : Stb w g st) : g < w.heap.size := by obtain ⟨cs, h⟩ := h.blk; exact h.lt
theorem Stb.of_block (h : Stb w g st) (he : w'.heap[g]? = w.heap[g]?) : Stb w' g st := by
  obtain ⟨⟨cs, hb⟩, ha⟩ := h
  exact ⟨⟨cs, hb.of_block he⟩, fun i hi j v hv => (World.cell?_of_block (a := ⟨g, _, none⟩) he).trans (ha i hi j v hv)⟩
theorem Stb.grown {r : Option Nat} (h : Stb w g st) (hg : w.grownBy w' r) (hr : some g ≠ r) : Stb w' g st := h.of_block (hg.block g h.lt hr)
theorem Stb.there (h : Stb w g st) (i : Nat) (hi : i < st.length) : w.there g (i * 128) 128 := fun j hj => by
  obtain ⟨cs, hb⟩ := h.blk
  have hl := secC_len st[i]
  have := h.at_ i hi j _ (List.getElem?_eq_getElem (by omega : j < (secC st[i]).length))
  exact ⟨by rw [this]; rfl, hb.free _⟩
theorem blk_setCells {t : TypeId} (g : Nat) : ∀ (vs : List Value) (o : Nat) (w : World) (cs : Array Value), Blk w g cs t → ∃ cs', Blk (w.setCells g o vs) g cs' t
  | [], _, _, cs, h => ⟨cs, h⟩
  | v :: r, o, _, _, h => blk_setCells g r (o + 1) _ _ (h.set o v)
theorem grown_setCells (g : Nat) : ∀ (vs : List Value) (o : Nat) (w : World), w.grownBy (w.setCells g o vs) (some g)
  | [], _, w => grown_refl w _
  | v :: r, o, w => grown_trans (grown_setCell w g o v) (grown_setCells g r (o + 1) _)
theorem Stb.store (h : Stb w g st) (i : Nat) (hi : i < st.length) (x : Dv.Sec) : Stb (w.setCells g (i * 128) (secC x)) g (st.set i x) := by
  obtain ⟨cs, hb⟩ := h.blk
  refine ⟨blk_setCells g _ _ _ _ hb, fun k hk => ?_⟩
  have hl := secC_len x
  by_cases e : k = i
  · subst e
    rw [List.getElem_set_self]
    exact World.rangeAt_setCells_same _ _ _ _ (by rw [hl]; exact h.there k hi)
  · rw [List.getElem_set_ne (by omega)]
    have hk' : k < st.length := by simpa using hk
    have hl2 := secC_len st[k]
    refine World.rangeAt_setCells_apart (h.at_ k hk') g _ _ (.inr ?_)
    rw [hl, hl2]
    rcases Nat.lt_or_gt_of_ne e with h | h
    · left; omega
    · right; omega
end
/-- A row of writes of the call's own. -/
def Cch (w : World) (base : Nat) (v : Value) (ca : List Dv.Wr) : Prop := w.ownsRow base 112 129 v ca.length (ca.flatMap wrC)
/-- A slice value that holds writes. -/
def CV (w : World) (v : Value) (ca : List Dv.Wr) : Prop :=
  (ca = [] ∧ ∃ A c, v = .slice A 0 c) ∨
  ∃ g o c, v = .slice (some ⟨g, o, none⟩) ca.length c ∧ (∃ cs, Blk w g cs 112) ∧ ∀ i (h : i < ca.length), w.rangeAt g (o + i * 129) (wrC ca[i])
theorem flat_get (P : List Dv.Wr) : ∀ (i : Nat) (h : i < P.length) (j : Nat) (_ : j < 129), (P.flatMap wrC)[i * 129 + j]? = (wrC P[i])[j]? := by
  induction P with
  | nil => intro i h; simp at h
  | cons f fs ih =>
    intro i h j hj
    have hl := wrC_len f
    rw [List.flatMap_cons]
    cases i with
    | zero => rw [Nat.zero_mul, Nat.zero_add, List.getElem?_append_left (by omega)]; rfl
    | succ i =>
      rw [List.getElem?_append_right (by omega), show (i + 1) * 129 + j - (wrC f).length = i * 129 + j by omega]
      exact ih i (by simpa using h) j hj
section
variable {w w' : World} {v : Value} {ca : List Dv.Wr} {base : Nat}
theorem CV.form (h : CV w v ca) : ∃ A c, v = .slice A ca.length c := by
  rcases h with ⟨rfl, A, c, rfl⟩ | ⟨g, o, c, rfl, _⟩
  · exact ⟨A, c, rfl⟩
  · exact ⟨_, c, rfl⟩
theorem CV.at {A : Option Addr} {n c : Nat} (h : CV w (.slice A n c) ca) (hne : 0 < ca.length) : ∃ g o, A = some ⟨g, o, none⟩ ∧ (∃ cs, Blk w g cs 112) ∧ ∀ i (h : i < ca.length), w.rangeAt g (o + i * 129) (wrC ca[i]) := by
  rcases h with ⟨rfl, _⟩ | ⟨g, o, c', e, hb, hc⟩
  · simp at hne
  · injection e with e1 _ _; exact ⟨g, o, e1, hb, hc⟩
theorem Cch.cv (h : Cch w base v ca) : CV w v ca := by
  rcases h.2 with ⟨rfl, h0⟩ | ⟨g, cap, cur, hv, hb, hg, hcap, hm, hs, ht⟩
  · exact .inl ⟨List.eq_nil_of_length_eq_zero h0, none, 0, rfl⟩
  · subst hv
    refine .inr ⟨g, 0, cap, rfl, ⟨cur, hg⟩, fun i hi j u hu => ?_⟩
    have hj : j < 129 := by have := (List.getElem?_eq_some_iff.1 hu).1; rw [wrC_len] at this; exact this
    rw [Nat.zero_add, World.ownsRow.cellAt h (i * 129 + j) (by omega), flat_get _ i hi j hj, hu]
theorem Cch.apart {t : TypeId} {b : Nat} {cs : Array Value} (h : Cch w base v ca) (hb : Blk w b cs t) (ht : t ≠ 112) : some b ≠ v.ownBlock := by
  rcases h.2 with ⟨rfl, _⟩ | ⟨g, cap, cur, rfl, _, hg, _⟩
  · simp [Value.ownBlock]
  · intro e
    obtain rfl : b = g := Option.some.inj e
    have : Obj.cells cs t (0, 0) = .cells cur 112 (0, 0) := Option.some.inj (hb.symm.trans hg)
    injection this with _ h2; exact ht h2
theorem Cch.apart_map {b : Nat} {es : Array MapEntry} {clock : Nat} (h : Cch w base v ca) (hb : w.heap[b]? = some (.map es clock)) : some b ≠ v.ownBlock := by
  rcases h.2 with ⟨rfl, _⟩ | ⟨g, cap, cur, rfl, _, hg, _⟩
  · simp [Value.ownBlock]
  · intro e
    obtain rfl : b = g := Option.some.inj e
    exact Obj.noConfusion (Option.some.inj (hb.symm.trans hg))
end
end Go.Proofs.YtiddbdjcdoiloaaDoor
