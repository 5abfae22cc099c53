/- The contract of the iterator words.fields$1: it yields what the line consists of. Conditions: the line is shorter than 10^9 bytes, and the table words.escapes holds what the program's text lays. -/
import Derived.Test.YtdkaogcimecfiaaDoorBare
import Derived.Test.YtdkaogcimecfiaaDoorIter
import Derived.Shelf.Abstract
import Derived.Shelf.RegionOpen
import Derived.OwnWalkIn
import Derived.TacticsInMore
namespace Go.Proofs.YtdkaogcimecfiaaDoor
open Go.RowKit Go.Shelf
attribute [local go_sem] Oper.semAt_some

/-! ### PLAIN: what a line consists of -/
theorem quotedAt_next (l : List UInt8) (k : Nat) (y : List UInt8) (n : Nat) (h : quotedAt l k = some (y, n)) : k < n ∧ n ≤ l.length := by
  unfold quotedAt at h
  cases hd : l.drop k with
  | nil => rw [hd] at h; simp at h
  | cons c r =>
    rw [hd] at h
    simp only at h
    have hlen : l.length - k = r.length + 1 := by have := congrArg List.length hd; simpa using this
    split at h
    · cases hq : M.rq r with
      | none => rw [hq] at h; simp at h
      | some p =>
        obtain ⟨z, m⟩ := p
        rw [hq] at h
        simp only [Option.map_some, Option.some.injEq, Prod.mk.injEq] at h
        obtain ⟨rfl, rfl⟩ := h
        obtain ⟨t, ht, hm⟩ := M.rq_some _ _ _ hq
        have := congrArg List.length ht
        simp only [List.length_append, List.length_cons] at this
        omega
    · simp at h
theorem bareAt_next (l : List UInt8) (k : Nat) (y : List UInt8) (n : Nat) (h : bareAt l k = some (y, n)) : k < n ∧ n ≤ l.length := by
  unfold bareAt at h
  split at h
  · simp at h
  · rename_i h0
    simp only [Option.some.injEq, Prod.mk.injEq] at h
    obtain ⟨_, rfl⟩ := h
    have := bareN_le (l.drop k)
    rw [List.length_drop] at this
    omega
/-- The field that begins at a place, and where it ends. -/
def fieldAt (l : List UInt8) (k : Nat) : Option ((List UInt8 × Bool) × Nat) := match l.drop k with
  | [] => none
  | c :: _ => if c = 34 then (quotedAt l k).map fun p => ((p.1, true), p.2) else (bareAt l k).map fun p => ((p.1, false), p.2)
theorem fieldAt_next (l : List UInt8) (k : Nat) (fd : List UInt8 × Bool) (n : Nat) (h : fieldAt l k = some (fd, n)) : k < n ∧ n ≤ l.length := by
  unfold fieldAt at h
  split at h
  · simp at h
  · split at h
    · cases hq : quotedAt l k with
      | none => rw [hq] at h; simp at h
      | some p =>
        rw [hq] at h
        simp only [Option.map_some, Option.some.injEq, Prod.mk.injEq] at h
        obtain ⟨_, rfl⟩ := h
        exact quotedAt_next l k p.1 p.2 hq
    · cases hq : bareAt l k with
      | none => rw [hq] at h; simp at h
      | some p =>
        rw [hq] at h
        simp only [Option.map_some, Option.some.injEq, Prod.mk.injEq] at h
        obtain ⟨_, rfl⟩ := h
        exact bareAt_next l k p.1 p.2 hq
/-- What is yielded from a place on: fields; none: here is no field, or no space behind it. -/
def yieldsF : Nat → List UInt8 → Nat → List (Option (List UInt8 × Bool))
  | 0, _, _ => []
  | f + 1, l, k => match fieldAt l k with
    | none => [none]
    | some (fd, n) => match l.drop n with
      | [] => [some fd]
      | c :: _ => if c = 32 then some fd :: yieldsF f l (n + 1) else [none]
theorem yieldsF_len (f : Nat) : ∀ (l : List UInt8) (k : Nat), (yieldsF f l k).length ≤ f := by
  induction f with
  | zero => intro l k; simp [yieldsF]
  | succ f ih =>
    intro l k
    simp only [yieldsF]
    cases fieldAt l k with
    | none => simp
    | some p =>
      obtain ⟨fd, n⟩ := p
      simp only
      cases l.drop n with
      | nil => simp
      | cons c r =>
        simp only
        split
        · have := ih l (n + 1)
          simp only [List.length_cons]
          omega
        · simp
theorem yieldsF_more (f : Nat) : ∀ (l : List UInt8) (k : Nat), k ≤ l.length → l.length < k + f → ∀ g, f ≤ g → yieldsF g l k = yieldsF f l k := by
  induction f with
  | zero => intro l k h1 h2; omega
  | succ f ih =>
    intro l k h1 h2 g hg
    obtain ⟨g, rfl⟩ : ∃ g', g = g' + 1 := ⟨g - 1, by omega⟩
    simp only [yieldsF]
    cases hf : fieldAt l k with
    | none => rfl
    | some p =>
      obtain ⟨fd, n⟩ := p
      have hn := fieldAt_next l k fd n hf
      simp only
      cases hd : l.drop n with
      | nil => rfl
      | cons c r =>
        have hl : l.length - n = r.length + 1 := by have := congrArg List.length hd; simpa using this
        simp only
        split
        · rw [ih l (n + 1) (by omega) (by omega) g (by omega)]
        · rfl
/-- What is yielded from a place on. -/
def yields (l : List UInt8) (k : Nat) : List (Option (List UInt8 × Bool)) := yieldsF (l.length + 1) l k
/-- What is yielded behind a field that ends at a place. -/
def after (l : List UInt8) (fd : List UInt8 × Bool) (n : Nat) : List (Option (List UInt8 × Bool)) := match l.drop n with
  | [] => [some fd]
  | c :: _ => if c = 32 then some fd :: yields l (n + 1) else [none]
theorem yields_none (l : List UInt8) (k : Nat) (h : fieldAt l k = none) : yields l k = [none] := by
  unfold yields; simp only [yieldsF]; rw [h]
theorem yields_some (l : List UInt8) (k : Nat) (fd : List UInt8 × Bool) (n : Nat) (h : fieldAt l k = some (fd, n)) : yields l k = after l fd n := by
  have hn := fieldAt_next l k fd n h
  unfold yields after; simp only [yieldsF]; rw [h]
  simp only
  cases hd : l.drop n with
  | nil => rfl
  | cons c r =>
    have hl : l.length - n = r.length + 1 := by have := congrArg List.length hd; simpa using this
    simp only
    split
    · unfold yields
      rw [yieldsF_more l.length l (n + 1) (by omega) (by omega) (l.length + 1) (by omega)]
    · rfl
theorem after_end (l : List UInt8) (fd : List UInt8 × Bool) (n : Nat) (h : l.length ≤ n) : after l fd n = [some fd] := by unfold after; rw [List.drop_of_length_le h]
/-- All that is yielded. -/
def allYields (l : List UInt8) : List (Option (List UInt8 × Bool)) := if l = [] then [] else yields l 0
theorem allYields_len (l : List UInt8) : (allYields l).length ≤ l.length + 1 := by
  unfold allYields
  split
  · simp
  · exact yieldsF_len _ _ _

/-- What a round is handed. -/
def fdV (fd : List UInt8 × Bool) : Value := .agg #[.string ⟨fd.1.toArray⟩, .bool fd.2]
def encs : Option (List UInt8 × Bool) → Array Value
  | some fd => #[.agg #[.string ⟨fd.1.toArray⟩, .bool fd.2], .bool true]
  | none => #[.agg #[.string ⟨#[]⟩, .bool false], .bool false]

theorem fieldAt_bare (s : ByteArray) (k : Nat) (h : ∀ hk : k < s.size, ((s[k].toNat : Int) != 34) = true) : fieldAt (bs s) k = (bareAt (bs s) k).map fun p => ((p.1, false), p.2) := by
  by_cases hk : k < s.size
  · unfold fieldAt
    rw [bs_drop s k hk]
    simp only
    rw [if_neg]
    intro e; have := h hk; rw [e] at this; simp at this
  · unfold fieldAt bareAt
    rw [bs_drop_end s k (by omega)]; rfl
theorem fieldAt_quoted (s : ByteArray) (k : Nat) (hk : k < s.size) (h : ((s[k].toNat : Int) != 34) = false) : fieldAt (bs s) k = (quotedAt (bs s) k).map fun p => ((p.1, true), p.2) := by
  unfold fieldAt
  rw [bs_drop s k hk]
  simp only
  rw [if_pos (show s[k] = 34 from is92 (n := 34) h)]
theorem after_space (s : ByteArray) (fd : List UInt8 × Bool) (k : Nat) (hk : k < s.size) (h : ((s[k].toNat : Int) != 32) = false) : after (bs s) fd k = some fd :: yields (bs s) (k + 1) := by
  unfold after; rw [bs_drop s k hk]; simp only
  rw [if_pos (show s[k] = 32 from is92 (n := 32) h)]
theorem after_none (s : ByteArray) (fd : List UInt8 × Bool) (k : Nat) (hk : k < s.size) (h : ((s[k].toNat : Int) != 32) = true) : after (bs s) fd k = [none] := by
  unfold after; rw [bs_drop s k hk]; simp only
  rw [if_neg]
  intro e; rw [e] at h; simp at h
theorem pre_lt {α : Type} {pre rest all : List α} {x : α} (h : pre ++ x :: rest = all) : pre.length < all.length := by
  rw [← h]; simp
theorem pre_next {α : Type} {pre rest all : List α} {x : α} (h : pre ++ x :: rest = all) : (pre ++ [x]) ++ rest = all := by simpa using h
theorem pre_of {α : Type} {pre rest all : List α} {x : α} (h : pre ++ x :: rest = all) : pre ++ [x] <+: all := ⟨rest, by simpa using h⟩

/-! ### THE ITERATOR'S OWN BLOCK, AND WHAT IT READS -/
def FB (V : World) (p : Nat) (x : ByteArray) (q : Bool) : Prop := V.heap[p]? = some (.cells #[.string x, .bool q] 49 (0, 0))
theorem FB.c0 {V : World} {p : Nat} {x : ByteArray} {q : Bool} (h : FB V p x q) : V.cell? ⟨p, 0, none⟩ = some (.string x) := by simp [World.cell?, show V.heap[p]? = _ from h]
theorem FB.c1 {V : World} {p : Nat} {x : ByteArray} {q : Bool} (h : FB V p x q) : V.cell? ⟨p, 1, none⟩ = some (.bool q) := by simp [World.cell?, show V.heap[p]? = _ from h]
theorem FB.f0 {V : World} {p : Nat} {x : ByteArray} {q : Bool} (h : FB V p x q) : V.frozen? ⟨p, 0, none⟩ = false := by simp [World.frozen?, show V.heap[p]? = _ from h]
theorem FB.f1 {V : World} {p : Nat} {x : ByteArray} {q : Bool} (h : FB V p x q) : V.frozen? ⟨p, 1, none⟩ = false := by simp [World.frozen?, show V.heap[p]? = _ from h]
theorem FB.set0 {V : World} {p : Nat} {x : ByteArray} {q : Bool} (h : FB V p x q) (y : ByteArray) : FB (V.setCell ⟨p, 0, none⟩ (.string y)) p y q := by
  unfold FB at h ⊢; simp [World.setCell, Array.getElem?_modify, h]
theorem FB.set1 {V : World} {p : Nat} {x : ByteArray} {q : Bool} (h : FB V p x q) (r : Bool) : FB (V.setCell ⟨p, 1, none⟩ (.bool r)) p x r := by
  unfold FB at h ⊢; simp [World.setCell, Array.getElem?_modify, h]
theorem FB.new (V : World) : FB (V.alloc (.cells #[.string ⟨#[]⟩, .bool false] 49)) V.heap.size ⟨#[]⟩ false := World.alloc_heap_new V _
theorem FB.same {V V' : World} {p : Nat} {x : ByteArray} {q : Bool} (h : FB V p x q) (e : V'.heap[p]? = V.heap[p]?) : FB V' p x q := e.trans h
theorem FB.lt {V : World} {p : Nat} {x : ByteArray} {q : Bool} (h : FB V p x q) : p < V.heap.size := (Array.getElem?_eq_some_iff.1 h).1
theorem Tab.same {w w' : World} (T : Tab w) (e : w'.heap[3]? = w.heap[3]?) : Tab w' :=
  have h : ∀ i, w'.cell? ⟨3, i, none⟩ = w.cell? ⟨3, i, none⟩ := fun _ => World.cell?_of_block e
  ⟨(h _).trans T.c0, (h _).trans T.c1, (h _).trans T.c2, (h _).trans T.c3, (h _).trans T.c4, (h _).trans T.c5, (h _).trans T.c6, (h _).trans T.c7, (h _).trans T.c8, (h _).trans T.c9⟩
/-- What the iterator reads: the line and the table. -/
structure Rd (Bn : Nat) (s : ByteArray) (p : Nat) (V : World) : Prop where
  line : V.cell? ⟨Bn, 0, none⟩ = some (.string s)
  tab : Tab V
  ne : Bn ≠ p
  hi : 7 ≤ p
  lt : p < V.heap.size
  bn : Bn < p
theorem Rd.turn {Bn : Nat} {s : ByteArray} {p : Nat} {V V' : World} (h : Rd Bn s p V) (hs : V.heap.size ≤ V'.heap.size) (e : ∀ r, r < 7 ∨ r = Bn → V'.heap[r]? = V.heap[r]?) : Rd Bn s p V' :=
  ⟨(World.cell?_of_block (e Bn (.inr rfl))).trans h.line, h.tab.same (e _ (.inl (by decide))), h.ne, h.hi, Nat.lt_of_lt_of_le h.lt hs, h.bn⟩
theorem Rd.below {Bn : Nat} {s : ByteArray} {p : Nat} {V V' : World} (h : Rd Bn s p V) (hb : Below V.heap.size V V') : Rd Bn s p V' :=
  h.turn hb.size fun r hr => hb.block r (by have := h.hi; have := h.lt; have := h.bn; omega)
theorem Rd.set {Bn : Nat} {s : ByteArray} {p : Nat} {V : World} (h : Rd Bn s p V) (i : Nat) (v : Value) : Rd Bn s p (V.setCell ⟨p, i, none⟩ v) :=
  h.turn (by simp [World.setCell]) fun r hr => Below.heap_setCell V _ v r (by have := h.hi; have := h.ne; show r ≠ p; omega)
theorem Rd.kept {Bn : Nat} {s : ByteArray} {p : Nat} {V V' : World} {T : Nat → Prop} (h : Rd Bn s p V) (hk : It.Kept T V V') (hT : ∀ r, r < 7 ∨ r = Bn → T r) : Rd Bn s p V' :=
  h.turn hk.size fun r hr => hk.same r (hT r hr) (by have := h.hi; have := h.lt; have := h.bn; omega)

def mu (size : Nat) (l : Nat) (a : Act) : Nat :=
  if l = 1 then 3 * (size - (intOf (a.tmps.getD 4 undef)).toNat) + 2 else if l = 0 then 3 * (size - (intOf (a.tmps.getD 4 undef)).toNat) + 1 else
    match a.tmps.getD 5 undef with
    | .bool true => 3 * (size - (intOf (a.tmps.getD 4 undef)).toNat) + 3
    | _ => 0

/-- A frame of the iterator: what its first slots hold. -/
structure Fr (l0 Bn : Nat) (W : World) (a : Act) (at_ ok : Value) : Prop where
  d : a.defers = []
  n : a.tmps.size = 65
  s0 : a.tmps.getD 0 undef = .func (.yield l0) #[] #[]
  s1 : a.tmps.getD 1 undef = .pointer (some ⟨Bn, 0, none⟩)
  s3 : a.tmps.getD 3 undef = .pointer (some ⟨W.heap.size, 0, none⟩)
  s4 : a.tmps.getD 4 undef = at_
  s5 : a.tmps.getD 5 undef = ok
theorem arr_list (t : Array Value) : t.toList = (List.range t.size).map (fun i => t.getD i undef) := by
  apply List.ext_getElem
  · simp
  · intro i h1 h2
    simp only [List.getElem_map, List.getElem_range, Array.getElem_toList]
    rw [Array.getD_eq_getD_getElem?, Array.getElem?_eq_getElem (by simpa using h1)]; rfl
theorem range65 (u : Nat → Value) : (List.range 65).map u = [u 0, u 1, u 2, u 3, u 4, u 5, u 6, u 7, u 8, u 9, u 10, u 11, u 12, u 13, u 14, u 15, u 16, u 17, u 18, u 19, u 20, u 21, u 22, u 23, u 24, u 25, u 26, u 27, u 28, u 29, u 30, u 31, u 32, u 33, u 34, u 35, u 36, u 37, u 38, u 39, u 40, u 41, u 42, u 43, u 44, u 45, u 46, u 47, u 48, u 49, u 50, u 51, u 52, u 53, u 54, u 55, u 56, u 57, u 58, u 59, u 60, u 61, u 62, u 63, u 64] := rfl
theorem Fr.lay {l0 Bn : Nat} {W : World} {a : Act} {at_ ok : Value} (h : Fr l0 Bn W a at_ ok) : ∃ u : Nat → Value, a = { tmps := #[.func (.yield l0) #[] #[], .pointer (some ⟨Bn, 0, none⟩), u 2, .pointer (some ⟨W.heap.size, 0, none⟩), at_, ok, u 6, u 7, u 8, u 9, u 10, u 11, u 12, u 13, u 14, u 15, u 16, u 17, u 18, u 19, u 20, u 21, u 22, u 23, u 24, u 25, u 26, u 27, u 28, u 29, u 30, u 31, u 32, u 33, u 34, u 35, u 36, u 37, u 38, u 39, u 40, u 41, u 42, u 43, u 44, u 45, u 46, u 47, u 48, u 49, u 50, u 51, u 52, u 53, u 54, u 55, u 56, u 57, u 58, u 59, u 60, u 61, u 62, u 63, u 64], defers := [] } := by
  obtain ⟨t, d⟩ := a
  obtain ⟨rfl, hn, h0, h1, h3, h4, h5⟩ := h
  refine ⟨fun i => t.getD i undef, ?_⟩
  have e := arr_list t
  rw [show t.size = 65 from hn, range65] at e
  have e2 : t = [t.getD 0 undef, t.getD 1 undef, t.getD 2 undef, t.getD 3 undef, t.getD 4 undef, t.getD 5 undef, t.getD 6 undef, t.getD 7 undef, t.getD 8 undef, t.getD 9 undef, t.getD 10 undef, t.getD 11 undef, t.getD 12 undef, t.getD 13 undef, t.getD 14 undef, t.getD 15 undef, t.getD 16 undef, t.getD 17 undef, t.getD 18 undef, t.getD 19 undef, t.getD 20 undef, t.getD 21 undef, t.getD 22 undef, t.getD 23 undef, t.getD 24 undef, t.getD 25 undef, t.getD 26 undef, t.getD 27 undef, t.getD 28 undef, t.getD 29 undef, t.getD 30 undef, t.getD 31 undef, t.getD 32 undef, t.getD 33 undef, t.getD 34 undef, t.getD 35 undef, t.getD 36 undef, t.getD 37 undef, t.getD 38 undef, t.getD 39 undef, t.getD 40 undef, t.getD 41 undef, t.getD 42 undef, t.getD 43 undef, t.getD 44 undef, t.getD 45 undef, t.getD 46 undef, t.getD 47 undef, t.getD 48 undef, t.getD 49 undef, t.getD 50 undef, t.getD 51 undef, t.getD 52 undef, t.getD 53 undef, t.getD 54 undef, t.getD 55 undef, t.getD 56 undef, t.getD 57 undef, t.getD 58 undef, t.getD 59 undef, t.getD 60 undef, t.getD 61 undef, t.getD 62 undef, t.getD 63 undef, t.getD 64 undef].toArray := by rw [← e]
  rw [show t.getD 0 undef = _ from h0, show t.getD 1 undef = _ from h1, show t.getD 3 undef = _ from h3, show t.getD 4 undef = _ from h4, show t.getD 5 undef = _ from h5] at e2
  exact congrArg (fun x => ({ tmps := x, defers := [] } : Act)) e2
/-- What holds at each label. -/
def At (s : ByteArray) (l0 Bn : Nat) (W : World) (J : List (Option (List UInt8 × Bool)) → World → Prop) (lb : Nat) (a : Act) (V : World) : Prop :=
  ∃ (k : Nat) (pre : List (Option (List UInt8 × Bool))) (x : ByteArray) (q : Bool), Rd Bn s W.heap.size V ∧ FB V W.heap.size x q ∧ J pre V ∧
    ((lb = 1 ∧ (∃ ok, Fr l0 Bn W a (.int .i64 (k : Int)) ok) ∧ k ≤ s.size ∧ Hid (pre ++ yields (bs s) k = allYields (bs s))) ∨
     (lb = 0 ∧ (∃ ok, Fr l0 Bn W a (.int .i64 (k : Int)) ok) ∧ (∃ h : k < s.size, ((s[k].toNat : Int) != 34) = false) ∧ Hid (pre ++ yields (bs s) k = allYields (bs s))) ∨
     (lb = 2 ∧ ∃ b, Fr l0 Bn W a (.int .i64 (k : Int)) (.bool b) ∧ (b = true → k ≤ s.size) ∧ Hid (pre ++ (if b = true then after (bs s) (bs x, q) k else [none]) = allYields (bs s))))

theorem unwide {P : Program} {c : Code} {Q : Exit → Act → World → Prop} {a : Act} {w : World} (n : Nat) (h : c.wpIn Fence.wide n P Q a w) : c.wp P Q a w := wpIn_wide.1 h

set_option maxRecDepth 100000 in
set_option maxHeartbeats 4000000 in
theorem fields1_gives (n l0 Bn : Nat) (s : ByteArray) (hs : s.size ≤ 1000000000) (W : World) (T : Tab W) (hw : 7 ≤ W.heap.size) (hBn : Bn < W.heap.size) (hc : W.cell? ⟨Bn, 0, none⟩ = some (.string s)) :
    It.Gives Tryd.prog n 64 #[.pointer (some ⟨Bn, 0, none⟩)] encs (fun r => r < 7 ∨ r = Bn) 1 (fun xs => xs = allYields (bs s)) (fun pre => pre <+: allYields (bs s)) (allYields (bs s)).length l0 W := by
  intro J Jx hJ hJx hY h0
  have mine : ∀ r, r = W.heap.size → W.heap.size ≤ r ∧ r < W.heap.size + 1 := fun r hr => by omega
  refine callsIn_of_wp Tryd.func64 rfl trivial ?_ rfl
  simp only [Tryd.ntmps64, List.size_toArray, List.length_cons, List.length_nil, Nat.reduceAdd, Nat.reduceSub, Array.replicate_succ, Array.replicate_zero, List.push_toArray, List.append_toArray, List.nil_append, List.cons_append]
  refine wpIn_wide.2 (It.wp_scope_ind (At s l0 Bn W J) (fun lb a _ => mu s.size lb a) ?pass ?first)
  case first =>
    intro hgo
    refine unwide n ?_
    by_cases he : s.size = 0
    · have e1 := toList_nil s he
      have hfin : allYields (bs s) = [] := by unfold allYields; rw [if_pos (List.eq_nil_of_length_eq_zero (by rw [bs_len]; exact he))]
      have HF := Lib.hid hfin
      clear hfin hgo
      gi_wp2
      refine It.jumps_ret ?_
      refine bodyPost_ret (results_none rfl _ _ _) rfl ?_
      exact ⟨⟨_, rfl⟩, .inl (by rw [HF.out]; exact hJ.alloc h0 _)⟩
    · have e1 := toList_ne s (by omega)
      have e2 := toList_isEmpty_no s (by omega)
      have hfin : allYields (bs s) = yields (bs s) 0 := by
        unfold allYields; rw [if_neg]
        intro e; have := congrArg List.length e; rw [bs_len] at this; exact he this
      have HF := Lib.hid hfin
      have HG := Lib.hid hgo
      clear hfin hgo
      gi_wp2
      refine wpIn_label ?_
      simp only [Exit.then]
      gi_step
      refine wpIn_wide.2 ?_
      refine HG.out 1 _ _ _ rfl ?_
      refine ⟨0, [], ⟨#[]⟩, false, ?_, FB.new W, hJ.alloc h0 _, .inl ⟨rfl, ⟨.bool false, ?_⟩, Nat.zero_le _, HF.out.symm⟩⟩
      rotate_left
      · exact ⟨rfl, rfl, rfl, rfl, rfl, rfl, rfl⟩
      exact ⟨(World.cell?_alloc_lt W _ ⟨Bn, 0, none⟩ hBn).trans hc, T.below ((Below.refl W.heap.size W).alloc (Nat.le_refl _) _) (by omega), by omega, hw, by simp, hBn⟩
  case pass =>
    rintro lb a V ⟨k, pre, x, q, hR, hF, hJp, (⟨rfl, ⟨ok, hfr⟩, hk, HY⟩ | ⟨rfl, ⟨ok, hfr⟩, ⟨hk, h34⟩, HY⟩ | ⟨rfl, b, hfr, hkb, HY⟩)⟩ ih
    · -- LABEL next: does a quote stand here?
      obtain ⟨u, rfl⟩ := hfr.lay
      refine ⟨_, rfl, unwide n ?_⟩
      clear ih
      have hline := hR.line
      have c1 := hF.c1
      have g1 := hF.f1
      by_cases hq : ∃ hlt : k < s.size, ((s[k].toNat : Int) != 34) = false
      · obtain ⟨hlt, h34⟩ := hq
        have h34' : ((s[k].toNat : Int) == 34) = true := by simpa using h34
        have HQ := Lib.hid h34
        clear h34
        gi_wp2_with fail
        refine wpIn_goto ?_
        simp only [Exit.then]
        refine It.jumps_goto ⟨⟨k, pre, x, q, hR, hF, hJp, .inr (.inl ⟨rfl, ⟨ok, ?_⟩, ⟨hlt, HQ.out⟩, HY⟩)⟩, ?_⟩
        · exact ⟨rfl, rfl, rfl, rfl, rfl, rfl, rfl⟩
        · simp [mu]
      · have hall : ∀ hk : k < s.size, ((s[k].toNat : Int) != 34) = true := fun hk => by
          cases h : ((s[k].toNat : Int) != 34) with
          | true => rfl
          | false => exact (hq ⟨hk, h⟩).elim
        have hfld := fieldAt_bare s k hall
        have HF1 : FB (V.setCell ⟨W.heap.size, 1, none⟩ (.bool false)) W.heap.size x false := hF.set1 false
        have HR1 : Rd Bn s W.heap.size (V.setCell ⟨W.heap.size, 1, none⟩ (.bool false)) := hR.set 1 _
        have HJ1 : J pre (V.setCell ⟨W.heap.size, 1, none⟩ (.bool false)) := hJ.set hJp (mine _ rfl) _
        have HCL := Lib.hid (readBare_any s k (V.setCell ⟨W.heap.size, 1, none⟩ (.bool false)) hs hk)
        have HALL := Lib.hid hall
        have HFL := Lib.hid hfld
        clear hall hfld hq
        have hcond : k < s.size → ∃ hlt : k < s.size, ((s[k].toNat : Int) == 34) = false := fun hlt => ⟨hlt, by have := HALL.out hlt; simpa using this⟩
        cases hb : bareAt (bs s) k with
        | none =>
          have hyn : yields (bs s) k = [none] := yields_none _ _ (by rw [HFL.out, hb]; rfl)
          have HY2 : Hid (pre ++ [none] = allYields (bs s)) := by have := HY.out; rw [hyn] at this; exact this
          have HB := Lib.hid hb
          clear hb hyn
          by_cases hlt : k < s.size
          · obtain ⟨_, h34'⟩ := hcond hlt
            clear hcond
            gi_wp2_with fail
            refine ⟨trivial, fun h => by simp [Fence.wide] at h, (callsIn_wide.2 HCL.out).mono ?_⟩
            rintro e V2 ⟨rfl, hbl⟩
            simp only [HB.out, rdV]
            have HF2 : FB V2 W.heap.size x false := HF1.same (hbl.block _ HF1.lt)
            have d0 := HF2.c0
            have e0 := HF2.f0
            gi_wp2_with fail
            refine wpIn_goto ?_
            simp only [Exit.then]
            refine It.jumps_goto ⟨⟨0, pre, ⟨#[]⟩, false, (HR1.below hbl).set 0 _, HF2.set0 _, hJ.set (hJ.below HJ1 hbl) (mine _ rfl) _, .inr (.inr ⟨rfl, false, ?_, (fun h => by cases h), HY2⟩)⟩, ?_⟩
            · exact ⟨rfl, rfl, rfl, rfl, rfl, rfl, rfl⟩
            · simp [mu]
          · clear hcond
            gi_wp2_with fail
            refine ⟨trivial, fun h => by simp [Fence.wide] at h, (callsIn_wide.2 HCL.out).mono ?_⟩
            rintro e V2 ⟨rfl, hbl⟩
            simp only [HB.out, rdV]
            have HF2 : FB V2 W.heap.size x false := HF1.same (hbl.block _ HF1.lt)
            have d0 := HF2.c0
            have e0 := HF2.f0
            gi_wp2_with fail
            refine wpIn_goto ?_
            simp only [Exit.then]
            refine It.jumps_goto ⟨⟨0, pre, ⟨#[]⟩, false, (HR1.below hbl).set 0 _, HF2.set0 _, hJ.set (hJ.below HJ1 hbl) (mine _ rfl) _, .inr (.inr ⟨rfl, false, ?_, (fun h => by cases h), HY2⟩)⟩, ?_⟩
            · exact ⟨rfl, rfl, rfl, rfl, rfl, rfl, rfl⟩
            · simp [mu]
        | some p =>
          obtain ⟨y, m⟩ := p
          have hfs : fieldAt (bs s) k = some ((y, false), m) := by rw [HFL.out, hb]; rfl
          have hnx := fieldAt_next _ _ _ _ hfs
          rw [bs_len] at hnx
          have HY2 : Hid (pre ++ after (bs s) (bs ⟨y.toArray⟩, false) m = allYields (bs s)) := by have := HY.out; rw [yields_some _ _ _ _ hfs] at this; exact this
          have HB := Lib.hid hb
          clear hb hfs
          have hlt : k < s.size := by omega
          obtain ⟨_, h34'⟩ := hcond hlt
          clear hcond
          gi_wp2_with fail
          refine ⟨trivial, fun h => by simp [Fence.wide] at h, (callsIn_wide.2 HCL.out).mono ?_⟩
          rintro e V2 ⟨rfl, hbl⟩
          simp only [HB.out, rdV]
          have HF2 : FB V2 W.heap.size x false := HF1.same (hbl.block _ HF1.lt)
          have d0 := HF2.c0
          have e0 := HF2.f0
          gi_wp2_with fail
          refine wpIn_goto ?_
          simp only [Exit.then]
          refine It.jumps_goto ⟨⟨m, pre, ⟨y.toArray⟩, false, (HR1.below hbl).set 0 _, HF2.set0 _, hJ.set (hJ.below HJ1 hbl) (mine _ rfl) _, .inr (.inr ⟨rfl, true, ?_, fun _ => hnx.2, HY2⟩)⟩, ?_⟩
          · exact ⟨rfl, rfl, rfl, rfl, rfl, rfl, rfl⟩
          · simp [mu, intOf]; omega
    · -- LABEL quoted
      obtain ⟨u, rfl⟩ := hfr.lay
      refine ⟨_, rfl, unwide n ?_⟩
      have hline := hR.line
      have c1 := hF.c1
      have g1 := hF.f1
      have hfld := fieldAt_quoted s k hk h34
      have HF1 : FB (V.setCell ⟨W.heap.size, 1, none⟩ (.bool true)) W.heap.size x true := hF.set1 true
      have HR1 : Rd Bn s W.heap.size (V.setCell ⟨W.heap.size, 1, none⟩ (.bool true)) := hR.set 1 _
      have HJ1 : J pre (V.setCell ⟨W.heap.size, 1, none⟩ (.bool true)) := hJ.set hJp (mine _ rfl) _
      have HCL := Lib.hid (readQuoted_any s k (V.setCell ⟨W.heap.size, 1, none⟩ (.bool true)) hs (by omega) HR1.tab (by have := HR1.lt; omega))
      have HFL := Lib.hid hfld
      have IH := Lib.hid ih
      clear hfld ih h34
      cases hb : quotedAt (bs s) k with
      | none =>
        have hyn : yields (bs s) k = [none] := yields_none _ _ (by rw [HFL.out, hb]; rfl)
        have HY2 : Hid (pre ++ [none] = allYields (bs s)) := by have := HY.out; rw [hyn] at this; exact this
        have HB := Lib.hid hb
        clear hb hyn
        gi_wp2_with fail
        refine ⟨trivial, fun h => by simp [Fence.wide] at h, (callsIn_wide.2 HCL.out).mono ?_⟩
        rintro e V2 ⟨rfl, hbl⟩
        simp only [HB.out, rdV]
        have HF2 : FB V2 W.heap.size x true := HF1.same (hbl.block _ HF1.lt)
        have d0 := HF2.c0
        have e0 := HF2.f0
        gi_wp2_with fail
        refine wpIn_label ?_
        simp only [Exit.then]
        gi_step
        refine wpIn_wide.2 (IH.out 2 _ _ _ rfl ⟨0, pre, ⟨#[]⟩, true, (HR1.below hbl).set 0 _, HF2.set0 _, hJ.set (hJ.below HJ1 hbl) (mine _ rfl) _, .inr (.inr ⟨rfl, false, ?_, (fun h => by cases h), HY2⟩)⟩ ?_)
        · exact ⟨rfl, rfl, rfl, rfl, rfl, rfl, rfl⟩
        · simp [mu]
      | some p =>
        obtain ⟨y, m⟩ := p
        have hfs : fieldAt (bs s) k = some ((y, true), m) := by rw [HFL.out, hb]; rfl
        have hnx := fieldAt_next _ _ _ _ hfs
        rw [bs_len] at hnx
        have HY2 : Hid (pre ++ after (bs s) (bs ⟨y.toArray⟩, true) m = allYields (bs s)) := by have := HY.out; rw [yields_some _ _ _ _ hfs] at this; exact this
        have HB := Lib.hid hb
        clear hb hfs
        gi_wp2_with fail
        refine ⟨trivial, fun h => by simp [Fence.wide] at h, (callsIn_wide.2 HCL.out).mono ?_⟩
        rintro e V2 ⟨rfl, hbl⟩
        simp only [HB.out, rdV]
        have HF2 : FB V2 W.heap.size x true := HF1.same (hbl.block _ HF1.lt)
        have d0 := HF2.c0
        have e0 := HF2.f0
        gi_wp2_with fail
        refine wpIn_label ?_
        simp only [Exit.then]
        gi_step
        refine wpIn_wide.2 (IH.out 2 _ _ _ rfl ⟨m, pre, ⟨y.toArray⟩, true, (HR1.below hbl).set 0 _, HF2.set0 _, hJ.set (hJ.below HJ1 hbl) (mine _ rfl) _, .inr (.inr ⟨rfl, true, ?_, fun _ => hnx.2, HY2⟩)⟩ ?_)
        · exact ⟨rfl, rfl, rfl, rfl, rfl, rfl, rfl⟩
        · simp [mu, intOf]; omega
    · -- LABEL end
      obtain ⟨u, rfl⟩ := hfr.lay
      refine ⟨_, rfl, unwide n ?_⟩
      clear ih
      have hline := hR.line
      have c0 := hF.c0
      have c1 := hF.c1
      cases b with
      | false =>
        have HA : pre ++ none :: [] = allYields (bs s) := HY.out
        obtain ⟨fn, tmps, assign, body, hy, hRd⟩ := hY pre none V hJp (pre_lt HA) (by have := hR.lt; omega)
        simp only [encs] at hy
        have H2 := Lib.hid HA
        have HRD := Lib.hid hRd
        clear HA hY hRd
        gi_wp2_with fail
        refine ⟨(fun h => by simp [Fence.wide] at h), HRD.out.mono ?_⟩
        rintro e W3 (⟨rfl, hJ3, hk3⟩ | ⟨rfl, hJx3⟩)
        · gi_wp2_with fail
          refine It.jumps_ret ?_
          refine bodyPost_ret (results_none rfl _ _ _) rfl ?_
          exact ⟨⟨_, rfl⟩, .inl (by rw [← H2.out]; exact hJ3)⟩
        · gi_wp2_with fail
          refine It.jumps_ret ?_
          refine bodyPost_ret (results_none rfl _ _ _) rfl ?_
          exact ⟨⟨_, rfl⟩, .inr ⟨_, pre_of H2.out, hJx3⟩⟩
      | true =>
        have hk := hkb rfl
        have HA : pre ++ after (bs s) (bs x, q) k = allYields (bs s) := HY.out
        clear hkb HY
        by_cases hend : k = s.size
        · rw [after_end _ _ _ (by rw [bs_len]; omega)] at HA
          obtain ⟨fn, tmps, assign, body, hy, hRd⟩ := hY pre (some (bs x, q)) V hJp (pre_lt HA) (by have := hR.lt; omega)
          simp only [encs, mk_bs] at hy
          have H2 := Lib.hid HA
          have HRD := Lib.hid hRd
          subst hend
          clear HA hY hRd
          gi_wp2_with fail
          refine ⟨(fun h => by simp [Fence.wide] at h), HRD.out.mono ?_⟩
          rintro e W3 (⟨rfl, hJ3, hk3⟩ | ⟨rfl, hJx3⟩)
          · have hline3 := (hR.kept hk3 (fun r hr => .inl hr)).line
            gi_wp2_with fail
            refine It.jumps_ret ?_
            refine bodyPost_ret (results_none rfl _ _ _) rfl ?_
            exact ⟨⟨_, rfl⟩, .inl (by rw [← H2.out]; exact hJ3)⟩
          · gi_wp2_with fail
            refine It.jumps_ret ?_
            refine bodyPost_ret (results_none rfl _ _ _) rfl ?_
            exact ⟨⟨_, rfl⟩, .inr ⟨_, pre_of H2.out, hJx3⟩⟩
        · have hlt : k < s.size := by omega
          cases h32 : ((s[k].toNat : Int) != 32) with
          | true =>
            rw [after_none s _ k hlt h32] at HA
            obtain ⟨fn, tmps, assign, body, hy, hRd⟩ := hY pre none V hJp (pre_lt HA) (by have := hR.lt; omega)
            simp only [encs] at hy
            have H2 := Lib.hid HA
            have HRD := Lib.hid hRd
            clear HA hY hRd hend
            gi_wp2_with fail
            refine ⟨(fun h => by simp [Fence.wide] at h), HRD.out.mono ?_⟩
            rintro e W3 (⟨rfl, hJ3, hk3⟩ | ⟨rfl, hJx3⟩)
            · gi_wp2_with fail
              refine It.jumps_ret ?_
              refine bodyPost_ret (results_none rfl _ _ _) rfl ?_
              exact ⟨⟨_, rfl⟩, .inl (by rw [← H2.out]; exact hJ3)⟩
            · gi_wp2_with fail
              refine It.jumps_ret ?_
              refine bodyPost_ret (results_none rfl _ _ _) rfl ?_
              exact ⟨⟨_, rfl⟩, .inr ⟨_, pre_of H2.out, hJx3⟩⟩
          | false =>
            rw [after_space s _ k hlt h32] at HA
            obtain ⟨fn, tmps, assign, body, hy, hRd⟩ := hY pre (some (bs x, q)) V hJp (pre_lt HA) (by have := hR.lt; omega)
            simp only [encs, mk_bs] at hy
            have H2 := Lib.hid HA
            have HRD := Lib.hid hRd
            have hne : ((k : Int) == (s.size : Int)) = false := by rw [beq_eq_false_iff_ne]; omega
            clear HA hY hRd hend
            gi_wp2_with fail
            refine ⟨(fun h => by simp [Fence.wide] at h), HRD.out.mono ?_⟩
            rintro e W3 (⟨rfl, hJ3, hk3⟩ | ⟨rfl, hJx3⟩)
            · have hR3 := hR.kept hk3 (fun r hr => .inl hr)
              have hF3 : FB W3 W.heap.size x q := hF.same (hk3.same _ (.inr ⟨Nat.le_refl _, by omega⟩) hF.lt)
              have hline3 := hR3.line
              gi_wp2_with fail
              refine wpIn_goto ?_
              refine It.jumps_goto ⟨⟨k + 1, pre ++ [some (bs x, q)], x, q, hR3, hF3, hJ3, .inl ⟨rfl, ⟨.bool true, ?_⟩, by omega, pre_next H2.out⟩⟩, ?_⟩
              · exact ⟨rfl, rfl, rfl, rfl, rfl, rfl, rfl⟩
              · simp [mu, intOf]; omega
            · gi_wp2_with fail
              refine It.jumps_ret ?_
              refine bodyPost_ret (results_none rfl _ _ _) rfl ?_
              exact ⟨⟨_, rfl⟩, .inr ⟨_, pre_of H2.out, hJx3⟩⟩
end Go.Proofs.YtdkaogcimecfiaaDoor
