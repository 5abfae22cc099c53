/- A device of the call's own, and boxes of sectors beside it. Condition: the device was made since the world w0. -/
import Derived.Test.YtcmhhiakmgooeaaDev
import Derived.Test.YtcmhhiakmgooeaaEql
namespace Go.Proofs.Ytcmhhiakmgooeaa
open Go.RowKit Go.Maps

/-- A device that was made since w0. -/
structure Own (w0 w : World) (b : Nat) (F : List Nat) (s : Dv.S) : Prop where
  dev : DevAt w b F s
  bel : Below w0.heap.size w0 w
  new : ∀ i ∈ F, w0.heap.size ≤ i
/-- A box that holds a sector, beside the device. -/
structure Box (w : World) (F : List Nat) (p : Nat) (x : Dv.Sec) : Prop where
  blk : Blk w p (secC x).toArray 58
  out : p ∉ F
section
variable {w0 w w' : World} {b p : Nat} {F F' : List Nat} {s s' : Dv.S} {x : Dv.Sec}
theorem Own.below (h : Own w0 w b F s) (hb : Below w.heap.size w w') : Own w0 w' b F s :=
  ⟨h.dev.below hb, h.bel.trans (hb.mono h.bel.size), h.new⟩
theorem Own.drewN (h : Own w0 w b F s) (k : Nat) : Own w0 (w.drewN k) b F s := h.below (below_drewN (Below.refl _ _) k)
theorem Own.alloc (h : Own w0 w b F s) (o : Obj) : Own w0 (w.alloc o) b F s := h.below ((Below.refl _ _).alloc (Nat.le_refl _) o)
theorem Own.after (h : Own w0 w b F s) (hd : DevAt w' b F' s') (hf : Fr w w' F) (hn : ∀ i ∈ F', i ∈ F ∨ w.heap.size ≤ i) : Own w0 w' b F' s' :=
  ⟨hd, hf.below h.bel h.bel.size h.new, fun i hi => by rcases hn i hi with h1 | h1; exact h.new i h1; exact Nat.le_trans h.bel.size h1⟩
theorem Box.below (h : Box w F p x) (hb : Below w.heap.size w w') : Box w' F p x := ⟨h.blk.below hb h.blk.lt, h.out⟩
theorem Box.after (h : Box w F p x) (hf : Fr w w' F) (hn : ∀ i ∈ F', i ∈ F ∨ w.heap.size ≤ i) : Box w' F' p x :=
  ⟨hf.blk h.blk h.out, fun hm => by rcases hn p hm with h1 | h1; exact h.out h1; have := h.blk.lt; omega⟩
theorem Box.drewN (h : Box w F p x) (k : Nat) : Box (w.drewN k) F p x := ⟨h.blk, h.out⟩
theorem box_new {z : Dv.Sec} (h : DevAt w b F s) (hb : Blk w' w.heap.size (secC x).toArray 58) (hg : (w.alloc (.cells (secC z).toArray 58)).grownBy w' (some w.heap.size)) : Box w' F w.heap.size x ∧ Below w.heap.size w w' :=
  ⟨⟨hb, fun hm => by have := h.lt hm; omega⟩, ((Below.refl _ _).alloc (Nat.le_refl _) _).grown hg (by simp) (fun k hk => by cases hk; exact Nat.le_refl _)⟩
theorem Box.range (h : Box w F p x) : w.rangeAt p 0 (secC x) := Blk.range h.blk
end
/-- A device of 64 sectors, never off. -/
def sAw (st : List Dv.Sec) (l : List Dv.Wr) (tk : Nat) : Dv.S := ⟨st, l, tk, -1, false⟩
theorem new_aw (n : Nat) : Dv.new n = sAw (List.replicate n Dv.zeroS) [] 0 := rfl
theorem secE_aw {st : List Dv.Sec} {l : List Dv.Wr} {tk n : Nat} (h : n < st.length) : secE (sAw st l tk) (n : Int) = 0 := secE_ok rfl h
theorem spent_aw {st : List Dv.Sec} {l : List Dv.Wr} {tk : Nat} (ht : tk < 1000000000000) : Dv.spent (sAw st l tk) = false := by
  unfold Dv.spent
  rw [Bool.or_eq_false_iff]
  exact ⟨decide_eq_false (by show ¬ (-1 : Int) = 0; omega), decide_eq_false (by show ¬ tk = 1000000000000; omega)⟩
theorem wrE_aw {st : List Dv.Sec} {l : List Dv.Wr} {tk n : Nat} (h : n < st.length) (ht : tk < 1000000000000) : wrE (sAw st l tk) (n : Int) = 0 := by
  unfold wrE
  rw [if_pos (secE_aw h), spent_aw ht, if_neg (by simp)]
theorem wrS_aw {st : List Dv.Sec} {l : List Dv.Wr} {tk n : Nat} (x : Dv.Sec) (h : n < st.length) (hl : l.length < 400) (ht : tk < 1000000000000) : wrS (sAw st l tk) (n : Int) x = sAw st (l ++ [(n, x)]) (tk + 1) := by
  unfold wrS
  rw [if_pos (secE_aw h)]
  unfold Dv.writeS
  rw [spent_aw ht, if_neg (by simp)]
  unfold Dv.added
  have : (sAw st l tk).ca.length ≠ 400 := by show l.length ≠ 400; omega
  simp only [this, if_false]
  rfl
theorem rdS_aw {st : List Dv.Sec} {l : List Dv.Wr} {tk n : Nat} (h : n < st.length) : rdS (sAw st l tk) (n : Int) = Dv.readF (st.getD n Dv.zeroS) n l := rdS_ok rfl h
theorem crash_aw {st : List Dv.Sec} {ca : List Dv.Wr} {tk : Nat} (l : List Int) : crashS (sAw st ca tk) l = sAw (Dv.put st (keptW ca l)) [] tk := rfl
theorem flush_aw {st : List Dv.Sec} {ca : List Dv.Wr} {tk : Nat} : Dv.flush (sAw st ca tk) = sAw (Dv.put st ca) [] tk := rfl
section
variable {w0 w : World} {b : Nat} {F : List Nat} {st : List Dv.Sec} {l : List Dv.Wr} {tk : Nat}
theorem wr_step (O : Own w0 w b F (sAw st l tk)) (i : Int) (n : Nat) (x : Dv.Sec) (hi : i = (n : Int)) (hn : n < st.length) (hl : l.length < 400) (ht : tk < 1000000000000) :
    Calls Try.prog 24 #[.pointer (some ⟨b, 0, none⟩), .int .i64 i, secV x] w fun e w' => e = .returned (.int .i64 0) ∧ ∃ F', Own w0 w' b F' (sAw st (l ++ [(n, x)]) (tk + 1)) ∧ Fr w w' F ∧ ∀ i ∈ F', i ∈ F ∨ w.heap.size ≤ i := by
  subst hi
  refine (write_dev O.dev (n : Int) x).mono ?_
  rintro e w' ⟨rfl, F', hd, hf, hm⟩
  rw [wrS_aw x hn hl ht] at hd
  rw [wrE_aw hn ht]
  exact ⟨rfl, F', O.after hd hf hm, hf, hm⟩
theorem rd_step (O : Own w0 w b F (sAw st l tk)) (i : Int) (n : Nat) (x : Dv.Sec) (hi : i = (n : Int)) (hn : n < st.length) (hx : Dv.readF (st.getD n Dv.zeroS) n l = x) :
    Calls Try.prog 28 #[.pointer (some ⟨b, 0, none⟩), .int .i64 i] w fun e w' => e = .returned (.tuple #[secV x, .int .i64 0]) ∧ Below w.heap.size w w' := by
  subst hi
  refine (read_dev O.dev (n : Int)).mono ?_
  rintro e w' ⟨rfl, hb⟩
  rw [rdS_aw hn, secE_aw hn, hx]
  exact ⟨rfl, hb⟩
theorem cr_step (O : Own w0 w b F (sAw st l tk)) (v : Value) (k : List Int) (hv : SL encI w w.heap.size v k) (hn : k.length ≤ 1000000) (hk : keepE l.length k = 0) :
    Calls Try.prog 21 #[.pointer (some ⟨b, 0, none⟩), v] w fun e w' => e = .returned (.int .i64 0) ∧ ∃ F', Own w0 w' b F' (sAw (Dv.put st (keptW l k)) [] tk) ∧ Fr w w' F ∧ ∀ i ∈ F', i ∈ F ∨ w.heap.size ≤ i := by
  refine (crash_dev O.dev v k hv hn).mono ?_
  rintro e w' ⟨rfl, F', hd, hf, hm⟩
  rw [show (sAw st l tk).ca = l from rfl, if_pos hk, crash_aw] at hd
  rw [show (sAw st l tk).ca = l from rfl, hk]
  exact ⟨rfl, F', O.after hd hf hm, hf, hm⟩
theorem fl_step (O : Own w0 w b F (sAw st l tk)) :
    Calls Try.prog 19 #[.pointer (some ⟨b, 0, none⟩)] w fun e w' => e = .returned (.int .i64 0) ∧ ∃ F', Own w0 w' b F' (sAw (Dv.put st l) [] tk) ∧ Fr w w' F ∧ ∀ i ∈ F', i ∈ F ∨ w.heap.size ≤ i := by
  refine (flush_dev O.dev).mono ?_
  rintro e w' ⟨rfl, F', hd, hf, hm⟩
  exact ⟨rfl, F', O.after hd hf hm, hf, hm⟩
theorem new_step (w : World) (n : Nat) (i : Int) (hi : i = (n : Int)) (h0 : 64 ≤ n) (h1 : n ≤ 256) :
    Calls Try.prog 10 #[.int .i64 i] w fun e w' => ∃ b F, e = .returned (.tuple #[.pointer (some ⟨b, 0, none⟩), .int .i64 0]) ∧ Own w w' b F (sAw (List.replicate n Dv.zeroS) [] 0) := by
  subst hi
  refine (new_ok w n h0 h1).mono ?_
  rintro e w' ⟨b, F, rfl, hd, hb, hn⟩
  exact ⟨b, F, rfl, hd, hb, hn⟩
end
end Go.Proofs.Ytcmhhiakmgooeaa
