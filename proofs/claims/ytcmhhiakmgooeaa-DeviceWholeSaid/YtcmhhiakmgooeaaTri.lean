/- Three devices of the call's own; a list of all numbers below n. Condition: the devices' blocks are apart. -/
import Derived.Test.YtcmhhiakmgooeaaMine
namespace Go.Proofs.Ytcmhhiakmgooeaa
open Go.RowKit Go.Maps

/-- Three devices that were made since w0, apart from each other. -/
def Tri (w0 w : World) (b1 : Nat) (s1 : Dv.S) (b2 : Nat) (s2 : Dv.S) (b3 : Nat) (s3 : Dv.S) : Prop :=
  ∃ F1 F2 F3, Own w0 w b1 F1 s1 ∧ Own w0 w b2 F2 s2 ∧ Own w0 w b3 F3 s3 ∧ (∀ i ∈ F1, i ∉ F2) ∧ (∀ i ∈ F1, i ∉ F3) ∧ (∀ i ∈ F2, i ∉ F3)
section
variable {w0 w w' : World} {b1 b2 b3 : Nat} {s1 s2 s3 : Dv.S} {st : List Dv.Sec} {ca : List Dv.Wr} {tk : Nat}
theorem Tri.rot (h : Tri w0 w b1 s1 b2 s2 b3 s3) : Tri w0 w b2 s2 b3 s3 b1 s1 := by
  obtain ⟨F1, F2, F3, O1, O2, O3, h12, h13, h23⟩ := h
  exact ⟨F2, F3, F1, O2, O3, O1, h23, fun i h2 h1 => h12 i h1 h2, fun i h3 h1 => h13 i h1 h3⟩
theorem Tri.below (h : Tri w0 w b1 s1 b2 s2 b3 s3) (hb : Below w.heap.size w w') : Tri w0 w' b1 s1 b2 s2 b3 s3 := by
  obtain ⟨F1, F2, F3, O1, O2, O3, h12, h13, h23⟩ := h
  exact ⟨F1, F2, F3, O1.below hb, O2.below hb, O3.below hb, h12, h13, h23⟩
theorem Tri.bel (h : Tri w0 w b1 s1 b2 s2 b3 s3) : Below w0.heap.size w0 w := by
  obtain ⟨F1, F2, F3, O1, _⟩ := h; exact O1.bel
theorem Tri.dev (h : Tri w0 w b1 s1 b2 s2 b3 s3) : ∃ F, DevAt w b1 F s1 := by
  obtain ⟨F1, F2, F3, O1, _⟩ := h; exact ⟨F1, O1.dev⟩
/-- Another block that no device has. -/
theorem Tri.fr {G : List Nat} (h : Tri w0 w b1 s1 b2 s2 b3 s3) (hf : Fr w w' G) (hG : ∀ i ∈ G, w0.heap.size ≤ i) (hn : ∀ b F s, DevAt w b F s → ∀ i ∈ F, i ∉ G) : Tri w0 w' b1 s1 b2 s2 b3 s3 := by
  obtain ⟨F1, F2, F3, O1, O2, O3, h12, h13, h23⟩ := h
  exact ⟨F1, F2, F3, O1.other hf hG (hn _ _ _ O1.dev), O2.other hf hG (hn _ _ _ O2.dev), O3.other hf hG (hn _ _ _ O3.dev), h12, h13, h23⟩
/-- A call of the first one. -/
theorem Tri.step {P : Program} {f : FuncId} {xs : Array Value} {Q : Ending → Prop} {s : Dv.S} (h : Tri w0 w b1 s1 b2 s2 b3 s3)
    (hc : ∀ F, Own w0 w b1 F s1 → Calls P f xs w fun e w' => Q e ∧ ∃ F', Own w0 w' b1 F' s ∧ Fr w w' F ∧ ∀ i ∈ F', i ∈ F ∨ w.heap.size ≤ i) :
    Calls P f xs w fun e w' => Q e ∧ Tri w0 w' b1 s b2 s2 b3 s3 := by
  obtain ⟨F1, F2, F3, O1, O2, O3, h12, h13, h23⟩ := h
  refine (hc F1 O1).mono ?_
  rintro e w' ⟨hq, F', ho, hf, hn⟩
  have n2 : ∀ i ∈ F2, i ∉ F1 := fun i h2 h1 => h12 i h1 h2
  have n3 : ∀ i ∈ F3, i ∉ F1 := fun i h3 h1 => h13 i h1 h3
  exact ⟨hq, F', F2, F3, ho, O2.other hf O1.new n2, O3.other hf O1.new n3, fun i h1 h2 => apart_after O2.lt n2 hn i h2 h1, fun i h1 h3 => apart_after O3.lt n3 hn i h3 h1, h23⟩
theorem Tri.put (h : Tri w0 w b1 (sAw st ca tk) b2 s2 b3 s3) (v : Value) (l : List Pt) (hv : PL w0 v l) (hs : st.length = 64) (hc : ca = []) (hn : l.length < 400) (ht : tk + l.length < 1000000000000) {S1 : List Dv.Sec} {C1 : List Dv.Wr} {t1 : Nat} (hp : putL (st, []) l = (S1, C1)) (ht1 : tk + l.length = t1) :
    Calls Try.prog 18 #[.pointer (some ⟨b1, 0, none⟩), v] w fun e w' => e = .returned (.bool true) ∧ Tri w0 w' b1 (sAw S1 C1 t1) b2 s2 b3 s3 :=
  h.step (Q := fun e => e = .returned (.bool true)) fun F O => by
    subst hc ht1
    have h := put_any w0 w b1 F st [] tk O v l hv hs (by simpa using hn) ht
    rw [hp] at h; exact h
theorem Tri.flush (h : Tri w0 w b1 (sAw st ca tk) b2 s2 b3 s3) {S1 : List Dv.Sec} (hp : Dv.put st ca = S1) :
    Calls Try.prog 19 #[.pointer (some ⟨b1, 0, none⟩)] w fun e w' => e = .returned (.int .i64 0) ∧ Tri w0 w' b1 (sAw S1 [] tk) b2 s2 b3 s3 :=
  h.step (Q := fun e => e = .returned (.int .i64 0)) fun F O => by subst hp; exact fl_step O
theorem Tri.crash (h : Tri w0 w b1 (sAw st ca tk) b2 s2 b3 s3) (v : Value) (k : List Int) (hv : SL encI w w.heap.size v k) (hn : k.length ≤ 1000000) (hk : keepE ca.length k = 0) {S1 : List Dv.Sec} (hp : Dv.put st (keptW ca k) = S1) :
    Calls Try.prog 21 #[.pointer (some ⟨b1, 0, none⟩), v] w fun e w' => e = .returned (.int .i64 0) ∧ Tri w0 w' b1 (sAw S1 [] tk) b2 s2 b3 s3 :=
  h.step (Q := fun e => e = .returned (.int .i64 0)) fun F O => by subst hp; exact cr_step O v k hv hn hk
theorem Own.base {w1 : World} {b : Nat} {F : List Nat} {s : Dv.S} (h : Own w1 w b F s) (hb : Below w0.heap.size w0 w1) : Own w0 w b F s :=
  ⟨h.dev, hb.trans (h.bel.mono hb.size), fun i hi => Nat.le_trans hb.size (h.new i hi)⟩
theorem Tri.make {w1 w2 w3 : World} {F1 F2 F3 : List Nat} (O1 : Own w0 w1 b1 F1 s1) (O2 : Own w1 w2 b2 F2 s2) (O3 : Own w2 w3 b3 F3 s3) : Tri w0 w3 b1 s1 b2 s2 b3 s3 := by
  have h12 := apart_new O1.lt O2.new
  have A1 := O1.below O2.bel
  have h13 := apart_new A1.lt O3.new
  have h23 := apart_new O2.lt O3.new
  exact ⟨F1, F2, F3, A1.below O3.bel, (O2.below O3.bel).base O1.bel, O3.base A1.bel, h12, h13, h23⟩
/-- The first two read alike: no difference. -/
theorem Tri.diff (h : Tri w0 w b1 s1 b2 s2 b3 s3) (hl : s1.st.length = s2.st.length) (hr : ∀ n, n < s1.st.length → Dv.reads s1 n = Dv.reads s2 n) :
    Calls Try.prog 20 #[.pointer (some ⟨b1, 0, none⟩), .pointer (some ⟨b2, 0, none⟩)] w fun e w' => (∃ A c, e = .returned (.tuple #[.slice A 0 c, .int .i64 0])) ∧ Below w.heap.size w w' := by
  obtain ⟨F1, F2, F3, O1, O2, _⟩ := h
  exact diff_same O1.dev O2.dev hl hr
end
/-- All numbers below n, of which the first k are laid. -/
def upTo (n k : Nat) : List Value := (List.range k).map (fun (j : Nat) => Value.int .i64 (j : Int)) ++ List.replicate (n - k) (.int .i64 0)
theorem upTo_len (n k : Nat) (h : k ≤ n) : (upTo n k).length = n := by simp [upTo]; omega
theorem upTo_set (n k : Nat) (h : k < n) : (upTo n k).set k (.int .i64 (k : Int)) = upTo n (k + 1) := by
  unfold upTo
  rw [List.set_append_right _ _ (by simp), List.length_map, List.length_range, Nat.sub_self, show n - k = (n - (k + 1)) + 1 by omega, List.replicate_succ, List.set_cons_zero, List.range_succ, List.map_append, List.append_assoc]
  rfl
/-- A row of numbers of which the first k are laid. -/
def UpTo (w : World) (base : Nat) (v : Value) (n k : Nat) : Prop := w.ownsRow base 3 1 v n (upTo n k)
theorem UpTo.all {w : World} {base : Nat} {v : Value} {n : Nat} (h : UpTo w base v n n) : OK w base v (List.range n) := by
  unfold UpTo upTo at h
  unfold OK
  rw [Nat.sub_self] at h
  rw [List.length_range]
  simpa using h
theorem UpTo.set {w : World} {base g n c k : Nat} (h : UpTo w base (.slice (some ⟨g, 0, none⟩) n c) n k) (hk : k < n) : UpTo (w.setCell ⟨g, k, none⟩ (.int .i64 (k : Int))) base (.slice (some ⟨g, 0, none⟩) n c) n (k + 1) := by
  have := (World.ownsRow.stored h k (.int .i64 (k : Int))).1
  rw [upTo_set n k hk] at this
  exact this
theorem UpTo.cell {w : World} {base g n c k : Nat} (h : UpTo w base (.slice (some ⟨g, 0, none⟩) n c) n k) (hk : k < n) : w.cell? ⟨g, k, none⟩ = some (.int .i64 0) ∧ w.frozen? ⟨g, k, none⟩ = false := by
  refine ⟨?_, World.ownsRow.frozenAt h _⟩
  rw [World.ownsRow.cellAt h k (by omega)]
  unfold upTo
  rw [List.getElem?_append_right (by simp), List.length_map, List.length_range, Nat.sub_self, show n - k = (n - (k + 1)) + 1 by omega, List.replicate_succ]
  rfl
theorem up_range (n : Nat) : Up (List.range n) n := by
  induction n with
  | zero => exact Up.nil 0
  | succ n ih => rw [List.range_succ]; exact ih.snoc
theorem keep_all (ca : List Dv.Wr) : keptW ca ((List.range ca.length).map fun (j : Nat) => (j : Int)) = ca := by
  unfold keptW
  rw [List.map_map]
  apply List.ext_getElem
  · simp
  · intro i h1 h2
    simp [List.getD_eq_getElem?_getD, h2]
theorem UpTo.keepE {w : World} {base : Nat} {v : Value} (n : Nat) (_ : UpTo w base v n n) : keepE n ((List.range n).map fun (j : Nat) => (j : Int)) = 0 := (up_range n).keep
end Go.Proofs.Ytcmhhiakmgooeaa
