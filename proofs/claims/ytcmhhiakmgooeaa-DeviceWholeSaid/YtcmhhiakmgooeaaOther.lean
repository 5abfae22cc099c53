/- Several devices of the call's own: a method of one leaves the others; equal reads make no difference. Condition: the devices' blocks are apart. -/
import Derived.Test.YtcmhhiakmgooeaaDiff
import Derived.Test.YtcmhhiakmgooeaaPut
namespace Go.Proofs.Ytcmhhiakmgooeaa
open Go.RowKit Go.Maps

section
variable {w0 w w' : World} {b p : Nat} {F G G' : List Nat} {s : Dv.S} {x : Dv.Sec}
/-- Another device's method: this one stays, and the blocks stay apart. -/
theorem Own.other (h : Own w0 w b F s) (hf : Fr w w' G) (hG : ∀ i ∈ G, w0.heap.size ≤ i) (hn : ∀ i ∈ F, i ∉ G) : Own w0 w' b F s :=
  ⟨h.dev.fr hf hn, hf.below h.bel h.bel.size hG, h.new⟩
theorem apart_after (hF : ∀ i ∈ F, i < w.heap.size) (hn : ∀ i ∈ F, i ∉ G) (hG : ∀ i ∈ G', i ∈ G ∨ w.heap.size ≤ i) : ∀ i ∈ F, i ∉ G' := fun i hi hm => by
  rcases hG i hm with h | h
  · exact hn i hi h
  · have := hF i hi; omega
theorem Own.lt (h : Own w0 w b F s) : ∀ i ∈ F, i < w.heap.size := fun _ hi => h.dev.lt hi
/-- A new device is apart from those that were there. -/
theorem apart_new (hF : ∀ i ∈ F, i < w.heap.size) (hG : ∀ i ∈ G, w.heap.size ≤ i) : ∀ i ∈ F, i ∉ G := fun i hi hm => by
  have := hF i hi; have := hG i hm; omega
end
theorem diffL_nil {s o : Dv.S} {k : Nat} (h : ∀ n, n < k → Dv.reads s n = Dv.reads o n) : diffL s o k = [] := by
  unfold diffL
  rw [List.filter_eq_nil_iff]
  intro n hn
  simp [h n (List.mem_range.1 hn)]
theorem diff_dev {w : World} {b b' : Nat} {F F' : List Nat} {s o : Dv.S} (M : DevAt w b F s) (N : DevAt w b' F' o) (h : s.st.length = o.st.length) :
    Calls Try.prog 20 #[.pointer (some ⟨b, 0, none⟩), .pointer (some ⟨b', 0, none⟩)] w fun e w' => (∃ v, e = .returned (.tuple #[v, .int .i64 0]) ∧ OK w' w.heap.size v (diffL s o s.st.length)) ∧ Below w.heap.size w w' := by
  obtain ⟨g, c, cv, m, M, rfl⟩ := M
  obtain ⟨g', c', cv', m', N, rfl⟩ := N
  exact diff_ok M N h
/-- Two devices that read alike: no difference. -/
theorem diff_same {w : World} {b b' : Nat} {F F' : List Nat} {s o : Dv.S} (M : DevAt w b F s) (N : DevAt w b' F' o) (h : s.st.length = o.st.length) (hr : ∀ n, n < s.st.length → Dv.reads s n = Dv.reads o n) :
    Calls Try.prog 20 #[.pointer (some ⟨b, 0, none⟩), .pointer (some ⟨b', 0, none⟩)] w fun e w' => (∃ A c, e = .returned (.tuple #[.slice A 0 c, .int .i64 0])) ∧ Below w.heap.size w w' := by
  refine (diff_dev M N h).mono ?_
  rintro e w' ⟨⟨v, rfl, hv⟩, hb⟩
  rw [diffL_nil hr] at hv
  obtain ⟨A, c, rfl⟩ := hv.form
  exact ⟨⟨A, c, rfl⟩, hb⟩
end Go.Proofs.Ytcmhhiakmgooeaa
