/- The contracts of a device's methods, by its blocks. Condition: a device in memory. -/
import Derived.Test.YtcmhhiakmgooeaaWriteP
import Derived.Test.YtcmhhiakmgooeaaWriteF
import Derived.Test.YtcmhhiakmgooeaaNew
import Derived.Test.YtcmhhiakmgooeaaFill
import Derived.Test.YtcmhhiakmgooeaaCrash
namespace Go.Proofs.Ytcmhhiakmgooeaa
open Go.RowKit Go.Maps

section
variable {w : World} {b : Nat} {F : List Nat} {s : Dv.S}
/-- A device behind a call: its blocks are its old ones, or new ones. -/
def After (w w' : World) (b : Nat) (F : List Nat) (s' : Dv.S) : Prop := ∃ F', DevAt w' b F' s' ∧ Fr w w' F ∧ ∀ i ∈ F', i ∈ F ∨ w.heap.size ≤ i
theorem After.of_R {w' : World} {g m c' : Nat} {cv cv' : Value} {s' : Dv.S} {G : List Nat} (hd : DevR w' b g c' cv' m s') (hf : Fr w w' G) (hG : ∀ i ∈ G, i ∈ foot b g cv m) (hc : ∀ i ∈ foot b g cv' m, i ∈ foot b g cv m ∨ w.heap.size ≤ i) : After w w' b (foot b g cv m) s' :=
  ⟨_, ⟨g, c', cv', m, hd, rfl⟩, ⟨hf.os, hf.tape, hf.output, hf.size, fun i hi hn => hf.block i hi (fun h => hn (hG i h))⟩, hc⟩
theorem foot_nil {g m : Nat} {cv : Value} : ∀ i ∈ foot b g (.slice none 0 0) m, i ∈ foot b g cv m ∨ w.heap.size ≤ i := fun i hi => by
  rcases foot_mem.1 hi with h | h | h | h
  · exact .inl (foot_mem.2 (.inl h))
  · exact .inl (foot_mem.2 (.inr (.inl h)))
  · exact .inl (foot_mem.2 (.inr (.inr (.inl h))))
  · cases h
theorem foot_bgm {g m : Nat} {cv : Value} : ∀ i ∈ [b, g, m], i ∈ foot b g cv m := fun i hi => by
  simp at hi
  rcases hi with rfl | rfl | rfl <;> simp [foot]
/-- The error of a write, and the state behind it. -/
noncomputable def wrE (s : Dv.S) (n : Int) : Int := if secE s n = 0 then (if Dv.spent s then 13 else 0) else secE s n
noncomputable def wrS (s : Dv.S) (n : Int) (x : Dv.Sec) : Dv.S := if secE s n = 0 then Dv.writeS s n.toNat x else s
theorem write_dev (M : DevAt w b F s) (n : Int) (x : Dv.Sec) :
    Calls Try.prog 24 #[.pointer (some ⟨b, 0, none⟩), .int .i64 n, secV x] w fun e w' => e = .returned (.int .i64 (wrE s n)) ∧ After w w' b F (wrS s n x) := by
  obtain ⟨g, c, cv, m, M, rfl⟩ := M
  by_cases h0 : secE s n = 0
  · obtain ⟨hoff, k, rfl, hk⟩ := secE_zero h0
    unfold wrE wrS Dv.writeS
    rw [if_pos h0, if_pos h0]
    by_cases hsp : Dv.spent s = true
    · rw [if_pos hsp, if_pos hsp]
      refine (write_spent M k x hk hoff hsp).mono ?_
      rintro e w' ⟨rfl, hd, hf⟩
      exact ⟨rfl, After.of_R hd hf (fun i hi => by obtain rfl := List.mem_singleton.1 hi; simp [foot]) (fun i hi => .inl hi)⟩
    · have hsp2 : Dv.spent s = false := by simpa using hsp
      rw [if_neg hsp, if_neg hsp]
      by_cases hfull : s.ca.length = 400
      · refine (write_full M k x hk hoff hsp2 hfull).mono ?_
        rintro e w' ⟨rfl, cv', hd, hf, hn⟩
        exact ⟨rfl, After.of_R hd hf (fun i hi => hi) hn⟩
      · refine (write_part M k x hk hoff hsp2 hfull).mono ?_
        rintro e w' ⟨rfl, cv', hd, hf, hn⟩
        exact ⟨rfl, After.of_R hd hf (fun i hi => hi) hn⟩
  · unfold wrE wrS
    rw [if_neg h0, if_neg h0]
    refine (write_bad M n x h0).mono ?_
    rintro e w' ⟨rfl, hb⟩
    exact ⟨rfl, After.of_R (M.below hb) (Fr.of_below hb []) (fun i hi => by cases hi) (fun i hi => .inl hi)⟩
theorem read_dev (M : DevAt w b F s) (n : Int) :
    Calls Try.prog 28 #[.pointer (some ⟨b, 0, none⟩), .int .i64 n] w fun e w' => e = .returned (.tuple #[secV (rdS s n), .int .i64 (secE s n)]) ∧ Below w.heap.size w w' := by
  obtain ⟨g, c, cv, m, M, rfl⟩ := M
  exact read_any M n
theorem pending_dev (M : DevAt w b F s) :
    Calls Try.prog 27 #[.pointer (some ⟨b, 0, none⟩)] w fun e w' => e = .returned (.int .i64 (s.ca.length : Int)) ∧ w = w' := by
  obtain ⟨g, c, cv, m, M, rfl⟩ := M
  exact pending_any M
theorem taken_dev (M : DevAt w b F s) :
    Calls Try.prog 26 #[.pointer (some ⟨b, 0, none⟩)] w fun e w' => e = .returned (.int .i64 (s.tk : Int)) ∧ w = w' := by
  obtain ⟨g, c, cv, m, M, rfl⟩ := M
  exact taken_any M
theorem on_dev (M : DevAt w b F s) :
    Calls Try.prog 25 #[.pointer (some ⟨b, 0, none⟩)] w fun e w' => e = .returned (.bool !s.off) ∧ w = w' := by
  obtain ⟨g, c, cv, m, M, rfl⟩ := M
  exact on_any M
theorem sectors_dev (M : DevAt w b F s) :
    Calls Try.prog 30 #[.pointer (some ⟨b, 0, none⟩)] w fun e w' => e = .returned (.int .i64 (s.st.length : Int)) ∧ w = w' := by
  obtain ⟨g, c, cv, m, M, rfl⟩ := M
  exact sectors_any M
theorem flush_dev (M : DevAt w b F s) :
    Calls Try.prog 19 #[.pointer (some ⟨b, 0, none⟩)] w fun e w' => e = .returned (.int .i64 (if s.off then 13 else 0)) ∧ After w w' b F (if s.off then s else Dv.flush s) := by
  obtain ⟨g, c, cv, m, M, rfl⟩ := M
  cases ho : s.off
  · refine (flush_any M ho).mono ?_
    rintro e w' ⟨rfl, hd, hf⟩
    exact ⟨rfl, After.of_R hd hf foot_bgm foot_nil⟩
  · refine (flush_off M ho).mono ?_
    rintro e w' ⟨rfl, rfl⟩
    exact ⟨rfl, After.of_R M (Fr.refl w []) (fun i hi => by cases hi) (fun i hi => .inl hi)⟩
/-- The error of a limit, and the state behind it. -/
noncomputable def liE (n : Int) : Int := if -1 ≤ n ∧ n ≤ 1000000000000 then 0 else 7
theorem limit_dev (M : DevAt w b F s) (n : Int) :
    Calls Try.prog 22 #[.pointer (some ⟨b, 0, none⟩), .int .i64 n] w fun e w' => e = .returned (.int .i64 (liE n)) ∧ After w w' b F (if -1 ≤ n ∧ n ≤ 1000000000000 then { s with pw := n } else s) := by
  obtain ⟨g, c, cv, m, M, rfl⟩ := M
  unfold liE
  by_cases h : -1 ≤ n ∧ n ≤ 1000000000000
  · rw [if_pos h, if_pos h]
    refine (limit_ok M n h.1 h.2).mono ?_
    rintro e w' ⟨rfl, hd, hf⟩
    exact ⟨rfl, After.of_R hd hf (fun i hi => by obtain rfl := List.mem_singleton.1 hi; simp [foot]) (fun i hi => .inl hi)⟩
  · rw [if_neg h, if_neg h]
    refine (limit_bad M n h).mono ?_
    rintro e w' ⟨rfl, rfl⟩
    exact ⟨rfl, After.of_R M (Fr.refl w []) (fun i hi => by cases hi) (fun i hi => .inl hi)⟩
theorem crash_dev (M : DevAt w b F s) (v : Value) (l : List Int) (hv : SL encI w w.heap.size v l) (hn : l.length ≤ 1000000) :
    Calls Try.prog 21 #[.pointer (some ⟨b, 0, none⟩), v] w fun e w' => e = .returned (.int .i64 (keepE s.ca.length l)) ∧ After w w' b F (if keepE s.ca.length l = 0 then crashS s l else s) := by
  obtain ⟨g, c, cv, m, M, rfl⟩ := M
  by_cases h : keepE s.ca.length l = 0
  · rw [if_pos h, h]
    refine (crash_ok M v l hv hn h).mono ?_
    rintro e w' ⟨rfl, hd, hf⟩
    exact ⟨rfl, After.of_R hd hf foot_bgm foot_nil⟩
  · rw [if_neg h]
    refine (crash_bad M v l hv hn h).mono ?_
    rintro e w' ⟨rfl, k, rfl⟩
    exact ⟨rfl, After.of_R (M.drewN k) ((Fr.refl w []).drewN k) (fun i hi => by cases hi) (fun i hi => .inl hi)⟩
theorem After.refl (M : DevAt w b F s) : After w w b F s := ⟨F, M, Fr.refl w F, fun _ hi => .inl hi⟩
theorem After.below {w' : World} (M : DevAt w b F s) (hb : Below w.heap.size w w') : After w w' b F s := ⟨F, M.below hb, Fr.of_below hb F, fun _ hi => .inl hi⟩
theorem After.trans {w1 w2 : World} {F1 : List Nat} {s1 : Dv.S} (h : ∀ i ∈ F1, i ∈ F ∨ w.heap.size ≤ i) (hf : Fr w w1 F) (k : After w1 w2 b F1 s1) : After w w2 b F s1 := by
  obtain ⟨F2, hd, hf2, hn⟩ := k
  refine ⟨F2, hd, hf.trans hf2 h, fun i hi => ?_⟩
  rcases hn i hi with h2 | h2
  · exact h i h2
  · exact .inr (Nat.le_trans hf.size h2)
end
end Go.Proofs.Ytcmhhiakmgooeaa
