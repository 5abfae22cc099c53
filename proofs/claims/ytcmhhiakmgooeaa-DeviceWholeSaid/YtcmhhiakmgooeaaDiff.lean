/- The contract of Diff: the numbers of the sectors that read differently. Condition: two devices in memory. -/
import Derived.Test.YtcmhhiakmgooeaaNums
namespace Go.Proofs.Ytcmhhiakmgooeaa
open Go.RowKit Go.Maps

/-- The sectors below k that read differently. -/
def diffL (s o : Dv.S) (k : Nat) : List Nat := (List.range k).filter fun n => !decide (Dv.reads s n = Dv.reads o n)
theorem diffL_succ (s o : Dv.S) (k : Nat) : diffL s o (k + 1) = if Dv.reads s k = Dv.reads o k then diffL s o k else diffL s o k ++ [k] := by
  unfold diffL
  rw [List.range_succ, List.filter_append]
  by_cases h : Dv.reads s k = Dv.reads o k
  · simp [h]
  · simp [h]
theorem diffL_len (s o : Dv.S) (k : Nat) : (diffL s o k).length ≤ k := by
  unfold diffL
  have := List.length_filter_le (fun n => !decide (Dv.reads s n = Dv.reads o n)) (List.range k)
  rwa [List.length_range] at this
set_option maxRecDepth 100000 in
set_option maxHeartbeats 2000000 in
theorem diff_form {w : World} {b b' g g' c c' m m' : Nat} {cv cv' : Value} {s o : Dv.S} (M : DevR w b g c cv m s) (N : DevR w b' g' c' cv' m' o) (h : s.st.length ≠ o.st.length) :
    Calls Try.prog 20 #[.pointer (some ⟨b, 0, none⟩), .pointer (some ⟨b', 0, none⟩)] w fun e w' => e = .returned (.tuple #[.slice none 0 0, .int .i64 6]) ∧ w = w' := by
  have H1 := Lib.hid (isMade_any M)
  have H2 := Lib.hid (isMade_any N)
  have H3 := Lib.hid (sectors_any M)
  have H4 := Lib.hid (sectors_any N)
  have hd : ((s.st.length : Int) != (o.st.length : Int)) = true := by rw [bne_iff_ne]; omega
  clear M N h
  go_enter Try.func20, Try.ntmps20
  go_wp2_with fail
  refine H1.out.mono ?_
  rintro e w' ⟨rfl, rfl⟩
  go_wp2_with fail
  refine H2.out.mono ?_
  rintro e w' ⟨rfl, rfl⟩
  go_wp2_with fail
  refine H3.out.mono ?_
  rintro e w' ⟨rfl, rfl⟩
  go_wp2_with fail
  refine H4.out.mono ?_
  rintro e w' ⟨rfl, rfl⟩
  go_wp2_with fail
  go_ret2
  exact ⟨rfl, rfl⟩
set_option maxRecDepth 100000 in
set_option maxHeartbeats 4000000 in
theorem diff_ok {w : World} {b b' g g' c c' m m' : Nat} {cv cv' : Value} {s o : Dv.S} (M : DevR w b g c cv m s) (N : DevR w b' g' c' cv' m' o) (h : s.st.length = o.st.length) :
    Calls Try.prog 20 #[.pointer (some ⟨b, 0, none⟩), .pointer (some ⟨b', 0, none⟩)] w fun e w' => (∃ v, e = .returned (.tuple #[v, .int .i64 0]) ∧ OK w' w.heap.size v (diffL s o s.st.length)) ∧ Below w.heap.size w w' := by
  have H1 := Lib.hid (isMade_any M)
  have H2 := Lib.hid (isMade_any N)
  have H3 := Lib.hid (sectors_any M)
  have H4 := Lib.hid (sectors_any N)
  rw [← h] at H4
  have HM := Lib.hid M
  have HN := Lib.hid N
  have HH := Lib.hid h
  have hhi := M.ok.hi
  clear M N h
  go_enter Try.func20, Try.ntmps20
  go_wp2_with fail
  refine H1.out.mono ?_
  rintro e w' ⟨rfl, rfl⟩
  go_wp2_with fail
  refine H2.out.mono ?_
  rintro e w' ⟨rfl, rfl⟩
  go_wp2_with fail
  refine H3.out.mono ?_
  rintro e w' ⟨rfl, rfl⟩
  go_wp2_with fail
  refine H4.out.mono ?_
  rintro e w' ⟨rfl, rfl⟩
  go_wp2_with fail
  refine H3.out.mono ?_
  rintro e w' ⟨rfl, rfl⟩
  go_wp2_with fail
  go_loopw [6, 25] (fun r i wr => ∃ k : Nat, k ≤ s.st.length ∧ i = .int .i64 k ∧ Hid (OK wr w.heap.size r (diffL s o k)) ∧ Hid (Below w.heap.size w wr)) (fun _ i _ => s.st.length - (intOf i).toNat)
  case atStart => exact ⟨0, by omega, rfl, World.ownsRow_nil _ _ _ _, Below.refl _ _⟩
  case round =>
    obtain ⟨k, hk, rfl, HK, HB⟩ := hrel
    by_cases hlt : k < s.st.length
    · have hltI : (k : Int) < (s.st.length : Int) := by omega
      have HA1 := Lib.hid (at_any (HM.out.below HB.out) k hlt)
      have hsu := diffL_succ s o k
      have HLEN : Hid ((diffL s o k).length ≤ 1000000) := Nat.le_trans (diffL_len s o k) (by omega)
      obtain ⟨x, hx⟩ : ∃ x, x = Dv.reads s k := ⟨_, rfl⟩
      obtain ⟨y, hy⟩ : ∃ y, y = Dv.reads o k := ⟨_, rfl⟩
      have HA2 : Hid (∀ W, Below wr.heap.size wr W → Calls Try.prog 46 #[.pointer (some ⟨b', 0, none⟩), .int .i64 (k : Int)] W fun e w' => e = .returned (.agg (secC y).toArray) ∧ Below W.heap.size W w') := fun W hW => by
        rw [hy]; exact at_any ((HN.out.below HB.out).below hW) k (by have := HH.out; omega)
      rw [← hx] at HA1
      rw [← hx, ← hy] at hsu
      have HSU := Lib.hid hsu
      have hvx : secV x = .agg (secC x).toArray := rfl
      have hne : ∀ w, (binOp .neq 58 (.agg (secC x).toArray) (.agg (secC y).toArray)).run Try.prog w = .ok (.bool (!decide (x = y))) w := fun w => neq_sec x y w
      obtain ⟨KA, kc, rfl⟩ := HK.out.form
      clear hsu hx hy
      go_wp2_with fail
      refine HA1.out.mono ?_
      rintro e w1 ⟨rfl, hb1⟩
      have HB1 := Lib.hid hb1
      rw [hvx]
      clear hb1
      go_wp2_with fail
      refine (HA2.out w1 HB1.out).mono ?_
      rintro e w2 ⟨rfl, hb2⟩
      have HB2 : Hid (Below wr.heap.size wr w2) := HB1.out.trans (hb2.mono HB1.out.size)
      have HBW : Hid (Below w.heap.size w w2) := HB.out.trans (HB2.out.mono HB.out.size)
      have HK2 : Hid (OK w2 w.heap.size (.slice KA (diffL s o k).length kc) (diffL s o k)) := World.ownsRow.kept HK.out (grown_below HB2.out none) (by cases hv : (Value.slice KA (diffL s o k).length kc).ownBlock with | none => exact .inl rfl | some b => exact .inr (by simp))
      have hws := HBW.out.size
      clear hb2
      by_cases hxy : x = y
      · have hd : decide (x = y) = true := decide_eq_true hxy
        rw [hd] at hne
        have HS2 : Hid (diffL s o (k + 1) = diffL s o k) := by show diffL s o (k + 1) = _; rw [HSU.out, if_pos hxy]
        clear hxy hd
        go_wp2_with fail
        go_roundw
        case rel => exact ⟨k + 1, by omega, by go_num, by rw [HS2.out]; exact HK2.out, HBW.out⟩
        case measure => simp [intOf]; omega
      · have hd : decide (x = y) = false := decide_eq_false hxy
        rw [hd] at hne
        have HS2 : Hid (diffL s o (k + 1) = diffL s o k ++ [k]) := by show diffL s o (k + 1) = _; rw [HSU.out, if_neg hxy]
        clear hxy hd
        go_wp2_with (at_builtin; refine wpList_append_k rfl _ _ rfl w.heap.size _ (diffL s o k) rfl (World.ownsRow.alloc HK2.out _) k w2.heap.size rfl ((Blk.new w2 _ _).cell 0 rfl) HLEN.out (by simp; omega) ?_; intro v8 w8 hc8 hg8 hl8)
        have HK8 : Hid (OK w8 w.heap.size v8 (diffL s o (k + 1))) := by rw [HS2.out]; exact hc8
        have HB8 : Hid (Below w.heap.size w w8) := (HBW.out.alloc hws _).grown hg8 (by simp; omega) hl8
        clear hc8 hg8 hl8
        go_wp2_with fail
        go_roundw
        case rel => exact ⟨k + 1, by omega, by go_num, HK8.out, HB8.out⟩
        case measure => simp [intOf]; omega
    · obtain rfl : k = s.st.length := by omega
      have hltI : ¬ ((s.st.length : Int) < (s.st.length : Int)) := by omega
      go_wp2_with fail
      go_ret2
      exact ⟨⟨_, rfl, HK.out⟩, HB.out⟩
end Go.Proofs.Ytcmhhiakmgooeaa
