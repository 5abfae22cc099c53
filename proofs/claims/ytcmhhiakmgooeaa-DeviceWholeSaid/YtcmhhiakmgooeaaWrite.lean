/- The contract of Write. Condition: a device in memory. -/
import Derived.Test.YtcmhhiakmgooeaaBuilt
namespace Go.Proofs.Ytcmhhiakmgooeaa
open Go.RowKit Go.Maps

set_option maxRecDepth 100000 in
set_option maxHeartbeats 1000000 in
theorem write_bad {w : World} {b g c m : Nat} {cv : Value} {s : Dv.S} (M : DevR w b g c cv m s) (n : Int) (x : Dv.Sec) (hn : secE s n ≠ 0) :
    Calls Try.prog 24 #[.pointer (some ⟨b, 0, none⟩), .int .i64 n, secV x] w fun e w' => e = .returned (.int .i64 (secE s n)) ∧ Below w.heap.size w w' := by
  have HB0 : Hid (Below w.heap.size w (w.alloc (.cells (secC x).toArray 58))) := (Below.refl _ _).alloc (Nat.le_refl _) _
  have HC := Lib.hid (checkSector_any (M.below HB0.out) n)
  obtain ⟨r, hr⟩ : ∃ r, r = secE s n := ⟨_, rfl⟩
  rw [← hr] at HC hn ⊢
  have hd : (r != 0) = true := by rw [bne_iff_ne]; exact hn
  have hvx : secV x = .agg (secC x).toArray := rfl
  rw [hvx]
  clear hr M hn hvx
  go_enter Try.func24, Try.ntmps24
  go_wp2_with fail
  refine HC.out.mono ?_
  rintro e w' ⟨rfl, rfl⟩
  go_wp2_with fail
  go_ret
  exact ⟨rfl, HB0.out⟩
set_option maxRecDepth 100000 in
set_option maxHeartbeats 1000000 in
theorem write_spent {w : World} {b g c m : Nat} {cv : Value} {s : Dv.S} (M : DevR w b g c cv m s) (n : Nat) (x : Dv.Sec) (hn : n < s.st.length) (hoff : s.off = false) (hsp : Dv.spent s = true) :
    Calls Try.prog 24 #[.pointer (some ⟨b, 0, none⟩), .int .i64 (n : Int), secV x] w fun e w' => e = .returned (.int .i64 13) ∧ DevR w' b g c cv m { s with off := true } ∧ Fr w w' [b] := by
  have HB0 : Hid (Below w.heap.size w (w.alloc (.cells (secC x).toArray 58))) := (Below.refl _ _).alloc (Nat.le_refl _) _
  have M1 := M.below HB0.out
  have HC := Lib.hid (checkSector_any M1 (n : Int))
  rw [secE_ok hoff hn] at HC
  have h3 := M1.c3
  have h4 := M1.c4
  have h5 := M1.c5
  have hz := M1.blk.free 5
  have HM1 := Lib.hid M1
  have hvx : secV x = .agg (secC x).toArray := rfl
  rw [hvx]
  have hfin : Hid (DevR ((w.alloc (.cells (secC x).toArray 58)).setCell ⟨b, 5, none⟩ (.bool true)) b g c cv m { s with off := true } ∧ Fr w ((w.alloc (.cells (secC x).toArray 58)).setCell ⟨b, 5, none⟩ (.bool true)) [b]) :=
    ⟨M1.set (s' := { s with off := true }) rfl rfl rfl ⟨M.ok.lo, M.ok.hi, M.ok.ca, M.ok.at_, M.ok.tk, M.ok.pw0, M.ok.pw1⟩, (Fr.of_below HB0.out [b]).trans (Fr.of_grown (F := [b]) (grown_setCell _ b 5 (.bool true)) (by simp)) (by simp)⟩
  have hok := M.ok
  unfold Dv.spent at hsp
  by_cases hp : s.pw = 0
  · rw [hp] at h4
    clear hsp hp hok M M1 hvx hoff
    go_enter Try.func24, Try.ntmps24
    go_wp2_with fail
    refine HC.out.mono ?_
    rintro e w' ⟨rfl, rfl⟩
    go_wp2_with fail
    go_ret
    exact ⟨rfl, hfin.out⟩
  · have htk : s.tk = 1000000000000 := by simpa [hp] using hsp
    have hd0 : (s.pw == 0) = false := by rw [beq_eq_false_iff_ne]; exact hp
    rw [htk] at h3
    clear hsp hp hok M M1 hvx hoff htk
    go_enter Try.func24, Try.ntmps24
    go_wp2_with fail
    refine HC.out.mono ?_
    rintro e w' ⟨rfl, rfl⟩
    go_wp2_with fail
    go_ret
    exact ⟨rfl, hfin.out⟩
/-- A wider frame. -/
theorem fr_cons {w w' : World} {F G : List Nat} (h : Fr w w' F) (hs : ∀ i ∈ F, i ∈ G) : Fr w w' G := ⟨h.os, h.tape, h.output, h.size, fun i hi hn => h.block i hi (fun hm => hn (hs i hm))⟩
end Go.Proofs.Ytcmhhiakmgooeaa
