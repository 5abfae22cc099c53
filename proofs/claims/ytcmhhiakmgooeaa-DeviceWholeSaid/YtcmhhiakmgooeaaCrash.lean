/- The contracts of Flush, Limit and Crash. Condition: a device in memory. -/
import Derived.Test.YtcmhhiakmgooeaaBuilt
import Derived.Test.YtcmhhiakmgooeaaKeep
namespace Go.Proofs.Ytcmhhiakmgooeaa
open Go.RowKit Go.Maps

set_option maxRecDepth 100000 in
set_option maxHeartbeats 1000000 in
theorem flush_any {w : World} {b g c m : Nat} {cv : Value} {s : Dv.S} (M : DevR w b g c cv m s) (hoff : s.off = false) :
    Calls Try.prog 19 #[.pointer (some ⟨b, 0, none⟩)] w fun e w' => e = .returned (.int .i64 0) ∧ DevR w' b g c (.slice none 0 0) m (Dv.flush s) ∧ Fr w w' [b, g, m] := by
  have HC := Lib.hid (checkOn_any M)
  rw [hoff] at HC
  obtain ⟨A, cc, rfl⟩ := M.cch.cv.form
  have h2 := M.c2
  have hca := M.ok.ca
  have HS := Lib.hid (settle_any M _ s.ca M.cch.cv M.ok.at_ (by omega))
  clear hoff M
  simp only [Bool.false_eq_true, if_false] at HC
  go_enter Try.func19, Try.ntmps19
  go_wp2_with fail
  refine HC.out.mono ?_
  rintro e w' ⟨rfl, rfl⟩
  go_wp2_with fail
  refine HS.out.mono ?_
  rintro e w1 ⟨rfl, hd, hf⟩
  have HD := Lib.hid hd
  have HF := Lib.hid hf
  clear hd hf
  go_wp2_with fail
  go_ret
  exact ⟨rfl, HD.out, HF.out⟩
theorem flush_off {w : World} {b g c m : Nat} {cv : Value} {s : Dv.S} (M : DevR w b g c cv m s) (hoff : s.off = true) :
    Calls Try.prog 19 #[.pointer (some ⟨b, 0, none⟩)] w fun e w' => e = .returned (.int .i64 13) ∧ w = w' := by
  have HC := Lib.hid (checkOn_any M)
  rw [hoff] at HC
  clear hoff M
  simp only [if_true] at HC
  go_enter Try.func19, Try.ntmps19
  go_wp2_with fail
  refine HC.out.mono ?_
  rintro e w' ⟨rfl, rfl⟩
  go_wp2_with fail
  go_ret
  exact ⟨rfl, rfl⟩
theorem limit_ok {w : World} {b g c m : Nat} {cv : Value} {s : Dv.S} (M : DevR w b g c cv m s) (n : Int) (h0 : -1 ≤ n) (h1 : n ≤ 1000000000000) :
    Calls Try.prog 22 #[.pointer (some ⟨b, 0, none⟩), .int .i64 n] w fun e w' => e = .returned (.int .i64 0) ∧ DevR w' b g c cv m { s with pw := n } ∧ Fr w w' [b] := by
  have HC := Lib.hid (isMade_any M)
  have HP := Lib.hid (isPower_any w n)
  rw [decide_eq_true (⟨h0, h1⟩ : -1 ≤ n ∧ n ≤ 1000000000000)] at HP
  have h4 := M.c4
  have hz := M.blk.free 4
  have HFIN : Hid (DevR (w.setCell ⟨b, 4, none⟩ (.int .i64 n)) b g c cv m { s with pw := n }) := M.set (s' := { s with pw := n }) rfl rfl rfl ⟨M.ok.lo, M.ok.hi, M.ok.ca, M.ok.at_, M.ok.tk, h0, h1⟩
  clear M h0 h1
  go_enter Try.func22, Try.ntmps22
  go_wp2_with fail
  refine HC.out.mono ?_
  rintro e w' ⟨rfl, rfl⟩
  go_wp2_with fail
  refine HP.out.mono ?_
  rintro e w' ⟨rfl, rfl⟩
  go_wp2_with fail
  go_ret
  exact ⟨rfl, HFIN.out, Fr.of_grown (grown_setCell _ _ _ _) (by simp)⟩
theorem limit_bad {w : World} {b g c m : Nat} {cv : Value} {s : Dv.S} (M : DevR w b g c cv m s) (n : Int) (h : ¬ (-1 ≤ n ∧ n ≤ 1000000000000)) :
    Calls Try.prog 22 #[.pointer (some ⟨b, 0, none⟩), .int .i64 n] w fun e w' => e = .returned (.int .i64 7) ∧ w = w' := by
  have HC := Lib.hid (isMade_any M)
  have HP := Lib.hid (isPower_any w n)
  rw [decide_eq_false h] at HP
  clear M h
  go_enter Try.func22, Try.ntmps22
  go_wp2_with fail
  refine HC.out.mono ?_
  rintro e w' ⟨rfl, rfl⟩
  go_wp2_with fail
  refine HP.out.mono ?_
  rintro e w' ⟨rfl, rfl⟩
  go_wp2_with fail
  go_ret
  exact ⟨rfl, rfl⟩
theorem crash_bad {w : World} {b g c m : Nat} {cv : Value} {s : Dv.S} (M : DevR w b g c cv m s) (v : Value) (l : List Int) (hv : SL encI w w.heap.size v l) (hn : l.length ≤ 1000000) (he : keepE s.ca.length l ≠ 0) :
    Calls Try.prog 21 #[.pointer (some ⟨b, 0, none⟩), v] w fun e w' => e = .returned (.int .i64 (keepE s.ca.length l)) ∧ ∃ k, w' = w.drewN k := by
  have HC := Lib.hid (isMade_any M)
  have HK := Lib.hid (checkKeep_any M v l hv hn)
  obtain ⟨A, cc, rfl⟩ := hv.form
  obtain ⟨r, hr⟩ : ∃ r, r = keepE s.ca.length l := ⟨_, rfl⟩
  rw [← hr] at HK he ⊢
  have hd : (r != 0) = true := by rw [bne_iff_ne]; exact he
  clear hr M hv he
  go_enter Try.func21, Try.ntmps21
  go_wp2_with fail
  refine HC.out.mono ?_
  rintro e w' ⟨rfl, rfl⟩
  go_wp2_with fail
  refine HK.out.mono ?_
  rintro e w' ⟨rfl, k, rfl⟩
  go_wp2_with fail
  go_ret
  exact ⟨rfl, k, rfl⟩
/-- The writes that are kept. -/
def keptW (ca : List Dv.Wr) (l : List Int) : List Dv.Wr := l.map fun i => ca.getD i.toNat (0, Dv.zeroS)
def crashS (s : Dv.S) (l : List Int) : Dv.S := { Dv.settle s (keptW s.ca l) with pw := -1, off := false }
theorem keepE_zero {m : Nat} {l : List Int} (h : keepE m l = 0) : (∀ i ∈ l, 0 ≤ i ∧ i < (m : Int)) ∧ Asc l := by
  unfold keepE at h
  split at h
  · rename_i h1
    split at h
    · rename_i h2
      exact ⟨fun i hi => by have := List.all_eq_true.1 h1 i hi; unfold inR at this; simpa using this, h2⟩
    · omega
  · omega
theorem keepE_of {m : Nat} {l : List Int} (h1 : ∀ i ∈ l, 0 ≤ i ∧ i < (m : Int)) (h2 : Asc l) : keepE m l = 0 := by
  unfold keepE
  rw [if_pos (List.all_eq_true.2 (fun i hi => by unfold inR; exact decide_eq_true (h1 i hi))), if_pos h2]
set_option maxRecDepth 100000 in
set_option maxHeartbeats 2000000 in
theorem crash_ok {w : World} {b g c m : Nat} {cv : Value} {s : Dv.S} (M : DevR w b g c cv m s) (v : Value) (l : List Int) (hv : SL encI w w.heap.size v l) (hn : l.length ≤ 1000000) (he : keepE s.ca.length l = 0) :
    Calls Try.prog 21 #[.pointer (some ⟨b, 0, none⟩), v] w fun e w' => e = .returned (.int .i64 0) ∧ DevR w' b g c (.slice none 0 0) m (crashS s l) ∧ Fr w w' [b, g, m] := by
  have HC := Lib.hid (isMade_any M)
  have HK := Lib.hid (checkKeep_any M v l hv hn)
  rw [he] at HK
  obtain ⟨hin, _⟩ := keepE_zero he
  have HIN := Lib.hid hin
  obtain ⟨A, cc, rfl⟩ := hv.form
  obtain ⟨A0, c0, rfl⟩ := M.cch.cv.form
  have HV := Lib.hid hv
  have HM := Lib.hid M
  clear M hv he hin
  go_enter Try.func21, Try.ntmps21
  go_wp2_with fail
  refine HC.out.mono ?_
  rintro e w' ⟨rfl, rfl⟩
  go_wp2_with fail
  refine HK.out.mono ?_
  rintro e w' ⟨rfl, nn, rfl⟩
  go_wp2_with fail
  go_loopw [6, 20] (fun r i wr => ∃ k : Nat, k ≤ l.length ∧ i = .int .i64 k ∧ Hid (Cch wr w.heap.size r (keptW s.ca (l.take k))) ∧ Hid (Below w.heap.size w wr)) (fun _ i _ => l.length - (intOf i).toNat)
  case atStart => exact ⟨0, by omega, rfl, World.ownsRow_nil _ _ _ _, below_drewN (Below.refl _ _) nn⟩
  case round =>
    obtain ⟨k, hk, rfl, HO, HB⟩ := hrel
    by_cases hlt : k < l.length
    · have hltI : (k : Int) < (l.length : Int) := by omega
      obtain ⟨q, o, hA, _, hcc⟩ := HV.out.at (by omega)
      subst hA
      have hq0 := hcc k hlt
      obtain ⟨hi0, hi1⟩ := HIN.out l[k] (List.getElem_mem _)
      obtain ⟨ii, hii⟩ : ∃ ii : Nat, l[k] = (ii : Int) := ⟨(l[k]).toNat, by omega⟩
      rw [hii] at hq0 hi1
      have hil : ii < s.ca.length := by omega
      unfold encI at hq0
      have hq : wr.cell? ⟨q, o + k, none⟩ = some (.int .i64 (ii : Int)) := (HB.out.cell (p := ⟨q, _, none⟩) (by have := block_lt_of_cell hq0; exact this)).trans hq0
      have MW := HM.out.below HB.out
      have h2 := MW.c2
      obtain ⟨q2, o2, hA2, _, hcc2⟩ := MW.cch.cv.at (by omega)
      subst hA2
      have HRG := Lib.hid (hcc2 ii hil)
      obtain ⟨p, hp⟩ : ∃ p, p = s.ca[ii] := ⟨_, rfl⟩
      rw [← hp] at HRG
      have HK1 : Hid (keptW s.ca (l.take (k + 1)) = keptW s.ca (l.take k) ++ [p]) := by
        show keptW _ _ = _
        unfold keptW
        rw [List.take_succ_eq_append_getElem hlt, List.map_append, List.map_singleton, hii, hp]
        simp [List.getD_eq_getElem?_getD, hil]
      have hkl : (keptW s.ca (l.take k)).length ≤ 1000000 := by unfold keptW; rw [List.length_map, List.length_take]; omega
      have hilI : (ii : Int) < (s.ca.length : Int) := by omega
      have hws := HB.out.size
      clear hcc hq0 hcc2 MW hp hii hi0 hi1
      go_wp2_with (first
        | (refine wpList_load_wr rfl _ rfl q2 (o2 + ii * 129) p rfl HRG.out ?_)
        | (refine wpList_build_wr rfl _ rfl p rfl ?_)
        | (at_builtin; refine wpList_append_wrB rfl _ _ rfl w.heap.size _ (keptW s.ca (l.take k)) rfl (World.ownsRow.alloc HO.out _) p wr.heap.size rfl (Blk.range (Blk.new wr _ _)) hkl (by simp; omega) ?_; intro v3 w3 hc3 hg3 hl3))
      have HC3 : Hid (Cch w3 w.heap.size v3 (keptW s.ca (l.take (k + 1)))) := by rw [HK1.out]; exact hc3
      have HB3 : Hid (Below w.heap.size w w3) := (HB.out.alloc hws _).grown hg3 (by simp; omega) hl3
      clear hc3 hg3 hl3
      go_wp2_with fail
      go_roundw
      case rel => exact ⟨k + 1, by omega, by go_num, HC3.out, HB3.out⟩
      case measure => simp [intOf]; omega
    · obtain rfl : k = l.length := by omega
      rw [List.take_length] at HO
      have hltI : ¬ ((l.length : Int) < (l.length : Int)) := by omega
      have MW := HM.out.below HB.out
      have HSE := Lib.hid (settle_any MW u6 (keptW s.ca l) HO.out.cv (fun p hp => by
        obtain ⟨i, hi, rfl⟩ := List.mem_map.1 hp
        obtain ⟨h1, h2⟩ := HIN.out i hi
        have h3 : i.toNat < s.ca.length := by omega
        have : s.ca.getD i.toNat (0, Dv.zeroS) = s.ca[i.toNat] := by simp [List.getD_eq_getElem?_getD, h3]
        rw [this]
        exact HM.out.ok.at_ _ (List.getElem_mem _)) (by unfold keptW; rw [List.length_map]; omega))
      clear MW
      go_wp2_with fail
      refine HSE.out.mono ?_
      rintro e w1 ⟨rfl, hd, hf⟩
      have h4 := hd.c4
      have z4 := hd.blk.free 4
      have hd4 := hd.set (o := 4) (v := .int .i64 (-1)) (s' := { Dv.settle s (keptW s.ca l) with pw := -1 }) rfl rfl rfl ⟨hd.ok.lo, hd.ok.hi, hd.ok.ca, hd.ok.at_, hd.ok.tk, by show (-1 : Int) ≤ -1; omega, by show (-1 : Int) ≤ 1000000000000; omega⟩
      have h5 := hd4.c5
      have z5 := hd4.blk.free 5
      have HD5 := Lib.hid (hd4.set (o := 5) (v := .bool false) (s' := crashS s l) rfl rfl rfl ⟨hd4.ok.lo, hd4.ok.hi, hd4.ok.ca, hd4.ok.at_, hd4.ok.tk, hd4.ok.pw0, hd4.ok.pw1⟩)
      have HF5 : Hid (Fr w ((w1.setCell ⟨b, 4, none⟩ (.int .i64 (-1))).setCell ⟨b, 5, none⟩ (.bool false)) [b, g, m]) := by
        have h1 := (Fr.of_below HB.out [b, g, m]).trans hf (fun i hi => .inl hi)
        have h2 := h1.trans (Fr.of_grown (F := [b]) (grown_setCell w1 b 4 (.int .i64 (-1))) (by simp)) (fun i hi => .inl (by obtain rfl := List.mem_singleton.1 hi; simp))
        exact h2.trans (Fr.of_grown (F := [b]) (grown_setCell _ b 5 (.bool false)) (by simp)) (fun i hi => .inl (by obtain rfl := List.mem_singleton.1 hi; simp))
      clear hd hf hd4
      go_wp2_with fail
      go_ret
      exact ⟨rfl, HD5.out, HF5.out⟩
end Go.Proofs.Ytcmhhiakmgooeaa
