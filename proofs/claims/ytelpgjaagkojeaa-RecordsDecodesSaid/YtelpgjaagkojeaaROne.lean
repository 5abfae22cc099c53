/- The contract of one of the reference, all kinds but lists. Conditions: a slice that holds the bytes. -/
import Derived.Test.YtelpgjaagkojeaaRGrp
import Derived.Test.YtelpgjaagkojeaaRWid
import Derived.Test.YtelpgjaagkojeaaEnc
namespace Go.Proofs.Ytelpgjaagkojeaa
open Go.RowKit

/-- What one hands back. -/
def OnE (w : World) (c : UInt8) (y : List UInt8) (e : Ending) (w' : World) : Prop :=
  ∃ v, e = .returned (.tuple #[v, .int .i64 ((Rm.one c y).2.1 : Int), .int .i64 ((Rm.one c y).2.2 : Int)]) ∧ VO w' w.heap.size v (Rm.one c y).1 ∧ Below w.heap.size w w'
theorem OnE.of {w w' : World} {c : UInt8} {y : List UInt8} {e : Ending} {x : Rm.Val} {n k : Nat} (h : Rm.one c y = (x, n, k)) (v : Value) (he : e = .returned (.tuple #[v, .int .i64 (n : Int), .int .i64 (k : Int)])) (hv : VO w' w.heap.size v x) (hb : Below w.heap.size w w') : OnE w c y e w' := by
  unfold OnE; rw [h]; exact ⟨v, he, hv, hb⟩
theorem results_rc2 {fn : Func} {p u t : Tmp} (h : fn.results = #[.cell p 49, .tmp u, .tmp t]) (tmps : Array Value) (w : World) (q : Nat) (x y z : Value) (hp : tmps.getD p undef = .pointer (some ⟨q, 0, none⟩)) (hb : Blk w q #[x, y, z] 49) :
    (results fn tmps).run Try.prog w = .ok (.tuple #[.agg #[x, y, z], tmps.getD u undef, tmps.getD t undef]) w := by
  have h1 : (results fn tmps).run Try.prog w = ((asAddr (tmps.getD p undef)).run Try.prog w).andThen fun a w₁ => ((loadVar 49 a).run Try.prog w₁).andThen fun v w₂ => .ok (.tuple #[v, tmps.getD u undef, tmps.getD t undef]) w₂ := by
    simp only [results, h]
    simp [Sem.run_bind, Result.andThen]
  rw [h1, hp]
  have : (asAddr (.pointer (some ⟨q, 0, none⟩))).run Try.prog w = .ok ⟨q, 0, none⟩ w := rfl
  rw [this]
  simp only [Result.andThen_ok, loadRc hb]
theorem setRow_below {w W : World} {q : Nat} {cs : Array Value} (h : Below w.heap.size w W) (hq : w.heap.size ≤ q) : Below w.heap.size w (W.setRow q cs) := below_setRow h hq
set_option maxRecDepth 100000 in
set_option maxHeartbeats 1000000 in
theorem rone_fixed (w : World) (lim : Nat) (v : Value) (y : List UInt8) (c : UInt8) (n : Nat) (hv : SL encB w lim v y) (hlim : lim ≤ w.heap.size) (hn : Rm.wid c = n) (h0 : 0 < n) (h8 : n ≤ 8) :
    Calls Try.prog 27 #[.int .u8 (c.toNat : Int), v] w fun e w' => OnE w c y e w' := by
  obtain ⟨A, c0, rfl⟩ := hv.form
  have hone : Rm.one c y = if y.length < n then (Rm.v0, 0, 10) else (⟨Rm.num (y.take n), [], []⟩, n, 0) := by
    unfold Rm.one; rw [hn, if_pos h0]
  have HONE := Lib.hid hone
  have HB0 : Hid (∀ p, Below w.heap.size w (w.alloc p)) := fun p => (Below.refl _ _).alloc (Nat.le_refl _) _
  have HV := Lib.hid hv
  have HW : Hid (∀ W, Calls Try.prog 32 #[.int .u8 (c.toNat : Int)] W fun e w' => e = .returned (.int .i64 (n : Int)) ∧ W = w') := fun W => by rw [← hn]; exact width_any W c
  have hnI : (0 : Int) < (n : Int) := by omega
  have hcap := hv.cap
  have HBK : Hid (Blk (w.alloc (.cells #[.int .u64 0, .string ⟨#[]⟩, .slice none 0 0] 49)) w.heap.size #[.int .u64 0, .string ⟨#[]⟩, .slice none 0 0] 49) := Blk.new w _ _
  clear hone hv hn
  by_cases hlt : y.length < n
  · have hltI : (y.length : Int) < (n : Int) := by omega
    have HO : Hid (Rm.one c y = (Rm.v0, 0, 10)) := by show Rm.one c y = _; rw [HONE.out, if_pos hlt]
    clear hlt
    go_enter Try.func27, Try.ntmps27
    go_wp2_with fail
    refine (HW.out _).mono ?_
    rintro e w' ⟨rfl, rfl⟩
    go_wp2_with (refine wpList_store_row rfl 49 (.tmp 4) (.tmp 22) rfl w.heap.size #[.int .u64 0, .string ⟨#[]⟩, .slice none 0 0] rfl rfl 49 _ HBK.out (by rw [iRc]; rfl) rfl (one3 _ _ _ rfl rfl rfl) ?_)
    have HB := setRow_blk HBK.out #[.int .u64 0, .string ⟨#[]⟩, .slice none 0 0]
    refine bodyPost_ret (results_rc2 rfl _ _ w.heap.size _ _ _ rfl HB) rfl ?_
    exact OnE.of HO.out _ rfl (VO.num _ _ 0 (by omega)) (setRow_below (HB0.out _) (Nat.le_refl _))
  · have hltI : ¬ (y.length : Int) < (n : Int) := by omega
    have HO : Hid (Rm.one c y = (⟨Rm.num (y.take n), [], []⟩, n, 0)) := by show Rm.one c y = _; rw [HONE.out, if_neg hlt]
    have HF := Lib.hid (((HV.out.first (k := n) (by omega)).below (HB0.out (.cells #[.int .u64 0, .string ⟨#[]⟩, .slice none 0 0] 49)) hlim))
    have HNU := Lib.hid (number_any _ lim _ _ HF.out (by rw [List.length_take]; omega))
    have hn64 := Rm.num_lt (y.take n)
    have hn2 : Rm.num (y.take n) < 18446744073709551616 := Nat.lt_of_lt_of_le hn64 (Nat.le_trans (Nat.pow_le_pow_right (by omega) (show (y.take n).length ≤ 8 by rw [List.length_take]; omega)) (by omega))
    obtain ⟨m, hm⟩ : ∃ m, m = Rm.num (y.take n) := ⟨_, rfl⟩
    rw [← hm] at HO HNU hn2
    have hnc : (n : Int) ≤ (c0 : Int) := by omega
    clear hlt hn64 hm
    go_enter Try.func27, Try.ntmps27
    go_wp2_with fail
    refine (HW.out _).mono ?_
    rintro e w' ⟨rfl, rfl⟩
    go_wp2_with fail
    refine HNU.out.mono ?_
    rintro e w' ⟨rfl, rfl⟩
    go_wp2_with (refine wpList_store_row rfl 49 (.tmp 4) (.tmp 27) rfl w.heap.size #[.int .u64 (m : Int), .string ⟨#[]⟩, .slice none 0 0] rfl rfl 49 _ HBK.out (by rw [iRc]; rfl) rfl (one3 _ _ _ rfl rfl rfl) ?_)
    have HB := setRow_blk HBK.out #[.int .u64 (m : Int), .string ⟨#[]⟩, .slice none 0 0]
    refine bodyPost_ret (results_rc2 rfl _ _ w.heap.size _ _ _ rfl HB) rfl ?_
    exact OnE.of HO.out _ rfl (VO.num _ _ m hn2) (setRow_below (HB0.out _) (Nat.le_refl _))
/-- The end of one: an error behind grouped, a number, or what follows. -/
theorem pgs_facts (y : List UInt8) {m u err : Nat} (h : Rm.pgs y = (m, u, err)) : (err ≠ 0 → m = 0) ∧ m < 18446744073709551616 ∧ (err = 0 → u ≤ y.length) := by
  have hm0 : err ≠ 0 → m = 0 := fun h' => by have := pg_err 10 0 0 y; unfold Rm.pgs at h; rw [h] at this; exact this h'
  refine ⟨hm0, ?_, fun h' => ?_⟩
  · by_cases h' : err = 0
    · subst h'; exact Rm.pg_num_lt 10 0 0 y m u h rfl (by simp)
    · rw [hm0 h']; omega
  · subst h'; exact (Rm.pgs_back y m u h).2.1
set_option maxRecDepth 100000 in
set_option maxHeartbeats 1000000 in
theorem rone_num (w : World) (lim : Nat) (v : Value) (y : List UInt8) (hv : SL encB w lim v y) (hlim : lim ≤ w.heap.size) (hy : y.length ≤ 9223372036854775807) :
    Calls Try.prog 27 #[.int .u8 118, v] w fun e w' => OnE w 118 y e w' := by
  obtain ⟨A, c0, rfl⟩ := hv.form
  have HB0 : Hid (∀ p, Below w.heap.size w (w.alloc p)) := fun p => (Below.refl _ _).alloc (Nat.le_refl _) _
  have HW : Hid (∀ W, Calls Try.prog 32 #[.int .u8 118] W fun e w' => e = .returned (.int .i64 0) ∧ W = w') := fun W => width_nat W 118 0 rfl
  have HG : Hid (∀ p, Calls Try.prog 36 #[.slice A y.length c0] (w.alloc p) fun e w' => GpE (w.alloc p) y e w') := fun p => grouped_any _ lim _ y (hv.below ((Below.refl _ _).alloc (Nat.le_refl _) p) hlim) hy
  have HBK : Hid (Blk (w.alloc (.cells #[.int .u64 0, .string ⟨#[]⟩, .slice none 0 0] 49)) w.heap.size #[.int .u64 0, .string ⟨#[]⟩, .slice none 0 0] 49) := Blk.new w _ _
  clear hv
  obtain ⟨m, u, err, hpg⟩ : ∃ m u err, Rm.pgs y = (m, u, err) := ⟨_, _, _, rfl⟩
  obtain ⟨hm0, hm64, hu⟩ := pgs_facts y hpg
  go_enter Try.func27, Try.ntmps27
  go_wp2_with fail
  refine (HW.out _).mono ?_
  rintro e w' ⟨rfl, rfl⟩
  go_wp2_with fail
  refine (HG.out _).mono ?_
  rintro e w' ⟨rfl, rfl⟩
  rw [hpg]
  simp only
  by_cases h0 : err = 0
  · have HO : Hid (Rm.one 118 y = (⟨m, [], []⟩, u, 0)) := by
      show Rm.one 118 y = _
      unfold Rm.one
      rw [hpg]
      simp [Rm.wid, h0]
    subst h0
    clear hpg hm0 hu
    go_wp2_with (refine wpList_store_row rfl 49 (.tmp 4) (.tmp 42) rfl w.heap.size #[.int .u64 (m : Int), .string ⟨#[]⟩, .slice none 0 0] rfl rfl 49 _ HBK.out (by rw [iRc]; rfl) rfl (one3 _ _ _ rfl rfl rfl) ?_)
    have HB := setRow_blk HBK.out #[.int .u64 (m : Int), .string ⟨#[]⟩, .slice none 0 0]
    refine bodyPost_ret (results_rc2 rfl _ _ w.heap.size _ _ _ rfl HB) rfl ?_
    exact OnE.of HO.out _ rfl (VO.num _ _ m hm64) (setRow_below (HB0.out _) (Nat.le_refl _))
  · have HO : Hid (Rm.one 118 y = (Rm.v0, 0, err)) := by
      show Rm.one 118 y = _
      unfold Rm.one
      rw [hpg]
      simp [Rm.wid, h0]
    have hd : ((err : Int) != 0) = true := by rw [bne_iff_ne]; omega
    clear hpg hm0 hu h0
    go_wp2_with (refine wpList_store_row rfl 49 (.tmp 4) (.tmp 37) rfl w.heap.size #[.int .u64 0, .string ⟨#[]⟩, .slice none 0 0] rfl rfl 49 _ HBK.out (by rw [iRc]; rfl) rfl (one3 _ _ _ rfl rfl rfl) ?_)
    have HB := setRow_blk HBK.out #[.int .u64 0, .string ⟨#[]⟩, .slice none 0 0]
    refine bodyPost_ret (results_rc2 rfl _ _ w.heap.size _ _ _ rfl HB) rfl ?_
    exact OnE.of HO.out _ rfl (VO.num _ _ 0 (by omega)) (setRow_below (HB0.out _) (Nat.le_refl _))
set_option maxRecDepth 100000 in
set_option maxHeartbeats 1000000 in
theorem rone_text (w : World) (lim : Nat) (v : Value) (y : List UInt8) (hv : SL encB w lim v y) (hlim : lim ≤ w.heap.size) (hy : y.length ≤ 9223372036854775807) :
    Calls Try.prog 27 #[.int .u8 115, v] w fun e w' => OnE w 115 y e w' := by
  obtain ⟨A, c0, rfl⟩ := hv.form
  have HB0 : Hid (∀ p, Below w.heap.size w (w.alloc p)) := fun p => (Below.refl _ _).alloc (Nat.le_refl _) _
  have HW : Hid (∀ W, Calls Try.prog 32 #[.int .u8 115] W fun e w' => e = .returned (.int .i64 0) ∧ W = w') := fun W => width_nat W 115 0 rfl
  have HG : Hid (∀ p, Calls Try.prog 36 #[.slice A y.length c0] (w.alloc p) fun e w' => GpE (w.alloc p) y e w') := fun p => grouped_any _ lim _ y (hv.below ((Below.refl _ _).alloc (Nat.le_refl _) p) hlim) hy
  have HBK : Hid (Blk (w.alloc (.cells #[.int .u64 0, .string ⟨#[]⟩, .slice none 0 0] 49)) w.heap.size #[.int .u64 0, .string ⟨#[]⟩, .slice none 0 0] 49) := Blk.new w _ _
  have HV1 : Hid (SL encB (w.alloc (.cells #[.int .u64 0, .string ⟨#[]⟩, .slice none 0 0] 49)) lim (.slice A y.length c0) y) := hv.below ((Below.refl _ _).alloc (Nat.le_refl _) _) hlim
  have hcap := hv.cap
  clear hv
  obtain ⟨m, u, err, hpg⟩ : ∃ m u err, Rm.pgs y = (m, u, err) := ⟨_, _, _, rfl⟩
  obtain ⟨hm0, hm64, hu⟩ := pgs_facts y hpg
  go_enter Try.func27, Try.ntmps27
  go_wp2_with fail
  refine (HW.out _).mono ?_
  rintro e w' ⟨rfl, rfl⟩
  go_wp2_with fail
  refine (HG.out _).mono ?_
  rintro e w' ⟨rfl, rfl⟩
  rw [hpg]
  simp only
  by_cases h0 : err = 0
  case neg =>
    have HO : Hid (Rm.one 115 y = (Rm.v0, 0, err)) := by
      show Rm.one 115 y = _
      unfold Rm.one
      rw [hpg]
      simp [Rm.wid, h0]
    have hd : ((err : Int) != 0) = true := by rw [bne_iff_ne]; omega
    clear hpg hm0 hu h0
    go_wp2_with (refine wpList_store_row rfl 49 (.tmp 4) (.tmp 37) rfl w.heap.size #[.int .u64 0, .string ⟨#[]⟩, .slice none 0 0] rfl rfl 49 _ HBK.out (by rw [iRc]; rfl) rfl (one3 _ _ _ rfl rfl rfl) ?_)
    have HB := setRow_blk HBK.out #[.int .u64 0, .string ⟨#[]⟩, .slice none 0 0]
    refine bodyPost_ret (results_rc2 rfl _ _ w.heap.size _ _ _ rfl HB) rfl ?_
    exact OnE.of HO.out _ rfl (VO.num _ _ 0 (by omega)) (setRow_below (HB0.out _) (Nat.le_refl _))
  subst h0
  have huy := hu rfl
  by_cases h4 : 400 < m
  · have HO : Hid (Rm.one 115 y = (Rm.v0, 0, 3)) := by
      show Rm.one 115 y = _
      unfold Rm.one
      rw [hpg]
      simp [Rm.wid, h4]
    have h4I : (400 : Int) < (m : Int) := by omega
    clear hpg hm0 hu h4
    go_wp2_with (refine wpList_store_row rfl 49 (.tmp 4) (.tmp 58) rfl w.heap.size #[.int .u64 0, .string ⟨#[]⟩, .slice none 0 0] rfl rfl 49 _ HBK.out (by rw [iRc]; rfl) rfl (one3 _ _ _ rfl rfl rfl) ?_)
    have HB := setRow_blk HBK.out #[.int .u64 0, .string ⟨#[]⟩, .slice none 0 0]
    refine bodyPost_ret (results_rc2 rfl _ _ w.heap.size _ _ _ rfl HB) rfl ?_
    exact OnE.of HO.out _ rfl (VO.num _ _ 0 (by omega)) (setRow_below (HB0.out _) (Nat.le_refl _))
  have h4I : ¬ (400 : Int) < (m : Int) := by omega
  have huI : (u : Int) ≤ (y.length : Int) := by omega
  by_cases h5 : y.length - u < m
  · have HO : Hid (Rm.one 115 y = (Rm.v0, 0, 10)) := by
      show Rm.one 115 y = _
      unfold Rm.one
      rw [hpg]
      simp [Rm.wid, h4, h5]
    have h5I : (y.length : Int) - (u : Int) < (m : Int) := by omega
    clear hpg hm0 hu h4 h5
    go_wp2_with (refine wpList_store_row rfl 49 (.tmp 4) (.tmp 69) rfl w.heap.size #[.int .u64 0, .string ⟨#[]⟩, .slice none 0 0] rfl rfl 49 _ HBK.out (by rw [iRc]; rfl) rfl (one3 _ _ _ rfl rfl rfl) ?_)
    have HB := setRow_blk HBK.out #[.int .u64 0, .string ⟨#[]⟩, .slice none 0 0]
    refine bodyPost_ret (results_rc2 rfl _ _ w.heap.size _ _ _ rfl HB) rfl ?_
    exact OnE.of HO.out _ rfl (VO.num _ _ 0 (by omega)) (setRow_below (HB0.out _) (Nat.le_refl _))
  have HO : Hid (Rm.one 115 y = (⟨0, (y.drop u).take m, []⟩, u + m, 0)) := by
    show Rm.one 115 y = _
    unfold Rm.one
    rw [hpg]
    simp [Rm.wid, h4, h5]
  have h5I : ¬ (y.length : Int) - (u : Int) < (m : Int) := by omega
  have HS := Lib.hid ((HV1.out.rest (k := u) huy).first (k := m) (by rw [List.length_drop]; omega))
  have humI : (u : Int) + (m : Int) ≤ (c0 : Int) := by omega
  have hu63 : (u : Int) + (m : Int) ≤ 9223372036854775807 := by omega
  clear hpg hm0 hu h4 h5
  by_cases hcu : c0 = u
  · rw [if_pos hcu, show c0 - u = 0 by omega] at HS
    have hcuI : (c0 : Int) = (u : Int) := by omega
    have hcv := str_sl HS.out
    go_wp2_with fail
    refine bodyPost_ret (results_rc2 rfl _ _ w.heap.size _ _ _ rfl (Blk.new w _ _)) rfl ?_
    exact OnE.of HO.out _ (by rw [Int.natCast_add]; rfl) ⟨_, rfl, OL.nil _ _, by simp⟩ (HB0.out _)
  · rw [if_neg hcu] at HS
    have hcuI : ¬ (c0 : Int) = (u : Int) := by omega
    have hcv := str_sl HS.out
    go_wp2_with fail
    refine bodyPost_ret (results_rc2 rfl _ _ w.heap.size _ _ _ rfl (Blk.new w _ _)) rfl ?_
    exact OnE.of HO.out _ (by rw [Int.natCast_add]; rfl) ⟨_, rfl, OL.nil _ _, by simp⟩ (HB0.out _)
end Go.Proofs.Ytelpgjaagkojeaa
