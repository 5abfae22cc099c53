/- The contract of one of the reference: lists. Conditions: a slice that holds the bytes. -/
import Derived.Test.YtelpgjaagkojeaaROne
import Derived.Deep.RegionHeldLaw
namespace Go.Proofs.Ytelpgjaagkojeaa
open Go.RowKit

theorem wrap_small {n : Int} (h1 : 0 ≤ n) (h2 : n < 9223372036854775808) : IntKind.i64.wrap n = n := by
  simp only [IntKind.wrap, IntKind.bits, IntKind.signed]
  simp
  omega
theorem OL.grown' {w w' a : World} {base : Nat} {v : Value} {l : List UInt32} (h : OL w base v l) (hB : Below base a w) (hg : w.grownBy w' v.ownBlock) (h2 : base ≤ w.heap.size) : Below base a w' :=
  hB.grown hg h2 (fun k hk => (World.ownsRow.lt h k hk).1)
set_option maxRecDepth 100000 in
set_option maxHeartbeats 1000000 in
theorem rone_list (w : World) (lim : Nat) (v : Value) (y : List UInt8) (hv : SL encB w lim v y) (hlim : lim ≤ w.heap.size) (hy : y.length ≤ 9223372036854775807) :
    Calls Try.prog 27 #[.int .u8 108, v] w fun e w' => OnE w 108 y e w' := by
  obtain ⟨A, c0, rfl⟩ := hv.form
  have HB0 : Hid (∀ p, Below w.heap.size w (w.alloc p)) := fun p => (Below.refl _ _).alloc (Nat.le_refl _) _
  have HW : Hid (∀ W, Calls Try.prog 32 #[.int .u8 108] W fun e w' => e = .returned (.int .i64 0) ∧ W = w') := fun W => width_nat W 108 0 rfl
  have HG : Hid (∀ p, Calls Try.prog 36 #[.slice A y.length c0] (w.alloc p) fun e w' => GpE (w.alloc p) y e w') := fun p => grouped_any _ lim _ y (hv.below ((Below.refl _ _).alloc (Nat.le_refl _) p) hlim) hy
  have HBK : Hid (Blk (w.alloc (.cells #[.int .u64 0, .string ⟨#[]⟩, .slice none 0 0] 49)) w.heap.size #[.int .u64 0, .string ⟨#[]⟩, .slice none 0 0] 49) := Blk.new w _ _
  have HV1 : Hid (SL encB (w.alloc (.cells #[.int .u64 0, .string ⟨#[]⟩, .slice none 0 0] 49)) lim (.slice A y.length c0) y) := hv.below ((Below.refl _ _).alloc (Nat.le_refl _) _) hlim
  have hcap := hv.cap
  have HV := Lib.hid hv
  clear hv
  obtain ⟨m, u, err, hpg⟩ : ∃ m u err, Rm.pgs y = (m, u, err) := ⟨_, _, _, rfl⟩
  obtain ⟨hm0, hm64, hu⟩ := pgs_facts y hpg
  go_enter Try.func27, Try.ntmps27
  go_wp2_with fail
  refine (HW.out _).mono ?_
  rintro e w' ⟨rfl, rfl⟩
  go_wp2_with fail
  refine (HG.out _).mono ?_
  rintro e w' ⟨rfl, rfl⟩
  rw [hpg]
  simp only
  by_cases h0 : err = 0
  case neg =>
    have HO : Hid (Rm.one 108 y = (Rm.v0, 0, err)) := by
      show Rm.one 108 y = _
      unfold Rm.one
      rw [hpg]
      simp [Rm.wid, h0]
    have hd : ((err : Int) != 0) = true := by rw [bne_iff_ne]; omega
    clear hpg hm0 hu h0
    go_wp2_with (refine wpList_store_row rfl 49 (.tmp 4) (.tmp 37) rfl w.heap.size #[.int .u64 0, .string ⟨#[]⟩, .slice none 0 0] rfl rfl 49 _ HBK.out (by rw [iRc]; rfl) rfl (one3 _ _ _ rfl rfl rfl) ?_)
    have HB := setRow_blk HBK.out #[.int .u64 0, .string ⟨#[]⟩, .slice none 0 0]
    refine bodyPost_ret (results_rc2 rfl _ _ w.heap.size _ _ _ rfl HB) rfl ?_
    exact OnE.of HO.out _ rfl (VO.num _ _ 0 (by omega)) (setRow_below (HB0.out _) (Nat.le_refl _))
  subst h0
  have huy := hu rfl
  by_cases h4 : 60 < m
  · have HO : Hid (Rm.one 108 y = (Rm.v0, 0, 3)) := by
      show Rm.one 108 y = _
      unfold Rm.one
      rw [hpg]
      simp [Rm.wid, h4]
    have h4I : (60 : Int) < (m : Int) := by omega
    clear hpg hm0 hu h4
    go_wp2_with (refine wpList_store_row rfl 49 (.tmp 4) (.tmp 58) rfl w.heap.size #[.int .u64 0, .string ⟨#[]⟩, .slice none 0 0] rfl rfl 49 _ HBK.out (by rw [iRc]; rfl) rfl (one3 _ _ _ rfl rfl rfl) ?_)
    have HB := setRow_blk HBK.out #[.int .u64 0, .string ⟨#[]⟩, .slice none 0 0]
    refine bodyPost_ret (results_rc2 rfl _ _ w.heap.size _ _ _ rfl HB) rfl ?_
    exact OnE.of HO.out _ rfl (VO.num _ _ 0 (by omega)) (setRow_below (HB0.out _) (Nat.le_refl _))
  have h4I : ¬ (60 : Int) < (m : Int) := by omega
  have huI : (u : Int) ≤ (y.length : Int) := by omega
  by_cases h5 : y.length - u < 4 * m
  · have HO : Hid (Rm.one 108 y = (Rm.v0, 0, 10)) := by
      show Rm.one 108 y = _
      unfold Rm.one
      rw [hpg]
      simp [Rm.wid, h4, h5]
    have h5I : (y.length : Int) - (u : Int) < 4 * (m : Int) := by omega
    clear hpg hm0 hu h4 h5
    go_wp2_with (refine wpList_store_row rfl 49 (.tmp 4) (.tmp 88) rfl w.heap.size #[.int .u64 0, .string ⟨#[]⟩, .slice none 0 0] rfl rfl 49 _ HBK.out (by rw [iRc]; rfl) rfl (one3 _ _ _ rfl rfl rfl) ?_)
    have HB := setRow_blk HBK.out #[.int .u64 0, .string ⟨#[]⟩, .slice none 0 0]
    refine bodyPost_ret (results_rc2 rfl _ _ w.heap.size _ _ _ rfl HB) rfl ?_
    exact OnE.of HO.out _ rfl (VO.num _ _ 0 (by omega)) (setRow_below (HB0.out _) (Nat.le_refl _))
  have HO : Hid (Rm.one 108 y = (⟨0, [], Rm.words (y.drop u) m⟩, u + 4 * m, 0)) := by
    show Rm.one 108 y = _
    unfold Rm.one
    rw [hpg]
    simp [Rm.wid, h4, h5]
  have h5I : ¬ (y.length : Int) - (u : Int) < 4 * (m : Int) := by omega
  have hm60 : m ≤ 60 := by omega
  have hum : u + 4 * m ≤ y.length := by omega
  obtain ⟨i0, hi, hz0, hz1, hz2⟩ := info_parts info_u32
  clear hpg hm0 hu h4 h5
  go_wp2_with fail
  go_loopw [13] (fun i wr => ∃ (j : Nat) (lv : Value), j ≤ m ∧ i = .int .i64 j ∧ Hid (OL wr w.heap.size lv (Rm.words (y.drop u) j)) ∧ Hid (Blk wr w.heap.size #[.int .u64 0, .string ⟨#[]⟩, .slice none 0 0] 49) ∧ Hid (Blk wr (w.heap.size + 1) #[.int .u64 0, .string ⟨#[]⟩, lv] 49) ∧ Hid (Below w.heap.size w wr)) (fun i _ => m - (intOf i).toNat)
  case atStart =>
    have h1 := Blk.new (w.alloc (.cells #[.int .u64 0, .string ⟨#[]⟩, .slice none 0 0] 49)) #[.int .u64 0, .string ⟨#[]⟩, .slice none 0 0] 49
    rw [show (w.alloc (.cells #[.int .u64 0, .string ⟨#[]⟩, .slice none 0 0] 49)).heap.size = w.heap.size + 1 by simp] at h1
    exact ⟨0, _, by omega, rfl, World.ownsRow_nil _ _ _ _, HBK.out.of_block (((Below.refl _ _).alloc (Nat.le_refl _) _).block _ (by simp)), h1, (HB0.out _).alloc (by simp) _⟩
  case round =>
    obtain ⟨j, lv, hj, rfl, HOj, HP, HQ, HB⟩ := hrel
    by_cases hlt : j < m
    · have hltI : (j : Int) < (m : Int) := by omega
      have hw := words_succ (y.drop u) j
      rw [List.drop_drop] at hw
      have HF : Hid (SL encB wr lim _ ((y.drop (u + 4 * j)).take 4)) := ((HV.out.below HB.out hlim).rest (k := u + 4 * j) (by omega)).first (k := 4) (by rw [List.length_drop]; omega)
      rw [if_neg (by omega)] at HF
      obtain ⟨b, off, hA, hb, _⟩ := HV.out.at (by omega)
      subst hA
      have hadd : (⟨b, off, none⟩ : Addr).add (u + 4 * j) = ⟨b, off + (u + 4 * j), none⟩ := by unfold Addr.add; split <;> simp_all
      rw [Option.map_some, hadd] at HF
      clear hadd
      obtain ⟨x, hx⟩ : ∃ x, x = Rm.num ((y.drop (u + 4 * j)).take 4) := ⟨_, rfl⟩
      have hx32 : x < 4294967296 := by have := Rm.num_lt ((y.drop (u + 4 * j)).take 4); rw [← hx, List.length_take, List.length_drop, Nat.min_eq_left (by omega)] at this; exact this
      have HC := Lib.hid (number_any wr.drew lim _ _ (HF.out.drewN 1) (by rw [List.length_take]; omega))
      obtain ⟨d, hd⟩ : ∃ d, d = 4 * j := ⟨_, rfl⟩
      obtain ⟨a, ha⟩ : ∃ a, a = u + d := ⟨_, rfl⟩
      obtain ⟨a4, ha4⟩ : ∃ a4, a4 = a + 4 := ⟨_, rfl⟩
      rw [show u + 4 * j = a by omega] at HC hx
      rw [show u + 4 * j = a by omega] at hw
      rw [← hx] at HC hw
      have HW2 := Lib.hid hw
      have hq2 : wr.cell? ⟨w.heap.size + 1, 2, none⟩ = some lv := HQ.out.cell 2 rfl
      have hqlt := HQ.out.lt
      have hplt := HP.out.lt
      have HX := Lib.hid hx
      have hwr : IntKind.u32.wrap (x : Int) = (x : Int) := by show (x : Int) % 4294967296 = _; omega
      have i1 : IntKind.i64.wrap (4 * (j : Int)) = (d : Int) := by rw [wrap_small (by omega) (by omega)]; omega
      have i2 : IntKind.i64.wrap ((u : Int) + (d : Int)) = (a : Int) := by rw [wrap_small (by omega) (by omega)]; omega
      have i3 : IntKind.i64.wrap ((a : Int) + 4) = (a4 : Int) := by rw [wrap_small (by omega) (by omega)]; omega
      have hc1 : (a4 : Int) ≤ (c0 : Int) := by omega
      have hc2 : (a : Int) ≤ (a4 : Int) := by omega
      have hc3 : ¬ c0 = a := by omega
      have hc4 : a4 - a = 4 := by omega
      have hdh := Lib.hid hd
      clear hw hx hd ha ha4
      go_wp2_with fail
      go_region_law
        (first
        | (go_simp
           go_at_call 35
           refine HC.out.mono ?_
           rintro e w' ⟨rfl, rfl⟩)
        | (rw [if_pos (by simp [Region.wanted])]
           refine wp_append_u32 _ _ rfl w.heap.size lv (Rm.words (y.drop u) j) rfl ((World.ownsRow.alloc HOj.out _) : OL (wr.drew.alloc (.cells #[.int .u32 (x : Int)] 52)) w.heap.size lv (Rm.words (y.drop u) j)) (UInt32.ofNat x) wr.heap.size (x : Int) (by rw [UInt32.toNat_ofNat']; omega) rfl (cell_new1 wr.drew _ _) (by rw [Rm.words_len]; omega) (by simp; have := HB.out.size; omega) ?_
           intro v2 w2 hown hgrow
           obtain ⟨A2, n2, c2, rfl⟩ := OL.form3 hown
           have HO2 := Lib.hid hown
           have HQ2 : Blk w2 (w.heap.size + 1) #[.int .u64 0, .string ⟨#[]⟩, lv] 49 := by
             have hk : Blk (wr.drew.alloc (.cells #[.int .u32 (x : Int)] 52)) (w.heap.size + 1) #[.int .u64 0, .string ⟨#[]⟩, lv] 49 := HQ.out.of_block (((Below.refl _ _).alloc (Nat.le_refl _) _).block _ hqlt)
             exact hk.grown hgrow ((show OL (wr.drew.alloc (.cells #[.int .u32 (x : Int)] 52)) w.heap.size lv (Rm.words (y.drop u) j) from World.ownsRow.alloc HOj.out _).apart hk (by decide))
           have HP2 : Blk w2 w.heap.size #[.int .u64 0, .string ⟨#[]⟩, .slice none 0 0] 49 := by
             have hk : Blk (wr.drew.alloc (.cells #[.int .u32 (x : Int)] 52)) w.heap.size #[.int .u64 0, .string ⟨#[]⟩, .slice none 0 0] 49 := HP.out.of_block (((Below.refl _ _).alloc (Nat.le_refl _) _).block _ hplt)
             exact hk.grown hgrow ((show OL (wr.drew.alloc (.cells #[.int .u32 (x : Int)] 52)) w.heap.size lv (Rm.words (y.drop u) j) from World.ownsRow.alloc HOj.out _).apart hk (by decide))
           have hq22 : w2.cell? ⟨w.heap.size + 1, 2, none⟩ = some lv := HQ2.cell 2 rfl
           have hf22 : w2.frozen? ⟨w.heap.size + 1, 2, none⟩ = false := HQ2.free 2
           have HQ2 := Lib.hid HQ2
           have HP2 := Lib.hid HP2
           have HBW : Hid (Below w.heap.size w w2) := (show OL (wr.drew.alloc (.cells #[.int .u32 (x : Int)] 52)) w.heap.size lv (Rm.words (y.drop u) j) from World.ownsRow.alloc HOj.out _).grown' (HB.out.drew.alloc (by show w.heap.size ≤ wr.heap.size; exact HB.out.size) (.cells #[.int .u32 (x : Int)] 52)) hgrow (by simp; have := HB.out.size; omega)
           clear hown hgrow))
      all_goals
        have HQ3 : Hid (Blk (w2.setCell ⟨w.heap.size + 1, 2, none⟩ (.slice A2 n2 c2)) (w.heap.size + 1) #[.int .u64 0, .string ⟨#[]⟩, .slice A2 n2 c2] 49) := HQ2.out.set 2 _
        have HP3 : Hid (Blk (w2.setCell ⟨w.heap.size + 1, 2, none⟩ (.slice A2 n2 c2)) w.heap.size #[.int .u64 0, .string ⟨#[]⟩, .slice none 0 0] 49) := HP2.out.of_block (Below.heap_setCell _ _ _ _ (by simp))
        have HO3 : Hid (OL (w2.setCell ⟨w.heap.size + 1, 2, none⟩ (.slice A2 n2 c2)) w.heap.size (.slice A2 n2 c2) (Rm.words (y.drop u) (j + 1))) := by
          rw [HW2.out]
          exact World.ownsRow.kept HO2.out (grown_setCell _ _ _ _) (.inr (fun e => HO2.out.apart HQ2.out (by decide) e.symm))
        have HB3 : Hid (Below w.heap.size w (w2.setCell ⟨w.heap.size + 1, 2, none⟩ (.slice A2 n2 c2))) := HBW.out.setCell (by show w.heap.size ≤ w.heap.size + 1; omega) _
        obtain ⟨w3, hw3⟩ : ∃ w3, w3 = w2.setCell ⟨w.heap.size + 1, 2, none⟩ (.slice A2 n2 c2) := ⟨_, rfl⟩
        rw [← hw3] at HQ3 HP3 HO3 HB3 ⊢
        clear hw3 hq22 hf22 HBW HQ2 HP2
        go_wp2_with fail
        go_roundw
        case rel => exact ⟨j + 1, _, by omega, by go_num, HO3.out, HP3.out, HQ3.out, HB3.out⟩
        case measure => simp [intOf]; omega
    · obtain rfl : j = m := by omega
      have hltI : ¬ (j : Int) < (j : Int) := by omega
      go_wp2_with (first
        | (refine wpList_load_row rfl 49 (.tmp 12) rfl (w.heap.size + 1) rfl 49 #[.int .u64 0, .string ⟨#[]⟩, lv] (0, 0) _ HQ.out uRc rfl (by rw [iRc]; rfl) ?_)
        | (refine wpList_store_row rfl 49 (.tmp 4) (.tmp 112) rfl w.heap.size #[.int .u64 0, .string ⟨#[]⟩, lv] rfl rfl 49 _ HP.out (by rw [iRc]; rfl) rfl (one3 _ _ _ rfl rfl (OL.one HOj.out)) ?_))
      have HB9 := setRow_blk HP.out #[.int .u64 0, .string ⟨#[]⟩, lv]
      refine bodyPost_ret (results_rc2 rfl _ _ w.heap.size _ _ _ rfl HB9) rfl ?_
      refine OnE.of HO.out _ (by rw [Int.natCast_add, Int.natCast_mul]; rfl) ⟨_, rfl, ?_, by simp⟩ (setRow_below HB.out (Nat.le_refl _))
      exact World.ownsRow.kept HOj.out (show wr.grownBy _ (some w.heap.size) from ⟨rfl, rfl, rfl, by simp, fun i _ hr => setRow_other _ _ _ _ (fun e => hr (by rw [e]))⟩) (.inr (fun e => HOj.out.apart HP.out (by decide) e.symm))
/-- The contract of one. -/
theorem rone_any (w : World) (lim : Nat) (v : Value) (y : List UInt8) (c : UInt8) (hc : Rm.isK c = true) (hv : SL encB w lim v y) (hlim : lim ≤ w.heap.size) (hy : y.length ≤ 9223372036854775807) :
    Calls Try.prog 27 #[.int .u8 (c.toNat : Int), v] w fun e w' => OnE w c y e w' := by
  rcases Rm.isK_cases hc with rfl | rfl | rfl | rfl | rfl | rfl | rfl
  · exact rone_fixed w lim v y 98 1 hv hlim rfl (by omega) (by omega)
  · exact rone_fixed w lim v y 119 2 hv hlim rfl (by omega) (by omega)
  · exact rone_fixed w lim v y 100 4 hv hlim rfl (by omega) (by omega)
  · exact rone_fixed w lim v y 113 8 hv hlim rfl (by omega) (by omega)
  · exact rone_num w lim v y hv hlim hy
  · exact rone_text w lim v y hv hlim hy
  · exact rone_list w lim v y hv hlim hy
end Go.Proofs.Ytelpgjaagkojeaa
