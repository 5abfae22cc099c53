/- The contracts of Same and of Patch of the reference. Conditions: slices that hold the bytes, at most 10^6 of them. -/
import Derived.Test.YtjppcjcflcnliaaDoorPatch
namespace Go.Proofs.YtjppcjcflcnliaaDoor
open Go.RowKit

theorem quiet_mine {P : Program} {f : FuncId} {args : Array Value} {w : World} {n : Nat} {v : Value}
    (h : Calls P f args (w.drewN n) fun e w' => e = .returned v ∧ w.drewN n = w') : Calls P f args (w.drewN n) fun e w'' => e = .returned v ∧ ∃ m, w'' = w.drewN m :=
  Calls.quiet_of_same (h.mono fun _ _ ⟨a, b⟩ => ⟨a, b.symm⟩)
theorem drew_drew (w : World) (a b : Nat) : (w.drewN a).drewN b = w.drewN (a + b) := by
  show World.mk .. = World.mk ..
  simp [World.drewN, Nat.add_assoc]
set_option maxRecDepth 100000 in
set_option maxHeartbeats 1000000 in
theorem same_any (w : World) (lim lim2 : Nat) (v v2 : Value) (y : List UInt8) (hv : SL encB w lim v y) (hv2 : SL encB w lim2 v2 y) (hy : y.length ≤ 1000000) :
    Calls Tryd.prog 24 #[v, v2] w fun e w' => e = .returned (.bool true) ∧ ∃ m, w' = w.drewN m := by
  obtain ⟨A, c0, rfl⟩ := hv.form
  obtain ⟨B, c1, rfl⟩ := hv2.form
  have HV := Lib.hid hv
  have HV2 := Lib.hid hv2
  clear hv hv2
  go_enter Tryd.func24, Tryd.ntmps24
  go_wp2_with fail
  go_loopw [5] (fun i wr => ∃ k m : Nat, k ≤ y.length ∧ i = .int .i64 k ∧ Hid (wr = w.drewN m)) (fun i _ => y.length - (intOf i).toNat)
  case atStart => exact ⟨0, 0, by omega, rfl, rfl⟩
  case round =>
    obtain ⟨k, m, hk, rfl, HW⟩ := hrel
    by_cases hlt : k < y.length
    · have hltI : (k : Int) < (y.length : Int) := by omega
      obtain ⟨b, off, hA, hb, hc⟩ := HV.out.at (by omega)
      obtain ⟨b2, off2, hB, hb2, hc2⟩ := HV2.out.at (by omega)
      subst hA hB
      have h1 : wr.cell? ⟨b, off + k, none⟩ = some (encB y[k]) := by rw [HW.out]; exact hc k hlt
      have h2 : wr.cell? ⟨b2, off2 + k, none⟩ = some (encB y[k]) := by rw [HW.out]; exact hc2 k hlt
      unfold encB at h1 h2
      obtain ⟨c, hcc⟩ : ∃ c, c = y[k].toNat := ⟨_, rfl⟩
      rw [← hcc] at h1 h2
      clear hc hc2 hcc
      go_wp2_with fail
      go_quiet (fail)
      go_wp2_with fail
      go_roundw
      case rel => exact ⟨k + 1, _, by omega, by go_num, by rw [HW.out, drew_drew]; rfl⟩
      case measure => simp [intOf]; omega
    · have hltI : ¬ ((k : Int) < (y.length : Int)) := by omega
      go_wp2_with fail
      go_ret
      exact ⟨rfl, m, HW.out⟩
theorem rpatch_bad (w : World) (v : Value) (y : List UInt8) (at' : Int) (want : Nat) (hv : SL encB w w.heap.size v y) (hy : y.length ≤ 1000000) (hbad : at' < 0 ∨ (y.length : Int) - 4 < at') :
    Calls Tryd.prog 23 #[v, .int .i64 at', .int .u32 (want : Int)] w fun e w' => e = .returned (.tuple #[.slice none 0 0, .int .i64 7]) ∧ w = w' := by
  obtain ⟨A, c0, rfl⟩ := hv.form
  clear hv
  by_cases h1 : at' < 0
  · go_enter Tryd.func23, Tryd.ntmps23
    go_wp2_with fail
    go_ret2
    exact ⟨rfl, rfl⟩
  · have h2 : (y.length : Int) - 4 < at' := by omega
    clear hbad
    go_enter Tryd.func23, Tryd.ntmps23
    go_wp2_with fail
    go_ret2
    exact ⟨rfl, rfl⟩
theorem pat_ref (y : List UInt8) (n want : Nat) : Cm.backs 4 (Cm.unGo (want ^^^ Cm.top) (y.drop (n + 4))) ^^^ Cm.on 0 (y.take n) ^^^ Cm.top = Cm.patN y n want := by
  unfold Cm.on Cm.patN
  rw [Nat.zero_xor, Nat.xor_assoc, Cm.xor_xor, Nat.xor_comm]
set_option maxRecDepth 100000 in
set_option maxHeartbeats 2000000 in
theorem rpatch_ok (w : World) (v : Value) (y : List UInt8) (n want : Nat) (hv : SL encB w w.heap.size v y) (hy : y.length ≤ 1000000) (hn : n + 4 ≤ y.length) (hw : want < 4294967296) :
    Calls Tryd.prog 23 #[v, .int .i64 (n : Int), .int .u32 (want : Int)] w fun e w' => ∃ bs g cap, e = .returned (.tuple #[.slice (some ⟨g, 0, none⟩) y.length cap, .int .i64 0]) ∧ OwnB w' bs g y.length cap (Cm.patL y n (Cm.patN y n want) 4) ∧ w.heap.size ≤ bs ∧ Below w.heap.size w w' := by
  obtain ⟨A, c0, rfl⟩ := hv.form
  obtain ⟨X, hX⟩ : ∃ X, X = Cm.patN y n want := ⟨_, rfl⟩
  have hX32 := Cm.patN_lt y n want hw
  rw [← hX] at hX32 ⊢
  have HX := Lib.hid hX
  clear hX
  have hcap := hv.cap
  obtain ⟨b, off, hA, hbl, hcell⟩ := hv.at (by omega)
  subst hA
  have HF := Lib.hid (hv.first (k := n) (by omega))
  have HV := Lib.hid hv
  have HCL := Lib.hid hcell
  have h1 : ¬ ((n : Int) < 0) := by omega
  have h2 : ¬ ((y.length : Int) - 4 < (n : Int)) := by omega
  have hnI : (n : Int) ≤ (c0 : Int) := by omega
  have hxw := ff32 want hw
  obtain ⟨wt, hwt⟩ : ∃ wt, wt = want ^^^ Cm.top := ⟨_, rfl⟩
  have hwt32 : wt < 4294967296 := by rw [hwt]; exact Cm.xor_lt hw Cm.top_lt
  rw [← hwt] at hxw
  have HWT := Lib.hid hwt
  clear hv hcell hwt
  go_enter Tryd.func23, Tryd.ntmps23
  go_wp2_with fail
  go_loopw [8, 9] (fun a i wr => ∃ k m x : Nat, n + 4 ≤ k ∧ k ≤ y.length ∧ i = .int .i64 ((k : Int) - 1) ∧ a = .int .u32 (x : Int) ∧ Hid (x = Cm.unGo wt (y.drop k)) ∧ Hid (wr = w.drewN m)) (fun _ i _ => (intOf i).toNat)
  case atStart => exact ⟨y.length, 0, wt, hn, Nat.le_refl _, rfl, rfl, by rw [Cm.unGo_end]; exact rfl, rfl⟩
  case round =>
    obtain ⟨k, m, x, hk1, hk2, rfl, rfl, HXX, HW⟩ := hrel
    have hxl : x < 4294967296 := by rw [HXX.out]; exact Cm.unGo_lt hwt32 _
    by_cases hlt : n + 4 < k
    · obtain ⟨j, rfl⟩ : ∃ j, k = j + 1 := ⟨k - 1, by omega⟩
      have hjI : (((j + 1 : Nat) : Int) - 1) = (j : Int) := by omega
      rw [hjI]
      have hj0 : (n : Int) + 4 ≤ (j : Int) := by omega
      have hj1 : (j : Int) < (y.length : Int) := by omega
      have hc : wr.cell? ⟨b, off + j, none⟩ = some (encB y[j]) := by rw [HW.out]; exact HCL.out j (by omega)
      unfold encB at hc
      have hc8 := y[j].toNat_lt
      have hbx := xor32 (Cm.back x) y[j].toNat (Cm.back_lt hxl) (by omega)
      have HN : Hid (Cm.back x ^^^ y[j].toNat = Cm.unGo wt (y.drop j)) := by rw [Cm.unGo_step wt y j (by omega), HXX.out]; exact rfl
      rw [HN.out] at hbx
      have HBK : Hid (∀ q, Calls Tryd.prog 42 #[.int .u32 (x : Int)] (wr.drewN q) fun e w' => e = .returned (.int .u32 ((Cm.back x : Nat) : Int)) ∧ wr.drewN q = w') := fun q => back_any _ x hxl
      obtain ⟨c, hcc⟩ : ∃ c, c = y[j].toNat := ⟨_, rfl⟩
      rw [← hcc] at hc hc8 hbx
      clear hjI hcc HN
      go_wp2_with fail
      go_quiet ((go_at_call 42; exact quiet_mine (HBK.out _)))
      go_wp2_with fail
      go_roundw
      case rel => exact ⟨j, _, _, by omega, by omega, rfl, rfl, rfl, by rw [HW.out, drew_drew]; rfl⟩
      case measure => simp [intOf]; omega
    · obtain rfl : k = n + 4 := by omega
      have hI : ¬ ((n : Int) + 4 ≤ ((n + 4 : Nat) : Int) - 1) := by omega
      have hd : decide ((n : Int) + 4 ≤ (n : Int) + 4 - 1) = false := decide_eq_false (by omega)
      go_wp2_with fail
      go_loop [8, 10] (fun a i => ∃ k x2 : Nat, k ≤ 4 ∧ i = .int .i64 k ∧ a = .int .u32 (x2 : Int) ∧ Hid (x2 = Cm.backs k x)) (fun _ i => 4 - (intOf i).toNat)
      case atStart => exact ⟨0, x, by omega, rfl, rfl, rfl⟩
      case round =>
        obtain ⟨k, x2, hk, rfl, rfl, HX2⟩ := hrel
        have hx2l : x2 < 4294967296 := by rw [HX2.out]; exact Cm.backs_lt _ hxl
        by_cases hlt4 : k < 4
        · have hltI : (k : Int) < 4 := by omega
          go_wp2_with fail
          refine (back_any _ x2 hx2l).mono ?_
          rintro e w' ⟨rfl, rfl⟩
          go_wp2_with fail
          go_round
          case rel => exact ⟨k + 1, Cm.back x2, by omega, by go_num, rfl, by show _ = _; rw [Cm.backs_succ, HX2.out]⟩
          case measure => simp [intOf]; omega
        · obtain rfl : k = 4 := by omega
          have hltI : ¬ (((4 : Nat) : Int) < 4) := by omega
          have hol := Cm.on_lt (y.take n) (show 0 < 4294967296 by omega)
          have hx1 := xor32 x2 (Cm.on 0 (y.take n)) hx2l hol
          have hx3 := ff32 (x2 ^^^ Cm.on 0 (y.take n)) (Cm.xor_lt hx2l hol)
          have hXX : Hid (x2 ^^^ Cm.on 0 (y.take n) ^^^ Cm.top = X) := by rw [HX.out, ← pat_ref y n want, HX2.out, HXX.out, HWT.out]; exact rfl
          rw [hXX.out] at hx3
          have HRO : Hid (∀ wq : World, wq = w.drewN m → Calls Tryd.prog 17 #[.int .u32 0, .slice (some ⟨b, off, none⟩) n c0] wq fun e w' => e = .returned (.int .u32 ((Cm.on 0 (y.take n) : Nat) : Int)) ∧ wq = w') := fun wq hq => by
            subst hq
            exact ron_any _ 0 w.heap.size _ (y.take n) (HF.out.drewN m) (by omega) (by simp; omega)
          have hBB : Below w.heap.size w wr := by rw [HW.out]; exact below_drewN (Below.refl _ _) m
          have HV2 : Hid (SL encB (wr.alloc (.cells #[] 5)) (wr.alloc (.cells #[] 5)).heap.size (.slice (some ⟨b, off, none⟩) y.length c0) y) := HV.out.next (hBB.alloc hBB.size _)
          have HN2 := Lib.hid (own_new wr 5)
          have HBB := Lib.hid hBB
          clear hBB hXX hol
          go_wp2_with fail
          refine (HRO.out wr HW.out).mono ?_
          rintro e w' ⟨rfl, rfl⟩
          go_wp2_with (at_builtin; refine wpList_append_sl rfl _ _ rfl wr.heap.size _ _ 0 [] rfl HN2.out _ y rfl HV2.out (by omega) (by simp) ?_; intro v' w2 hown hgrow)
          rw [List.nil_append, Nat.zero_add] at hown
          obtain ⟨g, cap, rfl, ho⟩ := OwnB.of_row (by omega) rfl hown
          have HB2 : Hid (Below w.heap.size w w2) := (HBB.out.alloc HBB.out.size _).grown hgrow (by have := HBB.out.size; simp; omega) (fun k hk => by have : wr.heap.size = k := Option.some.inj hk; have := HBB.out.size; omega)
          have hgs := HBB.out.size
          obtain ⟨bs, hbs⟩ : ∃ bs, bs = wr.heap.size := ⟨_, rfl⟩
          rw [← hbs] at ho hgs
          have HO := Lib.hid ho
          have hge : bs ≤ g := ho.lt.1
          clear ho hown hgrow hbs HBB HN2 HV2 HRO HW HX2 HXX hx1 hx3 hltI
          go_wp2_with fail
          go_loopw [11, 13] (fun a i ws => ∃ k x3 : Nat, k ≤ 4 ∧ i = .int .i64 k ∧ a = .int .u32 (x3 : Int) ∧ Hid (x3 = X / 256 ^ k) ∧ Hid (OwnB ws bs g y.length cap (Cm.patL y n X k)) ∧ Hid (Below w.heap.size w ws)) (fun _ i _ => 4 - (intOf i).toNat)
          case atStart => exact ⟨0, X, by omega, rfl, rfl, by show X = X / 256 ^ 0; omega, HO.out, HB2.out⟩
          case round =>
            clear HO HB2
            obtain ⟨k, x3, hk, rfl, rfl, HX3, HO, HB2⟩ := hrel
            have hx3l : x3 < 4294967296 := by rw [HX3.out]; exact Nat.lt_of_le_of_lt (Nat.div_le_self _ _) hX32
            by_cases hlt5 : k < 4
            · have hltI5 : (k : Int) < 4 := by omega
              have hlen := Cm.patL_len y n X k
              have hin : n + k < (Cm.patL y n X k).length := by rw [hlen]; omega
              obtain ⟨vv, hce⟩ : ∃ vv, wr.cell? ⟨g, n + k, none⟩ = some vv := ⟨_, HO.out.cell (n + k) hin⟩
              have hfr := HO.out.free (n + k)
              have hnk : (n : Int) + (k : Int) < (y.length : Int) := by omega
              have hby : (x3 : Int) % 256 = ((Cm.byteAt X k).toNat : Int) := by rw [Cm.byteAt_nat, ← HX3.out]; omega
              have HBY := Lib.hid hby
              clear hlen hby
              go_wp2_with fail
              go_roundw
              case rel => exact ⟨k + 1, x3 / 256, by omega, by go_num, by rw [show ((x3 / 256 : Nat) : Int) = (x3 : Int) / 256 from Int.natCast_ediv x3 256], by show x3 / 256 = X / 256 ^ (k + 1); rw [HX3.out, Nat.pow_succ, Nat.div_div_eq_div_mul], by rw [HBY.out]; exact HO.out.set (n + k) (Cm.byteAt X k), HB2.out.setCell (by show w.heap.size ≤ g; omega) _⟩
              case measure => simp [intOf]; omega
            · obtain rfl : k = 4 := by omega
              have hltI5 : ¬ (((4 : Nat) : Int) < 4) := by omega
              go_wp2_with fail
              go_ret2
              exact ⟨bs, g, cap, rfl, HO.out, hgs, HB2.out⟩
end Go.Proofs.YtjppcjcflcnliaaDoor
