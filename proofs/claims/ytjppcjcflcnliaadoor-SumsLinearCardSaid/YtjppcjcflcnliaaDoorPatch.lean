/- The contracts of slices.Clone and of Patch of package sums. Conditions: the table of half bytes, a slice that holds the bytes, at most 10^6 of them. -/
import Derived.Test.YtjppcjcflcnliaaDoorLocate
import Derived.Test.YtjppcjcflcnliaaDoorApp
import Derived.Test.YtjppcjcflcnliaaDoorMath4
namespace Go.Proofs.YtjppcjcflcnliaaDoor
open Go.RowKit

theorem eq_some_nil (w : World) (a : Addr) (n c : Nat) : (binOp .eql 23 (.slice (some a) n c) (.slice none 0 0)).run Tryd.prog w = .ok (.bool false) w := by
  have h : ∀ d : Nat, (Op.equalIn (d + 1) 23 (.slice (some a) n c) (.slice none 0 0)).run Tryd.prog w = .ok false w := fun d => by
    simp [Op.equalIn, run_underlying Tryd.underlying23]
  simp only [binOp]
  simp [Op.equal, Op.maxDepth, h 9999]
set_option maxRecDepth 100000 in
theorem clone_any (w : World) (v : Value) (y : List UInt8) (hv : SL encB w w.heap.size v y) (h0 : 0 < y.length) (hy : y.length ≤ 1000000) :
    Calls Tryd.prog 41 #[v] w fun e w' => ∃ g cap, e = .returned (.slice (some ⟨g, 0, none⟩) y.length cap) ∧ OwnB w' w.heap.size g y.length cap y ∧ Below w.heap.size w w' := by
  obtain ⟨A, c0, rfl⟩ := hv.form
  obtain ⟨b, off, hA, _⟩ := hv.at h0
  subst hA
  have hB1 : Below w.heap.size w (w.alloc (.cells #[] 5)) := (Below.refl _ _).alloc (Nat.le_refl _) _
  have HV := Lib.hid (hv.below hB1 (Nat.le_refl _))
  have HN := Lib.hid (own_new w 5)
  have HB1 := Lib.hid hB1
  have hnil := eq_some_nil
  clear hv hB1
  go_enter Tryd.func41, Tryd.ntmps41
  go_wp2_with (at_builtin; refine wpList_append_sl rfl _ _ rfl w.heap.size _ _ 0 [] rfl HN.out _ y rfl HV.out (by omega) (by simp) ?_; intro v' w2 hown hgrow)
  rw [List.nil_append, Nat.zero_add] at hown
  obtain ⟨g, cap, rfl, ho⟩ := OwnB.of_row h0 rfl hown
  have HO := Lib.hid ho
  have HB2 : Hid (Below w.heap.size w w2) := HB1.out.grown hgrow (by simp) (fun k hk => by have : w.heap.size = k := Option.some.inj hk; omega)
  clear hown hgrow ho
  go_wp2_with fail
  go_ret
  exact ⟨g, cap, rfl, HO.out, HB2.out⟩
theorem patch_bad (w : World) (v : Value) (y : List UInt8) (at' : Int) (want : Nat) (hv : SL encB w w.heap.size v y) (hy : y.length ≤ 1000000) (hbad : at' < 0 ∨ (y.length : Int) - 4 < at') :
    Calls Tryd.prog 22 #[v, .int .i64 at', .int .u32 (want : Int)] w fun e w' => e = .returned (.tuple #[.slice none 0 0, .int .i64 7]) ∧ w = w' := by
  obtain ⟨A, c0, rfl⟩ := hv.form
  clear hv
  by_cases h1 : at' < 0
  · go_enter Tryd.func22, Tryd.ntmps22
    go_wp2_with fail
    go_ret2
    exact ⟨rfl, rfl⟩
  · have h2 : (y.length : Int) - 4 < at' := by omega
    clear hbad
    go_enter Tryd.func22, Tryd.ntmps22
    go_wp2_with fail
    go_ret2
    exact ⟨rfl, rfl⟩
theorem byte_val (X k : Nat) : (X : Int) / 2 ^ (8 * k) % 256 = ((Cm.byteAt X k).toNat : Int) := by
  rw [Cm.byteAt_nat, show (256 : Nat) ^ k = 2 ^ (8 * k) by rw [Nat.pow_mul]]
  have e : (X : Int) / 2 ^ (8 * k) = ((X / 2 ^ (8 * k) : Nat) : Int) := by rw [Int.natCast_ediv, Int.natCast_pow]; rfl
  rw [e]; omega
set_option maxRecDepth 100000 in
set_option maxHeartbeats 2000000 in
theorem patch_ok (w : World) (v : Value) (y : List UInt8) (n want : Nat) (hT : TB w) (hv : SL encB w w.heap.size v y) (hy : y.length ≤ 1000000) (hn : n + 4 ≤ y.length) (hw : want < 4294967296) :
    Calls Tryd.prog 22 #[v, .int .i64 (n : Int), .int .u32 (want : Int)] w fun e w' => ∃ bs g cap, e = .returned (.tuple #[.slice (some ⟨g, 0, none⟩) y.length cap, .int .i64 0]) ∧ OwnB w' bs g y.length cap (Cm.patL y n (Cm.patN y n want) 4) ∧ w.heap.size ≤ bs ∧ Below w.heap.size w w' := by
  obtain ⟨A, c0, rfl⟩ := hv.form
  obtain ⟨X, hX⟩ : ∃ X, X = Cm.patN y n want := ⟨_, rfl⟩
  have hX32 := Cm.patN_lt y n want hw
  rw [← hX] at hX32 ⊢
  have HX := Lib.hid hX
  clear hX
  have hcap := hv.cap
  obtain ⟨b, off, hA, hbl, hcell⟩ := hv.at (by omega)
  subst hA
  have hf := hv.first (k := n) (by omega)
  have HF := Lib.hid hf
  have HV := Lib.hid hv
  have HT := Lib.hid hT
  have HCL := Lib.hid hcell
  have h0 := hT.lt
  have h1 : ¬ ((n : Int) < 0) := by omega
  have h2 : ¬ ((y.length : Int) - 4 < (n : Int)) := by omega
  have hnI : (n : Int) ≤ (c0 : Int) := by omega
  have HC := Lib.hid (crc_any w _ (y.take n) hT hf (by simp; omega))
  clear hv hf hT hcell
  go_enter Tryd.func22, Tryd.ntmps22
  go_wp2_with fail
  refine HC.out.mono ?_
  rintro e w1 ⟨rfl, hb⟩
  have HB1 := Lib.hid hb
  clear hb HC
  go_wp2_with fail
  refine (toReg_any _ _ (Cm.crc_lt _)).mono ?_
  rintro e w' ⟨rfl, rfl⟩
  obtain ⟨bf, hbf⟩ : ∃ bf, bf = Cm.crc (y.take n) ^^^ Cm.top := ⟨_, rfl⟩
  have hbf32 : bf < 4294967296 := by rw [hbf]; exact Cm.xor_lt (Cm.crc_lt _) Cm.top_lt
  have HBF : Hid (bf = Cm.go Cm.top (y.take n)) := by rw [hbf]; unfold Cm.crc Cm.on; rw [Nat.zero_xor, Cm.xor_xor]; rfl
  rw [← hbf]
  clear hbf
  go_wp2_with fail
  refine (toReg_any _ _ hw).mono ?_
  rintro e w' ⟨rfl, rfl⟩
  obtain ⟨wt, hwt⟩ : ∃ wt, wt = want ^^^ Cm.top := ⟨_, rfl⟩
  have hwt32 : wt < 4294967296 := by rw [hwt]; exact Cm.xor_lt hw Cm.top_lt
  rw [← hwt]
  have HWT := Lib.hid hwt
  have HN := Lib.hid (Blk.new w1 #[.int .u32 (wt : Int)] 53)
  clear hwt
  go_wp2_with fail
  go_loopw [10] (fun i wr => ∃ k : Nat, n + 4 ≤ k ∧ k ≤ y.length ∧ i = .int .i64 ((k : Int) - 1) ∧ Hid (Blk wr w1.heap.size #[.int .u32 ((Cm.unGo wt (y.drop k) : Nat) : Int)] 53) ∧ Hid (Below w1.heap.size w1 wr)) (fun i _ => (intOf i).toNat)
  case atStart => exact ⟨y.length, hn, Nat.le_refl _, rfl, by rw [Cm.unGo_end]; exact HN.out, (Below.refl _ _).alloc (Nat.le_refl _) _⟩
  case round =>
    clear HN
    obtain ⟨k, hk1, hk2, rfl, HBk, HB⟩ := hrel
    by_cases hlt : n + 4 < k
    · obtain ⟨j, rfl⟩ : ∃ j, k = j + 1 := ⟨k - 1, by omega⟩
      have hjI : (((j + 1 : Nat) : Int) - 1) = (j : Int) := by omega
      rw [hjI]
      have hj0 : (n : Int) + 4 ≤ (j : Int) := by omega
      have hj1 : (j : Int) < (y.length : Int) := by omega
      have hc := (HB.out.cell (p := ⟨b, off + j, none⟩) (show b < w1.heap.size by have := HB1.out.size; omega)).trans ((HB1.out.cell (p := ⟨b, off + j, none⟩) hbl).trans (HCL.out j (by omega)))
      unfold encB at hc
      have hc8 := y[j].toNat_lt
      have HU := undo_any wr w1.heap.size 0 _ _ _ y[j].toNat HBk.out rfl (Cm.unGo_lt hwt32 _) (by omega)
      rw [← Cm.unGo_step wt y j (by omega)] at HU
      have HU2 := Lib.hid HU
      obtain ⟨c, hcc⟩ : ∃ c, c = y[j].toNat := ⟨_, rfl⟩
      rw [← hcc] at hc hc8 HU2
      clear HU hjI hcc
      go_wp2_with fail
      refine HU2.out.mono ?_
      rintro e w2 ⟨rfl, hb2, hg2⟩
      have HB2 : Hid (Blk w2 w1.heap.size #[.int .u32 ((Cm.unGo wt (y.drop j) : Nat) : Int)] 53) := hb2
      have HBB : Hid (Below w1.heap.size w1 w2) := below_grown HB.out hg2 HB.out.size (Nat.le_refl _)
      clear hb2 hg2 HU2 HBk
      go_wp2_with fail
      go_roundw
      case rel => exact ⟨j, by omega, by omega, rfl, HB2.out, HBB.out⟩
      case measure => simp [intOf]; omega
    · obtain rfl : k = n + 4 := by omega
      have hI : ¬ ((n : Int) + 4 ≤ ((n + 4 : Nat) : Int) - 1) := by omega
      have hd : decide ((n : Int) + 4 ≤ (n : Int) + 4 - 1) = false := decide_eq_false (by omega)
      have hul := Cm.unGo_lt hwt32 (y.drop (n + 4))
      obtain ⟨U, hU⟩ : ∃ U, U = Cm.unGo wt (y.drop (n + 4)) := ⟨_, rfl⟩
      rw [← hU] at hul HBk
      have HUU := Lib.hid hU
      clear hU
      go_wp2_with fail
      go_loopw [44] (fun i wr => ∃ k : Nat, k ≤ 4 ∧ i = .int .i64 k ∧ Hid (Blk wr w1.heap.size #[.int .u32 ((Cm.backs k U : Nat) : Int)] 53) ∧ Hid (Below w1.heap.size w1 wr)) (fun i _ => 4 - (intOf i).toNat)
      case atStart => exact ⟨0, by omega, rfl, HBk.out, HB.out⟩
      case round =>
        clear HBk HB
        obtain ⟨k, hk, rfl, HBk, HB⟩ := hrel
        by_cases hlt4 : k < 4
        · have hltI : (k : Int) < 4 := by omega
          have HU := undo_any _ w1.heap.size 0 _ _ _ 0 HBk.out rfl (Cm.backs_lt k hul) (by omega)
          rw [back_zero, ← Cm.backs_succ] at HU
          have HU2 := Lib.hid HU
          clear HU
          go_wp2_with fail
          refine HU2.out.mono ?_
          rintro e w2 ⟨rfl, hb2, hg2⟩
          have HB2 : Hid (Blk w2 w1.heap.size #[.int .u32 ((Cm.backs (k + 1) U : Nat) : Int)] 53) := hb2
          have HBB : Hid (Below w1.heap.size w1 w2) := below_grown HB.out hg2 HB.out.size (Nat.le_refl _)
          clear hb2 hg2 HU2 HBk
          go_wp2_with fail
          go_roundw
          case rel => exact ⟨k + 1, by omega, by go_num, HB2.out, HBB.out⟩
          case measure => simp [intOf]; omega
        · obtain rfl : k = 4 := by omega
          have hc4 := HBk.out.cell 0 (v := .int .u32 ((Cm.backs 4 U : Nat) : Int)) rfl
          have hxx := xor32 bf (Cm.backs 4 U) hbf32 (Cm.backs_lt 4 hul)
          have hXX : Hid (bf ^^^ Cm.backs 4 U = X) := by rw [HX.out, HBF.out, HUU.out, HWT.out]; rfl
          rw [hXX.out] at hxx
          obtain ⟨bk, hbk⟩ : ∃ bk, bk = Cm.backs 4 U := ⟨_, rfl⟩
          rw [← hbk] at hc4 hxx
          clear hbk hXX
          have hltI : ¬ (((4 : Nat) : Int) < 4) := by omega
          go_wp2_with fail
          have hBB : Below w.heap.size w wr := HB1.out.trans (HB.out.mono HB1.out.size)
          have HVr := HV.out.next hBB
          have HBB := Lib.hid hBB
          clear hBB HBk hc4 hI
          refine (clone_any wr _ y HVr (by omega) hy).mono ?_
          rintro e w2 ⟨g, cap, rfl, ho, hb⟩
          have HB2 : Hid (Below w.heap.size w w2) := HBB.out.trans (hb.mono HBB.out.size)
          have hgs := HBB.out.size
          obtain ⟨bs, hbs⟩ : ∃ bs, bs = wr.heap.size := ⟨_, rfl⟩
          rw [← hbs] at ho hgs
          have HO := Lib.hid ho
          have hge : bs ≤ g := ho.lt.1
          clear ho hb HVr hbs HBB
          go_wp2_with fail
          go_loopw [53] (fun i ws => ∃ k : Nat, k ≤ 4 ∧ i = .int .i64 k ∧ Hid (OwnB ws bs g y.length cap (Cm.patL y n X k)) ∧ Hid (Below w.heap.size w ws)) (fun i _ => 4 - (intOf i).toNat)
          case atStart => exact ⟨0, by omega, rfl, HO.out, HB2.out⟩
          case round =>
            clear HO HB2
            obtain ⟨k, hk, rfl, HO, HB2⟩ := hrel
            by_cases hlt5 : k < 4
            · have hltI5 : (k : Int) < 4 := by omega
              have hlen := Cm.patL_len y n X k
              have hin : n + k < (Cm.patL y n X k).length := by rw [hlen]; omega
              obtain ⟨vv, hce⟩ : ∃ vv, wr.cell? ⟨g, n + k, none⟩ = some vv := ⟨_, HO.out.cell (n + k) hin⟩
              have hfr := HO.out.free (n + k)
              clear hlen
              have hnk : (n : Int) + (k : Int) < (y.length : Int) := by omega
              go_wp2_with fail
              go_roundw
              case rel => exact ⟨k + 1, by omega, by go_num, by rw [byte_val]; exact HO.out.set (n + k) (Cm.byteAt X k), HB2.out.setCell (by show w.heap.size ≤ g; omega) _⟩
              case measure => simp [intOf]; omega
            · obtain rfl : k = 4 := by omega
              have hltI5 : ¬ (((4 : Nat) : Int) < 4) := by omega
              go_wp2_with fail
              go_ret2
              exact ⟨bs, g, cap, rfl, HO.out, hgs, HB2.out⟩
end Go.Proofs.YtjppcjcflcnliaaDoor
