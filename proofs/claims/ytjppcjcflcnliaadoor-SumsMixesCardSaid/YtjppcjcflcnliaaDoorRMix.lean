/- The contracts of halves, MixOn, Mix, Roll of the reference. Conditions: a slice that holds the bytes, numbers of 64 bits. -/
import Derived.Test.YtjppcjcflcnliaaDoorMix
namespace Go.Proofs.YtjppcjcflcnliaaDoor
open Go.RowKit

theorem ret_t3 {a b : Value} {s t : Bool} (h : s = t) : Ending.returned (.tuple #[a, b, .bool s]) = .returned (.tuple #[a, b, .bool t]) := by rw [h]
set_option maxRecDepth 100000 in
theorem rhalves_any (w : World) (h : Nat) (hh : h < 18446744073709551616) :
    Calls Tryd.prog 46 #[.int .u64 (h : Int)] w fun e w' => e = .returned (.tuple #[.int .u64 (((Cm.mixed h).1 : Nat) : Int), .int .u64 (((Cm.mixed h).2 : Nat) : Int), .bool (halvesIs h)]) ∧ w = w' := by
  obtain ⟨t, ht⟩ : ∃ t, t = halvesIs h := ⟨_, rfl⟩
  rw [← ht]
  unfold halvesIs at ht
  obtain ⟨x, hx⟩ : ∃ x, x = h % 4294967296 := ⟨_, rfl⟩
  obtain ⟨y, hy⟩ : ∃ y, y = h / 4294967296 := ⟨_, rfl⟩
  rw [show (Cm.mixed h).1 = x from hx.symm, show (Cm.mixed h).2 = y from hy.symm]
  rw [← hx, ← hy] at ht
  have hxI : (h : Int) % 4294967296 = (x : Int) := by omega
  have hyI : (h : Int) / 4294967296 = (y : Int) := by omega
  clear hx hy
  by_cases m1 : x < 4294967291
  · have d1 : decide ((x : Int) < 4294967291) = true := decide_eq_true (by omega)
    by_cases m2 : y < 4294967291
    · have d2 : decide ((y : Int) < 4294967291) = true := decide_eq_true (by omega)
      have HT : Hid (true = t) := by rw [ht, decide_eq_true m1, decide_eq_true m2]; rfl
      clear ht
      go_enter Tryd.func46, Tryd.ntmps46
      go_wp2_with fail
      refine bodyPost_ret (v := .tuple #[.int .u64 (x : Int), .int .u64 (y : Int), .bool true]) (by simp [results, Tryd.results46, go_sem, hxI]) rfl ⟨ret_t3 HT.out, rfl⟩
    · have d2 : decide ((y : Int) < 4294967291) = false := decide_eq_false (by omega)
      have HT : Hid (false = t) := by rw [ht, decide_eq_true m1, decide_eq_false m2]; rfl
      clear ht
      go_enter Tryd.func46, Tryd.ntmps46
      go_wp2_with fail
      refine bodyPost_ret (v := .tuple #[.int .u64 (x : Int), .int .u64 (y : Int), .bool false]) (by simp [results, Tryd.results46, go_sem, hxI]) rfl ⟨ret_t3 HT.out, rfl⟩
  · have d1 : decide ((x : Int) < 4294967291) = false := decide_eq_false (by omega)
    have HT : Hid (false = t) := by rw [ht, decide_eq_false m1]; rfl
    clear ht
    go_enter Tryd.func46, Tryd.ntmps46
    go_wp2_with fail
    refine bodyPost_ret (v := .tuple #[.int .u64 (x : Int), .int .u64 (y : Int), .bool false]) (by simp [results, Tryd.results46, go_sem, hxI]) rfl ⟨ret_t3 HT.out, rfl⟩
set_option maxRecDepth 100000 in
set_option maxHeartbeats 1000000 in
theorem rmixOn_ok (w : World) (h lim : Nat) (v : Value) (y : List UInt8) (hv : SL encB w lim v y) (hh : h < 18446744073709551616) (hm : Cm.isMix h) (hy : y.length ≤ 9223372036854775807) :
    Calls Tryd.prog 28 #[.int .u64 (h : Int), v] w fun e w' => e = .returned (.tuple #[.int .u64 ((mixOnN h y : Nat) : Int), .int .i64 0]) ∧ w = w' := by
  obtain ⟨A, c0, rfl⟩ := hv.form
  have HV := Lib.hid hv
  have HO := Lib.hid (mixed_ok hm)
  have HT := rhalves_any w h hh
  rw [halvesIs_true hm] at HT
  have HE : Hid (mixOnN h y = Cm.mval (Cm.mgo (Cm.mixed h) y)) := rfl
  clear hv hm
  obtain ⟨m0, hm0⟩ : ∃ m, m = Cm.mixed h := ⟨_, rfl⟩
  rw [← hm0] at HT HE HO
  obtain ⟨p, hp⟩ : ∃ p, p = m0.1 := ⟨_, rfl⟩
  obtain ⟨q, hq⟩ : ∃ q, q = m0.2 := ⟨_, rfl⟩
  rw [← hp, ← hq] at HT
  have HT2 := Lib.hid HT
  have HP := Lib.hid hp
  have HQ := Lib.hid hq
  clear HT hm0 hp hq
  go_enter Tryd.func28, Tryd.ntmps28
  go_wp2_with fail
  refine HT2.out.mono ?_
  rintro e w1 ⟨rfl, rfl⟩
  go_wp2_with fail
  go_loop [6, 7, 9] (fun a b i => ∃ k p q : Nat, k ≤ y.length ∧ i = .int .i64 k ∧ a = .int .u64 (p : Int) ∧ b = .int .u64 (q : Int) ∧ Hid ((p, q) = Cm.mgo m0 (y.take k))) (fun _ _ i => y.length - (intOf i).toNat)
  case atStart => exact ⟨0, p, q, by omega, rfl, rfl, rfl, by show (p, q) = m0; rw [HP.out, HQ.out]⟩
  case round =>
    obtain ⟨k, a, b, hk, rfl, rfl, rfl, HX⟩ := hrel
    have hok : Cm.okM (a, b) := by rw [HX.out]; exact Cm.mgo_ok _ HO.out
    obtain ⟨ha, hb⟩ := hok
    simp only at ha hb
    by_cases hlt : k < y.length
    · have hltI : (k : Int) < (y.length : Int) := by omega
      obtain ⟨pb, off, hA, hpb, hc⟩ := HV.out.at (by omega)
      subst hA
      have hcell := hc k hlt
      unfold encB at hcell
      have hc8 := y[k].toNat_lt
      obtain ⟨a2, ha2⟩ : ∃ a2, a2 = (a + y[k].toNat) % 4294967291 := ⟨_, rfl⟩
      obtain ⟨b2, hb2⟩ : ∃ b2, b2 = (b + a2) % 4294967291 := ⟨_, rfl⟩
      have HN : Hid ((a2, b2) = Cm.mgo m0 (y.take (k + 1))) := by
        show _ = _
        rw [take_succ y k hlt, Cm.mgo_snoc, ← HX.out, hb2, ha2]; rfl
      have ha3 : a2 < 4294967291 := by omega
      obtain ⟨c, hcc⟩ : ∃ c, c = y[k].toNat := ⟨_, rfl⟩
      rw [← hcc] at hcell hc8 ha2
      have h1 : ((a : Int) + (c : Int)) % 4294967291 = (a2 : Int) := by omega
      have h2 : ((b : Int) + (a2 : Int)) % 4294967291 = (b2 : Int) := by omega
      clear hc hcc ha2 hb2
      go_wp2_with fail
      go_round
      case rel => exact ⟨k + 1, a2, b2, by omega, by go_num, by rw [h1], by rw [h2], HN.out⟩
      case measure => simp [intOf]; omega
    · have hltI : ¬ ((k : Int) < (y.length : Int)) := by omega
      have HX2 : Hid (Cm.mval (a, b) = mixOnN h y) := by
        rw [HE.out, HX.out, show k = y.length by omega, List.take_length]; rfl
      have hsum : (b : Int) * 4294967296 + (a : Int) = ((mixOnN h y : Nat) : Int) := by rw [← HX2.out]; unfold Cm.mval; simp only; omega
      have HSU := Lib.hid hsum
      clear hsum HX2
      go_wp2_with fail
      go_ret2
      exact ⟨ret_int2 HSU.out, rfl⟩
theorem rmixOn_bad (w : World) (h : Nat) (v : Value) (hh : h < 18446744073709551616) (hm : ¬ Cm.isMix h) :
    Calls Tryd.prog 28 #[.int .u64 (h : Int), v] w fun e w' => e = .returned (.tuple #[.int .u64 0, .int .i64 6]) ∧ w = w' := by
  have HT := rhalves_any w h hh
  rw [halvesIs_false hm] at HT
  have HT2 := Lib.hid HT
  clear HT hm
  go_enter Tryd.func28, Tryd.ntmps28
  go_wp2_with fail
  refine HT2.out.mono ?_
  rintro e w1 ⟨rfl, rfl⟩
  go_wp2_with fail
  go_ret2
  exact ⟨rfl, rfl⟩
theorem mixOn_one (y : List UInt8) : mixOnN 1 y = Cm.mix y := rfl
theorem rmix_any (w : World) (lim : Nat) (v : Value) (y : List UInt8) (hv : SL encB w lim v y) (hy : y.length ≤ 9223372036854775807) :
    Calls Tryd.prog 32 #[v] w fun e w' => e = .returned (.int .u64 ((Cm.mix y : Nat) : Int)) ∧ w = w' := by
  have HM := rmixOn_ok w 1 lim v y hv (by omega) ⟨by omega, by omega⟩ hy
  rw [mixOn_one] at HM
  have HM2 := Lib.hid HM
  clear HM hv
  go_enter Tryd.func32, Tryd.ntmps32
  go_wp2_with fail
  refine HM2.out.mono ?_
  rintro e w1 ⟨rfl, rfl⟩
  go_wp2_with fail
  go_ret
  exact ⟨rfl, rfl⟩
theorem rollA_eq (p out inn : Nat) (ho : out < 256) : (p + 4294967291 - out + inn) % 4294967291 = Cm.rollA p out inn := by unfold Cm.rollA; omega
theorem rollB_eq (q p2 n out : Nat) (hM : n * out ≤ 255000000) : (q + 4294967291 - n * out + p2 + 4294967291 - 1) % 4294967291 = Cm.rollB q p2 n out := by
  unfold Cm.rollB
  generalize n * out = M at *
  omega
set_option maxRecDepth 100000 in
set_option maxHeartbeats 1000000 in
theorem rroll_ok (w : World) (h n out inn : Nat) (hh : h < 18446744073709551616) (hm : Cm.isMix h) (hn1 : 1 ≤ n) (hn2 : n ≤ 1000000) (ho : out < 256) (hi : inn < 256) :
    Calls Tryd.prog 30 #[.int .u64 (h : Int), .int .i64 (n : Int), .int .u8 (out : Int), .int .u8 (inn : Int)] w fun e w' => e = .returned (.tuple #[.int .u64 ((rollN h n out inn : Nat) : Int), .int .i64 0]) ∧ w = w' := by
  have HO := mixed_ok hm
  have HT := rhalves_any w h hh
  rw [halvesIs_true hm] at HT
  have HE : rollN h n out inn = Cm.mval (Cm.roll (Cm.mixed h) n out inn) := rfl
  clear hm
  obtain ⟨⟨p, q⟩, hpq⟩ : ∃ m, m = Cm.mixed h := ⟨_, rfl⟩
  rw [← hpq] at HT HE HO
  have HT2 := Lib.hid HT
  obtain ⟨hp, hq⟩ := HO
  simp only at hp hq HT2
  clear HT hpq
  obtain ⟨p2, hp2⟩ : ∃ p2, p2 = Cm.rollA p out inn := ⟨_, rfl⟩
  obtain ⟨q2, hq2⟩ : ∃ q2, q2 = Cm.rollB q p2 n out := ⟨_, rfl⟩
  have hp3 : p2 < 4294967291 := by rw [hp2]; exact Nat.mod_lt _ (by omega)
  have hq3 : q2 < 4294967291 := by rw [hq2]; exact Nat.mod_lt _ (by omega)
  have hsum : (q2 : Int) * 4294967296 + (p2 : Int) = ((rollN h n out inn : Nat) : Int) := by rw [HE, show Cm.roll (p, q) n out inn = (p2, q2) by rw [hq2, hp2]; rfl]; unfold Cm.mval; simp only; omega
  have hM2 : n * out ≤ 255000000 := Nat.le_trans (Nat.mul_le_mul hn2 (show out ≤ 255 by omega)) (by omega)
  have hA0 := rollA_eq p out inn ho
  have hB0 := rollB_eq q p2 n out hM2
  rw [← hp2] at hA0
  rw [← hq2] at hB0
  obtain ⟨M, hM⟩ : ∃ M, M = n * out := ⟨_, rfl⟩
  rw [← hM] at hM2 hB0
  have hMI : (n : Int) * (out : Int) = (M : Int) := by rw [hM, Int.natCast_mul]
  have hA : ((p : Int) + 4294967291 - (out : Int) + (inn : Int)) % 4294967291 = (p2 : Int) := by omega
  have hB : ((q : Int) + 4294967291 - (M : Int) + (p2 : Int) + 4294967291 - 1) % 4294967291 = (q2 : Int) := by omega
  have HSU := Lib.hid hsum
  clear hp2 hq2 hM HE hA0 hB0 hsum
  have h1 : ¬ ((n : Int) < 1) := by omega
  have h2 : ¬ ((1000000 : Int) < (n : Int)) := by omega
  go_enter Tryd.func30, Tryd.ntmps30
  go_wp2_with fail
  refine HT2.out.mono ?_
  rintro e w1 ⟨rfl, rfl⟩
  go_wp2_with fail
  go_ret2
  exact ⟨ret_int2 HSU.out, rfl⟩
theorem rroll_form (w : World) (h : Nat) (n : Int) (out inn : Nat) (hh : h < 18446744073709551616) (hm : ¬ Cm.isMix h) :
    Calls Tryd.prog 30 #[.int .u64 (h : Int), .int .i64 n, .int .u8 (out : Int), .int .u8 (inn : Int)] w fun e w' => e = .returned (.tuple #[.int .u64 0, .int .i64 6]) ∧ w = w' := by
  have HT := rhalves_any w h hh
  rw [halvesIs_false hm] at HT
  have HT2 := Lib.hid HT
  clear HT hm
  go_enter Tryd.func30, Tryd.ntmps30
  go_wp2_with fail
  refine HT2.out.mono ?_
  rintro e w1 ⟨rfl, rfl⟩
  go_wp2_with fail
  go_ret2
  exact ⟨rfl, rfl⟩
theorem rroll_range (w : World) (h : Nat) (n : Int) (out inn : Nat) (hh : h < 18446744073709551616) (hm : Cm.isMix h) (hn : n < 1 ∨ 1000000 < n) :
    Calls Tryd.prog 30 #[.int .u64 (h : Int), .int .i64 n, .int .u8 (out : Int), .int .u8 (inn : Int)] w fun e w' => e = .returned (.tuple #[.int .u64 0, .int .i64 7]) ∧ w = w' := by
  have HT := rhalves_any w h hh
  rw [halvesIs_true hm] at HT
  have HT2 := Lib.hid HT
  clear HT hm
  rcases hn with h1 | h1
  · go_enter Tryd.func30, Tryd.ntmps30
    go_wp2_with fail
    refine HT2.out.mono ?_
    rintro e w1 ⟨rfl, rfl⟩
    go_wp2_with fail
    go_ret2
    exact ⟨rfl, rfl⟩
  · have h2 : ¬ n < 1 := by omega
    go_enter Tryd.func30, Tryd.ntmps30
    go_wp2_with fail
    refine HT2.out.mono ?_
    rintro e w1 ⟨rfl, rfl⟩
    go_wp2_with fail
    go_ret2
    exact ⟨rfl, rfl⟩
end Go.Proofs.YtjppcjcflcnliaaDoor
