/- The contracts of toHalves, add and mix of the two halves, MixOn, Mix, Roll of package sums. Conditions: a slice that holds the bytes, numbers of 64 bits. -/
import Derived.Test.YtjppcjcflcnliaaDoorEach
namespace Go.Proofs.YtjppcjcflcnliaaDoor
open Go.RowKit

def hcol (m : Nat × Nat) : Array Value := #[.int .u64 ((m.1 : Nat) : Int), .int .u64 ((m.2 : Nat) : Int)]
theorem and32 (h : Nat) (hh : h < 18446744073709551616) : bits .and .u64 (h : Int) 4294967295 = ((h % 4294967296 : Nat) : Int) := by
  rw [show (4294967295 : Int) = ((4294967295 : Nat) : Int) from rfl, bits_and_u64_nat h 4294967295 hh (by omega), show (4294967295 : Nat) = 2 ^ 32 - 1 from rfl, Nat.and_two_pow_sub_one_eq_mod]
def halvesIs (h : Nat) : Bool := decide (h % 4294967296 < 4294967291) && decide (h / 4294967296 < 4294967291)
theorem halvesIs_true {h : Nat} (hm : Cm.isMix h) : halvesIs h = true := by unfold halvesIs; rw [decide_eq_true hm.1, decide_eq_true hm.2]; rfl
theorem halvesIs_false {h : Nat} (hm : ¬ Cm.isMix h) : halvesIs h = false := by
  unfold halvesIs
  by_cases h1 : h % 4294967296 < 4294967291
  · have h2 : ¬ h / 4294967296 < 4294967291 := fun h2 => hm ⟨h1, h2⟩
    rw [decide_eq_false h2, Bool.and_false]
  · rw [decide_eq_false h1, Bool.false_and]
set_option maxRecDepth 100000 in
set_option maxHeartbeats 1000000 in
theorem toHalves_any (w : World) (h : Nat) (hh : h < 18446744073709551616) :
    Calls Tryd.prog 43 #[.int .u64 (h : Int)] w fun e w' => e = .returned (.tuple #[.agg (hcol (Cm.mixed h)), .bool (halvesIs h)]) ∧ Below w.heap.size w w' := by
  have ha := and32 h hh
  obtain ⟨t, ht⟩ : ∃ t, t = halvesIs h := ⟨_, rfl⟩
  rw [← ht]
  unfold halvesIs at ht
  obtain ⟨x, hx⟩ : ∃ x, x = h % 4294967296 := ⟨_, rfl⟩
  obtain ⟨y, hy⟩ : ∃ y, y = h / 4294967296 := ⟨_, rfl⟩
  rw [← hx] at ha ht
  rw [← hy] at ht
  have hyI : (h : Int) / 4294967296 = (y : Int) := by omega
  have HM : Hid (hcol (Cm.mixed h) = #[.int .u64 (x : Int), .int .u64 (y : Int)]) := by rw [hx, hy]; rfl
  rw [HM.out]
  clear hx hy
  by_cases m1 : x < 4294967291
  · have d1 : decide ((x : Int) < 4294967291) = true := decide_eq_true (by omega)
    by_cases m2 : y < 4294967291
    · have d2 : decide ((y : Int) < 4294967291) = true := decide_eq_true (by omega)
      have HT : Hid (t = true) := by rw [ht, decide_eq_true m1, decide_eq_true m2]; rfl
      clear ht
      go_enter Tryd.func43, Tryd.ntmps43
      go_wp2_with fail
      go_region
      all_goals
        go_wp2
        refine bodyPost_ret (v := .tuple #[.agg #[.int .u64 (x : Int), .int .u64 (y : Int)], .bool true]) (by simp [results, Tryd.results43, go_sem]) rfl ⟨by rw [HT.out], ?_⟩
        exact ((((Below.refl _ _).alloc (Nat.le_refl _) _).alloc (by simp) _).drew)
    · have d2 : decide ((y : Int) < 4294967291) = false := decide_eq_false (by omega)
      have HT : Hid (t = false) := by rw [ht, decide_eq_true m1, decide_eq_false m2]; rfl
      clear ht
      go_enter Tryd.func43, Tryd.ntmps43
      go_wp2_with fail
      go_region
      all_goals
        go_wp2
        refine bodyPost_ret (v := .tuple #[.agg #[.int .u64 (x : Int), .int .u64 (y : Int)], .bool false]) (by simp [results, Tryd.results43, go_sem]) rfl ⟨by rw [HT.out], ?_⟩
        exact ((((Below.refl _ _).alloc (Nat.le_refl _) _).alloc (by simp) _).drew)
  · have d1 : decide ((x : Int) < 4294967291) = false := decide_eq_false (by omega)
    have HT : Hid (t = false) := by rw [ht, decide_eq_false m1]; rfl
    clear ht
    go_enter Tryd.func43, Tryd.ntmps43
    go_wp2_with fail
    go_region
    all_goals
      go_wp2
      refine bodyPost_ret (v := .tuple #[.agg #[.int .u64 (x : Int), .int .u64 (y : Int)], .bool false]) (by simp [results, Tryd.results43, go_sem]) rfl ⟨by rw [HT.out], ?_⟩
      exact ((((Below.refl _ _).alloc (Nat.le_refl _) _).alloc (by simp) _).drew)

set_option maxRecDepth 100000 in
set_option maxHeartbeats 1000000 in
theorem hadd_any (w : World) (b : Nat) (m : Nat × Nat) (c : UInt8) (t : TypeId) (hB : Blk w b (hcol m) t) (hm : Cm.okM m) :
    Calls Tryd.prog 44 #[.pointer (some ⟨b, 0, none⟩), .int .u8 (c.toNat : Int)] w fun e w' => e = .returned (.tuple #[]) ∧ Blk w' b (hcol (Cm.mstep m c)) t ∧ w.grownBy w' (some b) := by
  obtain ⟨x, y⟩ := m
  obtain ⟨hx, hy⟩ := hm
  simp only at hx hy
  have hc8 := c.toNat_lt
  obtain ⟨p, hp⟩ : ∃ p, p = (x + c.toNat) % 4294967291 := ⟨_, rfl⟩
  obtain ⟨q, hq⟩ : ∃ q, q = (y + p) % 4294967291 := ⟨_, rfl⟩
  have hp2 : p < 4294967291 := by omega
  have HM : Hid (hcol (Cm.mstep (x, y) c) = #[.int .u64 (p : Int), .int .u64 (q : Int)]) := by
    rw [hq, hp]; rfl
  have hB0 : Blk w b #[.int .u64 (x : Int), .int .u64 (y : Int)] t := hB
  have c0 := hB0.cell 0 (v := .int .u64 (x : Int)) rfl
  have c1 := hB0.cell 1 (v := .int .u64 (y : Int)) rfl
  have f0 := hB0.free 0
  have f1 := hB0.free 1
  have h1 : ((x : Int) + (c.toNat : Int)) % 4294967291 = (p : Int) := by omega
  have h2 : ((y : Int) + (p : Int)) % 4294967291 = (q : Int) := by omega
  have HB := Lib.hid hB0
  rw [HM.out]
  clear hB hB0 hp hq
  go_enter Tryd.func44, Tryd.ntmps44
  go_wp2_with fail
  go_region
  all_goals
    go_end0
    exact ⟨rfl, ((HB.out.set 0 (.int .u64 (p : Int))).set 1 (.int .u64 (q : Int))).drewN 1, grown_drewN (grown_set (grown_setCell w b 0 _) 1 _) 1⟩
set_option maxRecDepth 100000 in
set_option maxHeartbeats 1000000 in
theorem each_mix (w : World) (b : Nat) (m : Nat × Nat) (t : TypeId) (v : Value) (y : List UInt8) (hB : Blk w b (hcol m) t) (hv : SL encB w b v y) (hm : Cm.okM m) (hy : y.length ≤ 9223372036854775807) :
    Calls Tryd.prog 34 #[v, .func (.func 44) #[.pointer (some ⟨b, 0, none⟩)] #[]] w fun e w' => e = .returned (.tuple #[]) ∧ Blk w' b (hcol (Cm.mgo m y)) t ∧ w.grownBy w' (some b) := by
  obtain ⟨A, c0, rfl⟩ := hv.form
  have HV := Lib.hid hv
  have HB := Lib.hid hB
  have HM := Lib.hid hm
  have hbw := hB.lt
  clear hv hB hm
  go_enter Tryd.func34, Tryd.ntmps34
  go_wp2_with fail
  go_loopw [8] (fun i wr => ∃ k : Nat, k ≤ y.length ∧ i = .int .i64 k ∧ Hid (Blk wr b (hcol (Cm.mgo m (y.take k))) t) ∧ Hid (w.grownBy wr (some b))) (fun i _ => y.length - (intOf i).toNat)
  case atStart => exact ⟨0, by omega, rfl, by rw [List.take_zero]; exact HB.out, grown_refl _ _⟩
  case round =>
    obtain ⟨k, hk, rfl, HBk, HG⟩ := hrel
    by_cases hlt : k < y.length
    · have hltI : (k : Int) < (y.length : Int) := by omega
      obtain ⟨p, off, hA, hp, hc⟩ := HV.out.at (by omega)
      subst hA
      have hcell := (World.cell?_of_block (w := w) (a := ⟨p, off + k, none⟩) (HG.out.block p (by omega) (fun e => by have := Option.some.inj e; omega))).trans (hc k hlt)
      unfold encB at hcell
      have HA := Lib.hid (hadd_any wr b _ y[k] t HBk.out (Cm.mgo_ok _ HM.out))
      have HN : Hid (Cm.mgo m (y.take (k + 1)) = Cm.mstep (Cm.mgo m (y.take k)) y[k]) := by show _ = _; rw [take_succ y k hlt, Cm.mgo_snoc]
      clear hc
      go_wp2_with fail
      refine HA.out.mono ?_
      rintro e w' ⟨rfl, hB2, hG2⟩
      have HB2 := Lib.hid hB2
      have HG2 := Lib.hid hG2
      clear hB2 hG2
      go_wp2_with fail
      go_roundw
      case rel => exact ⟨k + 1, by omega, by go_num, by rw [HN.out]; exact HB2.out, grown_trans HG.out HG2.out⟩
      case measure => simp [intOf]; omega
    · obtain rfl : k = y.length := by omega
      have HBk2 := HBk
      rw [List.take_length] at HBk2
      go_wp2_with fail
      go_end0
      exact ⟨rfl, HBk2.out, HG.out⟩
theorem hmix_any (w : World) (m : Nat × Nat) (hm : Cm.okM m) :
    Calls Tryd.prog 45 #[.agg (hcol m)] w fun e w' => e = .returned (.int .u64 ((Cm.mval m : Nat) : Int)) ∧ Below w.heap.size w w' := by
  obtain ⟨x, y⟩ := m
  obtain ⟨hx, hy⟩ := hm
  simp only at hx hy
  have HV : Hid (Cm.mval (x, y) = y * 4294967296 + x) := rfl
  have hsum : (y : Int) * 4294967296 + (x : Int) = ((Cm.mval (x, y) : Nat) : Int) := by rw [HV.out]; omega
  have HS := Lib.hid hsum
  clear hsum
  unfold hcol
  go_enter Tryd.func45, Tryd.ntmps45
  go_wp2_with fail
  go_ret
  exact ⟨ret_int HS.out, (Below.refl _ _).alloc (Nat.le_refl _) _⟩
theorem mixed_ok {h : Nat} (hm : Cm.isMix h) : Cm.okM (Cm.mixed h) := hm
def mixOnN (h : Nat) (y : List UInt8) : Nat := Cm.mval (Cm.mgo (Cm.mixed h) y)
set_option maxRecDepth 100000 in
theorem mixOn_ok (w : World) (h : Nat) (v : Value) (y : List UInt8) (hv : SL encB w w.heap.size v y) (hh : h < 18446744073709551616) (hm : Cm.isMix h) (hy : y.length ≤ 9223372036854775807) :
    Calls Tryd.prog 27 #[.int .u64 (h : Int), v] w fun e w' => e = .returned (.tuple #[.int .u64 ((mixOnN h y : Nat) : Int), .int .i64 0]) ∧ Below w.heap.size w w' := by
  have HV := Lib.hid hv
  have HO := Lib.hid (mixed_ok hm)
  have HT := toHalves_any w h hh
  rw [halvesIs_true hm] at HT
  have HE : Hid (mixOnN h y = Cm.mval (Cm.mgo (Cm.mixed h) y)) := rfl
  clear hv hm
  obtain ⟨⟨p, q⟩, hpq⟩ : ∃ m, m = Cm.mixed h := ⟨_, rfl⟩
  rw [← hpq] at HT HE HO
  have HT2 : Hid (Calls Tryd.prog 43 #[.int .u64 (h : Int)] w fun e w' => e = .returned (.tuple #[.agg #[.int .u64 (p : Int), .int .u64 (q : Int)], .bool true]) ∧ Below w.heap.size w w') := HT
  clear HT hpq
  go_enter Tryd.func27, Tryd.ntmps27
  go_wp2_with fail
  refine HT2.out.mono ?_
  rintro e w1 ⟨rfl, hb⟩
  have HB1 := Lib.hid hb
  have hB2 : Below w.heap.size w (w1.alloc (.cells #[.int .u64 (p : Int), .int .u64 (q : Int)] 66)) := hb.alloc hb.size _
  have HV2 : Hid (SL encB (w1.alloc (.cells #[.int .u64 (p : Int), .int .u64 (q : Int)] 66)) w1.heap.size v y) := (HV.out.below hB2 (Nat.le_refl _)).mono hb.size
  have HB2 := Lib.hid hB2
  have hs1 := hb.size
  have HE1 := Lib.hid (each_mix _ w1.heap.size (p, q) _ v y (Blk.new w1 (hcol (p, q)) 66) HV2.out HO.out hy)
  clear hb HT2 hB2
  go_wp2_with fail
  refine HE1.out.mono ?_
  rintro e w2 ⟨rfl, hb, hg⟩
  have HB3 : Hid (Below w.heap.size w w2) := below_grown HB2.out hg (by simp; omega) hs1
  obtain ⟨⟨p2, q2⟩, hpq2⟩ : ∃ m, m = Cm.mgo (p, q) y := ⟨_, rfl⟩
  have ho2 : Cm.okM (p2, q2) := by rw [hpq2]; exact Cm.mgo_ok y HO.out
  rw [← hpq2] at hb HE
  have c0 := hb.cell 0 (v := .int .u64 (p2 : Int)) rfl
  have c1 := hb.cell 1 (v := .int .u64 (q2 : Int)) rfl
  have HH : Hid (Calls Tryd.prog 45 #[.agg #[.int .u64 (p2 : Int), .int .u64 (q2 : Int)]] w2 fun e w' => e = .returned (.int .u64 ((mixOnN h y : Nat) : Int)) ∧ Below w2.heap.size w2 w') := by
    rw [HE.out]; exact hmix_any w2 (p2, q2) ho2
  clear hb hg HE1 hpq2 ho2
  go_wp2_with fail
  refine HH.out.mono ?_
  rintro e w3 ⟨rfl, hb⟩
  have HB4 : Hid (Below w.heap.size w w3) := HB3.out.trans (hb.mono HB3.out.size)
  clear hb HH
  go_wp2_with fail
  go_ret2
  exact ⟨rfl, HB4.out⟩
set_option maxRecDepth 100000 in
theorem mixOn_bad (w : World) (h : Nat) (v : Value) (hh : h < 18446744073709551616) (hm : ¬ Cm.isMix h) :
    Calls Tryd.prog 27 #[.int .u64 (h : Int), v] w fun e w' => e = .returned (.tuple #[.int .u64 0, .int .i64 6]) ∧ Below w.heap.size w w' := by
  have HT := toHalves_any w h hh
  rw [halvesIs_false hm] at HT
  clear hm
  obtain ⟨⟨p, q⟩, hpq⟩ : ∃ m, m = Cm.mixed h := ⟨_, rfl⟩
  rw [← hpq] at HT
  have HT2 : Hid (Calls Tryd.prog 43 #[.int .u64 (h : Int)] w fun e w' => e = .returned (.tuple #[.agg #[.int .u64 (p : Int), .int .u64 (q : Int)], .bool false]) ∧ Below w.heap.size w w') := HT
  clear HT hpq
  go_enter Tryd.func27, Tryd.ntmps27
  go_wp2_with fail
  refine HT2.out.mono ?_
  rintro e w1 ⟨rfl, hb⟩
  have HB1 := Lib.hid hb
  clear hb HT2
  go_wp2_with fail
  go_ret2
  exact ⟨rfl, HB1.out.alloc HB1.out.size _⟩
set_option maxRecDepth 100000 in
theorem mix_any (w : World) (v : Value) (y : List UInt8) (hv : SL encB w w.heap.size v y) (hy : y.length ≤ 9223372036854775807) :
    Calls Tryd.prog 31 #[v] w fun e w' => e = .returned (.int .u64 ((Cm.mix y : Nat) : Int)) ∧ Below w.heap.size w w' := by
  have HV := Lib.hid hv
  have HE : Hid (Cm.mix y = Cm.mval (Cm.mgo (1, 0) y)) := rfl
  clear hv
  have hB2 : Below w.heap.size w (w.alloc (.cells #[.int .u64 1, .int .u64 0] 66)) := (Below.refl _ _).alloc (Nat.le_refl _) _
  have HE1 : Hid _ := Lib.hid (each_mix _ w.heap.size (1, 0) _ v y (Blk.new w (hcol (1, 0)) 66) (HV.out.below hB2 (Nat.le_refl _)) Cm.one_ok hy)
  have HB2 := Lib.hid hB2
  clear hB2
  go_enter Tryd.func31, Tryd.ntmps31
  go_wp2_with fail
  refine HE1.out.mono ?_
  rintro e w2 ⟨rfl, hb, hg⟩
  have HB3 : Hid (Below w.heap.size w w2) := below_grown HB2.out hg (by simp) (Nat.le_refl _)
  obtain ⟨⟨p2, q2⟩, hpq2⟩ : ∃ m, m = Cm.mgo (1, 0) y := ⟨_, rfl⟩
  have ho2 : Cm.okM (p2, q2) := by rw [hpq2]; exact Cm.mgo_ok y Cm.one_ok
  rw [← hpq2] at hb HE
  have c0 := hb.cell 0 (v := .int .u64 (p2 : Int)) rfl
  have c1 := hb.cell 1 (v := .int .u64 (q2 : Int)) rfl
  have HH : Hid (Calls Tryd.prog 45 #[.agg #[.int .u64 (p2 : Int), .int .u64 (q2 : Int)]] w2 fun e w' => e = .returned (.int .u64 ((Cm.mix y : Nat) : Int)) ∧ Below w2.heap.size w2 w') := by
    rw [HE.out]; exact hmix_any w2 (p2, q2) ho2
  clear hb hg HE1 hpq2 ho2
  go_wp2_with fail
  refine HH.out.mono ?_
  rintro e w3 ⟨rfl, hb⟩
  have HB4 : Hid (Below w.heap.size w w3) := HB3.out.trans (hb.mono HB3.out.size)
  clear hb HH
  go_wp2_with fail
  go_ret
  exact ⟨rfl, HB4.out⟩
def rollN (h n out inn : Nat) : Nat := Cm.mval (Cm.roll (Cm.mixed h) n out inn)
set_option maxRecDepth 100000 in
set_option maxHeartbeats 1000000 in
theorem roll_ok (w : World) (h n out inn : Nat) (hh : h < 18446744073709551616) (hm : Cm.isMix h) (hn1 : 1 ≤ n) (hn2 : n ≤ 1000000) (ho : out < 256) (hi : inn < 256) :
    Calls Tryd.prog 29 #[.int .u64 (h : Int), .int .i64 (n : Int), .int .u8 (out : Int), .int .u8 (inn : Int)] w fun e w' => e = .returned (.tuple #[.int .u64 ((rollN h n out inn : Nat) : Int), .int .i64 0]) ∧ Below w.heap.size w w' := by
  have HO := mixed_ok hm
  have HT := toHalves_any w h hh
  rw [halvesIs_true hm] at HT
  have HE : rollN h n out inn = Cm.mval (Cm.roll (Cm.mixed h) n out inn) := rfl
  clear hm
  obtain ⟨⟨p, q⟩, hpq⟩ : ∃ m, m = Cm.mixed h := ⟨_, rfl⟩
  rw [← hpq] at HT HE HO
  have HT2 : Hid (Calls Tryd.prog 43 #[.int .u64 (h : Int)] w fun e w' => e = .returned (.tuple #[.agg #[.int .u64 (p : Int), .int .u64 (q : Int)], .bool true]) ∧ Below w.heap.size w w') := HT
  obtain ⟨hp, hq⟩ := HO
  simp only at hp hq
  clear HT hpq
  obtain ⟨p2, hp2⟩ : ∃ p2, p2 = Cm.rollA p out inn := ⟨_, rfl⟩
  obtain ⟨q2, hq2⟩ : ∃ q2, q2 = Cm.rollB q p2 n out := ⟨_, rfl⟩
  have HE2 : Hid (Cm.mval (p2, q2) = rollN h n out inn) := by rw [HE, hq2, hp2]; rfl
  have hok : Cm.okM (p2, q2) := by
    refine ⟨?_, ?_⟩
    · rw [hp2]; exact Nat.mod_lt _ (by omega)
    · rw [hq2]; exact Nat.mod_lt _ (by omega)
  obtain ⟨hp3, hq3⟩ := hok
  simp only at hp3 hq3
  obtain ⟨M, hM⟩ : ∃ M, M = n * out := ⟨_, rfl⟩
  have hM2 : M ≤ 1000000 * 255 := by rw [hM]; exact Nat.mul_le_mul hn2 (by omega)
  have hMI : (n : Int) * (out : Int) = (M : Int) := by rw [hM, Int.natCast_mul]
  have hA : ((p : Int) + (inn : Int) + 4294967291 - (out : Int)) % 4294967291 = (p2 : Int) := by rw [hp2]; unfold Cm.rollA; omega
  have hB : ((q : Int) + (p2 : Int) + 4294967291 - (M : Int) - 1) % 4294967291 = (q2 : Int) := by rw [hq2]; unfold Cm.rollB; rw [← hM]; omega
  clear hp2 hq2 hM HE
  have h1 : ¬ ((n : Int) < 1) := by omega
  have h2 : ¬ ((1000000 : Int) < (n : Int)) := by omega
  go_enter Tryd.func29, Tryd.ntmps29
  go_wp2_with fail
  refine HT2.out.mono ?_
  rintro e w1 ⟨rfl, hb⟩
  have HB1 := Lib.hid hb
  clear hb HT2
  have HH : Hid (∀ w2, Calls Tryd.prog 45 #[.agg #[.int .u64 (p2 : Int), .int .u64 (q2 : Int)]] w2 fun e w' => e = .returned (.int .u64 ((rollN h n out inn : Nat) : Int)) ∧ Below w2.heap.size w2 w') := fun w2 => by
    rw [← HE2.out]; exact hmix_any w2 (p2, q2) ⟨hp3, hq3⟩
  go_wp2_with fail
  refine (HH.out _).mono ?_
  rintro e w3 ⟨rfl, hb⟩
  have HB4 : Hid (Below w.heap.size w w3) := (HB1.out.alloc HB1.out.size _).trans (hb.mono (by have := HB1.out.size; simp; omega))
  clear hb HH
  go_wp2_with fail
  go_ret2
  exact ⟨rfl, HB4.out⟩
set_option maxRecDepth 100000 in
theorem roll_form (w : World) (h : Nat) (n : Int) (out inn : Nat) (hh : h < 18446744073709551616) (hm : ¬ Cm.isMix h) :
    Calls Tryd.prog 29 #[.int .u64 (h : Int), .int .i64 n, .int .u8 (out : Int), .int .u8 (inn : Int)] w fun e w' => e = .returned (.tuple #[.int .u64 0, .int .i64 6]) ∧ Below w.heap.size w w' := by
  have HT := toHalves_any w h hh
  rw [halvesIs_false hm] at HT
  clear hm
  obtain ⟨⟨p, q⟩, hpq⟩ : ∃ m, m = Cm.mixed h := ⟨_, rfl⟩
  rw [← hpq] at HT
  have HT2 : Hid (Calls Tryd.prog 43 #[.int .u64 (h : Int)] w fun e w' => e = .returned (.tuple #[.agg #[.int .u64 (p : Int), .int .u64 (q : Int)], .bool false]) ∧ Below w.heap.size w w') := HT
  clear HT hpq
  go_enter Tryd.func29, Tryd.ntmps29
  go_wp2_with fail
  refine HT2.out.mono ?_
  rintro e w1 ⟨rfl, hb⟩
  have HB1 := Lib.hid hb
  clear hb HT2
  go_wp2_with fail
  go_ret2
  exact ⟨rfl, HB1.out.alloc HB1.out.size _⟩
set_option maxRecDepth 100000 in
theorem roll_range (w : World) (h : Nat) (n : Int) (out inn : Nat) (hh : h < 18446744073709551616) (hm : Cm.isMix h) (hn : n < 1 ∨ 1000000 < n) :
    Calls Tryd.prog 29 #[.int .u64 (h : Int), .int .i64 n, .int .u8 (out : Int), .int .u8 (inn : Int)] w fun e w' => e = .returned (.tuple #[.int .u64 0, .int .i64 7]) ∧ Below w.heap.size w w' := by
  have HT := toHalves_any w h hh
  rw [halvesIs_true hm] at HT
  clear hm
  obtain ⟨⟨p, q⟩, hpq⟩ : ∃ m, m = Cm.mixed h := ⟨_, rfl⟩
  rw [← hpq] at HT
  have HT2 : Hid (Calls Tryd.prog 43 #[.int .u64 (h : Int)] w fun e w' => e = .returned (.tuple #[.agg #[.int .u64 (p : Int), .int .u64 (q : Int)], .bool true]) ∧ Below w.heap.size w w') := HT
  clear HT hpq
  rcases hn with h1 | h1
  · go_enter Tryd.func29, Tryd.ntmps29
    go_wp2_with fail
    refine HT2.out.mono ?_
    rintro e w1 ⟨rfl, hb⟩
    have HB1 := Lib.hid hb
    clear hb HT2
    go_wp2_with fail
    go_ret2
    exact ⟨rfl, HB1.out.alloc HB1.out.size _⟩
  · have h2 : ¬ n < 1 := by omega
    go_enter Tryd.func29, Tryd.ntmps29
    go_wp2_with fail
    refine HT2.out.mono ?_
    rintro e w1 ⟨rfl, hb⟩
    have HB1 := Lib.hid hb
    clear hb HT2
    go_wp2_with fail
    go_ret2
    exact ⟨rfl, HB1.out.alloc HB1.out.size _⟩
end Go.Proofs.YtjppcjcflcnliaaDoor
