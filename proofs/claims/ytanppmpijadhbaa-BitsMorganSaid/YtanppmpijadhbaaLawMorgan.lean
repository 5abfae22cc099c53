/- The walk of BitsMorgan: it returns true. Condition: the bytes lie as said. -/
import Derived.Test.YtanppmpijadhbaaMade
import Derived.Test.YtanppmpijadhbaaAwake
import Derived.Test.YtanppmpijadhbaaSpec
import Derived.Test.YtanppmpijadhbaaComb
import Derived.Test.YtanppmpijadhbaaSame
namespace Go.Proofs.Ytanppmpijadhbaa
open Go.RowKit

theorem eqW_self (f : Nat → Bool) : eqW f f = true := by
  unfold eqW; rw [List.all_eq_true]; intro k _; exact beq_self_eq_true _
theorem eqW_of {f g : Nat → Bool} (h : f = g) : eqW f g = true := by rw [h]; exact eqW_self g
theorem morgan_not (N : Nat) (f g : Nat → Bool) : notF N (andF f g) = orF (notF N f) (notF N g) := by
  funext i
  show (decide (i < N) && !(f i && g i)) = ((decide (i < N) && !f i) || (decide (i < N) && !g i))
  cases decide (i < N) <;> cases f i <;> cases g i <;> rfl
theorem morgan_back {N : Nat} {f : Nat → Bool} (h : ∀ i, N ≤ i → f i = false) : notF N (notF N f) = f := by
  funext i
  show (decide (i < N) && !(decide (i < N) && !f i)) = f i
  by_cases hi : i < N
  · rw [decide_eq_true hi]; cases f i <;> rfl
  · rw [decide_eq_false hi, h i (by omega)]; rfl
theorem morgan_xor {N : Nat} {f g : Nat → Bool} (h : ∀ i, N ≤ i → f i = false) (h2 : ∀ i, N ≤ i → g i = false) : andF (orF f g) (notF N (andF f g)) = xorF f g := by
  funext i
  show ((f i || g i) && (decide (i < N) && !(f i && g i))) = (f i != g i)
  by_cases hi : i < N
  · rw [decide_eq_true hi]; cases f i <;> cases g i <;> rfl
  · rw [decide_eq_false hi, h i (by omega), h2 i (by omega)]; rfl
theorem morgan_cnt (f g : Nat → Bool) : ∀ k, cnt f 0 k + cnt g 0 k = cnt (andF f g) 0 k + cnt (orF f g) 0 k
  | 0 => rfl
  | k + 1 => by
    have ih := morgan_cnt f g k
    show cnt f 0 k + (f (0 + k)).toNat + (cnt g 0 k + (g (0 + k)).toNat) = cnt (andF f g) 0 k + (f (0 + k) && g (0 + k)).toNat + (cnt (orF f g) 0 k + (f (0 + k) || g (0 + k)).toNat)
    cases f (0 + k) <;> cases g (0 + k) <;> simp <;> omega

set_option maxRecDepth 100000 in
set_option maxHeartbeats 8000000 in
theorem law_morgan (w : World) (n : Nat) (v v2 : Value) (y y2 : List UInt8) (hv : SL encB w w.heap.size v y) (hv2 : SL encB w w.heap.size v2 y2) (hn : n < 65536) (hy : y.length ≤ 9223372036854775807) (hy2 : y2.length ≤ 9223372036854775807) :
    Calls Try.prog 6 #[.int .u16 (n : Int), v, v2] w fun e w' => e = .returned (.bool true) ∧ Below w.heap.size w w' := by
  obtain ⟨A, c0, rfl⟩ := hv.form
  obtain ⟨A2, c2, rfl⟩ := hv2.form
  obtain ⟨N, hN⟩ : ∃ N, N = n % 601 := ⟨_, rfl⟩
  obtain ⟨f, hmd⟩ := made_map w n N _ y hv hn hy hN
  have HMD := Lib.hid hmd
  have HV2 := Lib.hid hv2
  have HN := Lib.hid hN
  have hN6 : N ≤ 600 := by omega
  clear hv hmd hv2 hN
  go_enter Try.func6, Try.ntmps6
  go_wp2_with fail
  refine HMD.out.mono ?_
  rintro e w1 ⟨b, vl, rfl, hM, hb, hB⟩
  have B1 := Lib.hid hB
  have Mf1 := Lib.hid hM
  obtain ⟨g, hmd⟩ := made_map w1 n N _ y2 (HV2.out.below hB (Nat.le_refl _) |>.mono hB.size) hn hy2 HN.out
  have HMD2 := Lib.hid hmd
  clear hM hB hmd HMD
  go_wp2_with fail
  refine HMD2.out.mono ?_
  rintro e w2 ⟨c, vl2, rfl, hM, hc, hB⟩
  have B2 : Hid (Below w.heap.size w w2) := B1.out.trans (hB.mono B1.out.size)
  have Mf2 : Hid (MapAt w2 b N f) := Mf1.out.below hB Mf1.out.lt
  have Mg2 := Lib.hid hM
  have OF : Hid (∀ i, N ≤ i → f i = false) := hM.off |> fun _ => Mf1.out.off
  have OG : Hid (∀ i, N ≤ i → g i = false) := hM.off
  clear hM hB HMD2 Mf1 B1
  go_wp2_with fail
  refine (and_ok w2 b c N f g Mf2.out Mg2.out).mono ?_
  rintro e w3 ⟨rfl, hM, hB⟩
  obtain ⟨qan, hq⟩ : ∃ q, q = w2.heap.size := ⟨_, rfl⟩
  rw [← hq] at hM ⊢
  have Man3 := Lib.hid hM
  have B3 : Hid (Below w.heap.size w w3) := B2.out.trans (hB.mono B2.out.size)
  have Mf3 : Hid (MapAt w3 b N f) := Mf2.out.below hB Mf2.out.lt
  have Mg3 : Hid (MapAt w3 c N g) := Mg2.out.below hB Mg2.out.lt
  clear hM hB hq B2 Mf2 Mg2
  go_wp2_with fail
  refine (or_ok w3 b c N f g Mf3.out Mg3.out).mono ?_
  rintro e w4 ⟨rfl, hM, hB⟩
  obtain ⟨qor, hq⟩ : ∃ q, q = w3.heap.size := ⟨_, rfl⟩
  rw [← hq] at hM ⊢
  have Mor4 := Lib.hid hM
  have B4 : Hid (Below w.heap.size w w4) := B3.out.trans (hB.mono B3.out.size)
  have Mf4 : Hid (MapAt w4 b N f) := Mf3.out.below hB Mf3.out.lt
  have Mg4 : Hid (MapAt w4 c N g) := Mg3.out.below hB Mg3.out.lt
  have Man4 : Hid (MapAt w4 qan N (andF f g)) := Man3.out.below hB Man3.out.lt
  clear hM hB hq B3 Mf3 Mg3 Man3
  go_wp2_with fail
  refine (xor_ok w4 b c N f g Mf4.out Mg4.out).mono ?_
  rintro e w5 ⟨rfl, hM, hB⟩
  obtain ⟨qxo, hq⟩ : ∃ q, q = w4.heap.size := ⟨_, rfl⟩
  rw [← hq] at hM ⊢
  have Mxo5 := Lib.hid hM
  have B5 : Hid (Below w.heap.size w w5) := B4.out.trans (hB.mono B4.out.size)
  have Mf5 : Hid (MapAt w5 b N f) := Mf4.out.below hB Mf4.out.lt
  have Mg5 : Hid (MapAt w5 c N g) := Mg4.out.below hB Mg4.out.lt
  have Man5 : Hid (MapAt w5 qan N (andF f g)) := Man4.out.below hB Man4.out.lt
  have Mor5 : Hid (MapAt w5 qor N (orF f g)) := Mor4.out.below hB Mor4.out.lt
  clear hM hB hq B4 Mf4 Mg4 Man4 Mor4
  go_wp2_with fail
  refine (not_ok w5 b N f Mf5.out).mono ?_
  rintro e w6 ⟨rfl, hM, hB⟩
  obtain ⟨qu, hq⟩ : ∃ q, q = w5.heap.size := ⟨_, rfl⟩
  rw [← hq] at hM ⊢
  have Mu6 := Lib.hid hM
  have B6 : Hid (Below w.heap.size w w6) := B5.out.trans (hB.mono B5.out.size)
  have Mf6 : Hid (MapAt w6 b N f) := Mf5.out.below hB Mf5.out.lt
  have Mg6 : Hid (MapAt w6 c N g) := Mg5.out.below hB Mg5.out.lt
  have Man6 : Hid (MapAt w6 qan N (andF f g)) := Man5.out.below hB Man5.out.lt
  have Mor6 : Hid (MapAt w6 qor N (orF f g)) := Mor5.out.below hB Mor5.out.lt
  have Mxo6 : Hid (MapAt w6 qxo N (xorF f g)) := Mxo5.out.below hB Mxo5.out.lt
  clear hM hB hq B5 Mf5 Mg5 Man5 Mor5 Mxo5
  go_wp2_with fail
  refine (not_ok w6 c N g Mg6.out).mono ?_
  rintro e w7 ⟨rfl, hM, hB⟩
  obtain ⟨qv, hq⟩ : ∃ q, q = w6.heap.size := ⟨_, rfl⟩
  rw [← hq] at hM ⊢
  have Mv7 := Lib.hid hM
  have B7 : Hid (Below w.heap.size w w7) := B6.out.trans (hB.mono B6.out.size)
  have Mf7 : Hid (MapAt w7 b N f) := Mf6.out.below hB Mf6.out.lt
  have Mg7 : Hid (MapAt w7 c N g) := Mg6.out.below hB Mg6.out.lt
  have Man7 : Hid (MapAt w7 qan N (andF f g)) := Man6.out.below hB Man6.out.lt
  have Mor7 : Hid (MapAt w7 qor N (orF f g)) := Mor6.out.below hB Mor6.out.lt
  have Mxo7 : Hid (MapAt w7 qxo N (xorF f g)) := Mxo6.out.below hB Mxo6.out.lt
  have Mu7 : Hid (MapAt w7 qu N (notF N f)) := Mu6.out.below hB Mu6.out.lt
  clear hM hB hq B6 Mf6 Mg6 Man6 Mor6 Mxo6 Mu6
  go_wp2_with fail
  refine (not_ok w7 qan N _ Man7.out).mono ?_
  rintro e w8 ⟨rfl, hM, hB⟩
  obtain ⟨qp, hq⟩ : ∃ q, q = w7.heap.size := ⟨_, rfl⟩
  rw [← hq] at hM ⊢
  have Mp8 := Lib.hid hM
  have B8 : Hid (Below w.heap.size w w8) := B7.out.trans (hB.mono B7.out.size)
  have Mf8 : Hid (MapAt w8 b N f) := Mf7.out.below hB Mf7.out.lt
  have Mg8 : Hid (MapAt w8 c N g) := Mg7.out.below hB Mg7.out.lt
  have Man8 : Hid (MapAt w8 qan N (andF f g)) := Man7.out.below hB Man7.out.lt
  have Mor8 : Hid (MapAt w8 qor N (orF f g)) := Mor7.out.below hB Mor7.out.lt
  have Mxo8 : Hid (MapAt w8 qxo N (xorF f g)) := Mxo7.out.below hB Mxo7.out.lt
  have Mu8 : Hid (MapAt w8 qu N (notF N f)) := Mu7.out.below hB Mu7.out.lt
  have Mv8 : Hid (MapAt w8 qv N (notF N g)) := Mv7.out.below hB Mv7.out.lt
  clear hM hB hq B7 Mf7 Mg7 Man7 Mor7 Mxo7 Mu7 Mv7
  go_wp2_with fail
  refine (or_ok w8 qu qv N _ _ Mu8.out Mv8.out).mono ?_
  rintro e w9 ⟨rfl, hM, hB⟩
  obtain ⟨qq, hq⟩ : ∃ q, q = w8.heap.size := ⟨_, rfl⟩
  rw [← hq] at hM ⊢
  have Mq9 := Lib.hid hM
  have B9 : Hid (Below w.heap.size w w9) := B8.out.trans (hB.mono B8.out.size)
  have Mf9 : Hid (MapAt w9 b N f) := Mf8.out.below hB Mf8.out.lt
  have Mg9 : Hid (MapAt w9 c N g) := Mg8.out.below hB Mg8.out.lt
  have Man9 : Hid (MapAt w9 qan N (andF f g)) := Man8.out.below hB Man8.out.lt
  have Mor9 : Hid (MapAt w9 qor N (orF f g)) := Mor8.out.below hB Mor8.out.lt
  have Mxo9 : Hid (MapAt w9 qxo N (xorF f g)) := Mxo8.out.below hB Mxo8.out.lt
  have Mu9 : Hid (MapAt w9 qu N (notF N f)) := Mu8.out.below hB Mu8.out.lt
  have Mv9 : Hid (MapAt w9 qv N (notF N g)) := Mv8.out.below hB Mv8.out.lt
  have Mp9 : Hid (MapAt w9 qp N (notF N (andF f g))) := Mp8.out.below hB Mp8.out.lt
  clear hM hB hq B8 Mf8 Mg8 Man8 Mor8 Mxo8 Mu8 Mv8 Mp8
  go_wp2_with fail
  refine (not_ok w9 qu N _ Mu9.out).mono ?_
  rintro e w10 ⟨rfl, hM, hB⟩
  obtain ⟨qbk, hq⟩ : ∃ q, q = w9.heap.size := ⟨_, rfl⟩
  rw [← hq] at hM ⊢
  have Mbk10 := Lib.hid hM
  have B10 : Hid (Below w.heap.size w w10) := B9.out.trans (hB.mono B9.out.size)
  have Mf10 : Hid (MapAt w10 b N f) := Mf9.out.below hB Mf9.out.lt
  have Mg10 : Hid (MapAt w10 c N g) := Mg9.out.below hB Mg9.out.lt
  have Man10 : Hid (MapAt w10 qan N (andF f g)) := Man9.out.below hB Man9.out.lt
  have Mor10 : Hid (MapAt w10 qor N (orF f g)) := Mor9.out.below hB Mor9.out.lt
  have Mxo10 : Hid (MapAt w10 qxo N (xorF f g)) := Mxo9.out.below hB Mxo9.out.lt
  have Mu10 : Hid (MapAt w10 qu N (notF N f)) := Mu9.out.below hB Mu9.out.lt
  have Mv10 : Hid (MapAt w10 qv N (notF N g)) := Mv9.out.below hB Mv9.out.lt
  have Mp10 : Hid (MapAt w10 qp N (notF N (andF f g))) := Mp9.out.below hB Mp9.out.lt
  have Mq10 : Hid (MapAt w10 qq N (orF (notF N f) (notF N g))) := Mq9.out.below hB Mq9.out.lt
  clear hM hB hq B9 Mf9 Mg9 Man9 Mor9 Mxo9 Mu9 Mv9 Mp9 Mq9
  go_wp2_with fail
  refine (and_ok w10 qor qp N _ _ Mor10.out Mp10.out).mono ?_
  rintro e w11 ⟨rfl, hM, hB⟩
  obtain ⟨qww, hq⟩ : ∃ q, q = w10.heap.size := ⟨_, rfl⟩
  rw [← hq] at hM ⊢
  have Mww11 := Lib.hid hM
  have B11 : Hid (Below w.heap.size w w11) := B10.out.trans (hB.mono B10.out.size)
  have Mf11 : Hid (MapAt w11 b N f) := Mf10.out.below hB Mf10.out.lt
  have Mg11 : Hid (MapAt w11 c N g) := Mg10.out.below hB Mg10.out.lt
  have Man11 : Hid (MapAt w11 qan N (andF f g)) := Man10.out.below hB Man10.out.lt
  have Mor11 : Hid (MapAt w11 qor N (orF f g)) := Mor10.out.below hB Mor10.out.lt
  have Mxo11 : Hid (MapAt w11 qxo N (xorF f g)) := Mxo10.out.below hB Mxo10.out.lt
  have Mu11 : Hid (MapAt w11 qu N (notF N f)) := Mu10.out.below hB Mu10.out.lt
  have Mv11 : Hid (MapAt w11 qv N (notF N g)) := Mv10.out.below hB Mv10.out.lt
  have Mp11 : Hid (MapAt w11 qp N (notF N (andF f g))) := Mp10.out.below hB Mp10.out.lt
  have Mq11 : Hid (MapAt w11 qq N (orF (notF N f) (notF N g))) := Mq10.out.below hB Mq10.out.lt
  have Mbk11 : Hid (MapAt w11 qbk N (notF N (notF N f))) := Mbk10.out.below hB Mbk10.out.lt
  clear hM hB hq B10 Mf10 Mg10 Man10 Mor10 Mxo10 Mu10 Mv10 Mp10 Mq10 Mbk10
  have hS := same_ok w11 qp qq N _ _ Mp11.out Mq11.out
  rw [eqW_of (morgan_not N f g)] at hS
  have HS := Lib.hid hS
  clear hS
  go_wp2_with fail
  refine HS.out.mono ?_
  rintro e w12 ⟨rfl, hB⟩
  have B12 : Hid (Below w.heap.size w w12) := B11.out.trans (hB.mono B11.out.size)
  have Mf12 : Hid (MapAt w12 b N f) := Mf11.out.below hB Mf11.out.lt
  have Mg12 : Hid (MapAt w12 c N g) := Mg11.out.below hB Mg11.out.lt
  have Man12 : Hid (MapAt w12 qan N (andF f g)) := Man11.out.below hB Man11.out.lt
  have Mor12 : Hid (MapAt w12 qor N (orF f g)) := Mor11.out.below hB Mor11.out.lt
  have Mxo12 : Hid (MapAt w12 qxo N (xorF f g)) := Mxo11.out.below hB Mxo11.out.lt
  have Mu12 : Hid (MapAt w12 qu N (notF N f)) := Mu11.out.below hB Mu11.out.lt
  have Mv12 : Hid (MapAt w12 qv N (notF N g)) := Mv11.out.below hB Mv11.out.lt
  have Mp12 : Hid (MapAt w12 qp N (notF N (andF f g))) := Mp11.out.below hB Mp11.out.lt
  have Mq12 : Hid (MapAt w12 qq N (orF (notF N f) (notF N g))) := Mq11.out.below hB Mq11.out.lt
  have Mbk12 : Hid (MapAt w12 qbk N (notF N (notF N f))) := Mbk11.out.below hB Mbk11.out.lt
  have Mww12 : Hid (MapAt w12 qww N (andF (orF f g) (notF N (andF f g)))) := Mww11.out.below hB Mww11.out.lt
  clear hB HS B11 Mf11 Mg11 Man11 Mor11 Mxo11 Mu11 Mv11 Mp11 Mq11 Mbk11 Mww11
  have hS := same_ok w12 qbk b N _ _ Mbk12.out Mf12.out
  rw [eqW_of (morgan_back OF.out)] at hS
  have HS := Lib.hid hS
  clear hS
  go_wp2_with fail
  refine HS.out.mono ?_
  rintro e w13 ⟨rfl, hB⟩
  have B13 : Hid (Below w.heap.size w w13) := B12.out.trans (hB.mono B12.out.size)
  have Mf13 : Hid (MapAt w13 b N f) := Mf12.out.below hB Mf12.out.lt
  have Mg13 : Hid (MapAt w13 c N g) := Mg12.out.below hB Mg12.out.lt
  have Man13 : Hid (MapAt w13 qan N (andF f g)) := Man12.out.below hB Man12.out.lt
  have Mor13 : Hid (MapAt w13 qor N (orF f g)) := Mor12.out.below hB Mor12.out.lt
  have Mxo13 : Hid (MapAt w13 qxo N (xorF f g)) := Mxo12.out.below hB Mxo12.out.lt
  have Mu13 : Hid (MapAt w13 qu N (notF N f)) := Mu12.out.below hB Mu12.out.lt
  have Mv13 : Hid (MapAt w13 qv N (notF N g)) := Mv12.out.below hB Mv12.out.lt
  have Mp13 : Hid (MapAt w13 qp N (notF N (andF f g))) := Mp12.out.below hB Mp12.out.lt
  have Mq13 : Hid (MapAt w13 qq N (orF (notF N f) (notF N g))) := Mq12.out.below hB Mq12.out.lt
  have Mbk13 : Hid (MapAt w13 qbk N (notF N (notF N f))) := Mbk12.out.below hB Mbk12.out.lt
  have Mww13 : Hid (MapAt w13 qww N (andF (orF f g) (notF N (andF f g)))) := Mww12.out.below hB Mww12.out.lt
  clear hB HS B12 Mf12 Mg12 Man12 Mor12 Mxo12 Mu12 Mv12 Mp12 Mq12 Mbk12 Mww12
  have hS := same_ok w13 qww qxo N _ _ Mww13.out Mxo13.out
  rw [eqW_of (morgan_xor OF.out OG.out)] at hS
  have HS := Lib.hid hS
  clear hS
  go_wp2_with fail
  refine HS.out.mono ?_
  rintro e w14 ⟨rfl, hB⟩
  have B14 : Hid (Below w.heap.size w w14) := B13.out.trans (hB.mono B13.out.size)
  have Mf14 : Hid (MapAt w14 b N f) := Mf13.out.below hB Mf13.out.lt
  have Mg14 : Hid (MapAt w14 c N g) := Mg13.out.below hB Mg13.out.lt
  have Man14 : Hid (MapAt w14 qan N (andF f g)) := Man13.out.below hB Man13.out.lt
  have Mor14 : Hid (MapAt w14 qor N (orF f g)) := Mor13.out.below hB Mor13.out.lt
  have Mxo14 : Hid (MapAt w14 qxo N (xorF f g)) := Mxo13.out.below hB Mxo13.out.lt
  have Mu14 : Hid (MapAt w14 qu N (notF N f)) := Mu13.out.below hB Mu13.out.lt
  have Mv14 : Hid (MapAt w14 qv N (notF N g)) := Mv13.out.below hB Mv13.out.lt
  have Mp14 : Hid (MapAt w14 qp N (notF N (andF f g))) := Mp13.out.below hB Mp13.out.lt
  have Mq14 : Hid (MapAt w14 qq N (orF (notF N f) (notF N g))) := Mq13.out.below hB Mq13.out.lt
  have Mbk14 : Hid (MapAt w14 qbk N (notF N (notF N f))) := Mbk13.out.below hB Mbk13.out.lt
  have Mww14 : Hid (MapAt w14 qww N (andF (orF f g) (notF N (andF f g)))) := Mww13.out.below hB Mww13.out.lt
  clear hB HS B13 Mf13 Mg13 Man13 Mor13 Mxo13 Mu13 Mv13 Mp13 Mq13 Mbk13 Mww13
  have HL := Lib.hid (len_any w14 b N f Mf14.out)
  obtain ⟨na, hna⟩ : ∃ q, q = cnt f 0 N := ⟨_, rfl⟩
  have hx := count_ok w14 b N f 0 N Mf14.out (by omega)
  rw [← hna] at hx
  have Ca : Hid (Calls Try.prog 30 #[.pointer (some ⟨b, 0, none⟩), .int .i64 0, .int .i64 (N : Int)] w14 fun e w' => e = .returned (.tuple #[.int .i64 (na : Nat), .int .i64 0]) ∧ w14 = w') := hx
  have la : na ≤ N := by rw [hna]; exact cnt_le _ _ _
  clear hx
  obtain ⟨nd, hnd⟩ : ∃ q, q = cnt g 0 N := ⟨_, rfl⟩
  have hx := count_ok w14 c N g 0 N Mg14.out (by omega)
  rw [← hnd] at hx
  have Cd : Hid (Calls Try.prog 30 #[.pointer (some ⟨c, 0, none⟩), .int .i64 0, .int .i64 (N : Int)] w14 fun e w' => e = .returned (.tuple #[.int .i64 (nd : Nat), .int .i64 0]) ∧ w14 = w') := hx
  have ld : nd ≤ N := by rw [hnd]; exact cnt_le _ _ _
  clear hx
  obtain ⟨nj, hnj⟩ : ∃ q, q = cnt (andF f g) 0 N := ⟨_, rfl⟩
  have hx := count_ok w14 qan N (andF f g) 0 N Man14.out (by omega)
  rw [← hnj] at hx
  have Cj : Hid (Calls Try.prog 30 #[.pointer (some ⟨qan, 0, none⟩), .int .i64 0, .int .i64 (N : Int)] w14 fun e w' => e = .returned (.tuple #[.int .i64 (nj : Nat), .int .i64 0]) ∧ w14 = w') := hx
  have lj : nj ≤ N := by rw [hnj]; exact cnt_le _ _ _
  clear hx
  obtain ⟨nk, hnk⟩ : ∃ q, q = cnt (orF f g) 0 N := ⟨_, rfl⟩
  have hx := count_ok w14 qor N (orF f g) 0 N Mor14.out (by omega)
  rw [← hnk] at hx
  have Ck : Hid (Calls Try.prog 30 #[.pointer (some ⟨qor, 0, none⟩), .int .i64 0, .int .i64 (N : Int)] w14 fun e w' => e = .returned (.tuple #[.int .i64 (nk : Nat), .int .i64 0]) ∧ w14 = w') := hx
  have lk : nk ≤ N := by rw [hnk]; exact cnt_le _ _ _
  clear hx
  have hsum : na + nd = nj + nk := by rw [hna, hnd, hnj, hnk]; exact morgan_cnt f g N
  have hsumI : (na : Int) + (nd : Int) = (nj : Int) + (nk : Int) := by omega
  have HSU := Lib.hid hsumI
  clear hsum hsumI hna hnd hnj hnk
  go_wp2_with fail
  refine HL.out.mono ?_
  rintro e w' ⟨rfl, rfl⟩
  go_wp2_with fail
  refine Ca.out.mono ?_
  rintro e w' ⟨rfl, rfl⟩
  go_wp2_with fail
  refine Cd.out.mono ?_
  rintro e w' ⟨rfl, rfl⟩
  go_wp2_with fail
  refine Cj.out.mono ?_
  rintro e w' ⟨rfl, rfl⟩
  go_wp2_with fail
  refine Ck.out.mono ?_
  rintro e w' ⟨rfl, rfl⟩
  have hsumI := HSU.out
  go_wp2_with fail
  refine (awake_any _).mono ?_
  rintro e wz ⟨rfl, hB⟩
  have BZ : Hid (Below w.heap.size w wz) := B14.out.trans (hB.mono B14.out.size)
  clear hB
  go_wp2_with fail
  go_ret
  exact ⟨rfl, BZ.out⟩
end Go.Proofs.Ytanppmpijadhbaa
