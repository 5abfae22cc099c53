/- The contract of the reference's Bytes. Condition: the bools lie as said, at most 100000 of them. -/
import Derived.Test.YtanppmpijadhbaaBytes
namespace Go.Proofs.Ytanppmpijadhbaa
open Go.RowKit

def listF (l : List Bool) : Nat → Bool := fun i => l.getD i false
theorem listF_off (l : List Bool) (i : Nat) (h : l.length ≤ i) : listF l i = false := by
  unfold listF; rw [List.getD_eq_getElem?_getD, List.getElem?_eq_none h]; rfl
theorem listF_at (l : List Bool) (i : Nat) (h : i < l.length) : listF l i = l[i] := by
  unfold listF; rw [List.getD_eq_getElem?_getD, List.getElem?_eq_getElem h]; rfl
def rowB (f : Nat → Bool) (N : Nat) : List Value := (List.range N).map (byteV f)
theorem rowB_len (f : Nat → Bool) (N : Nat) : (rowB f N).length = N := by simp [rowB]
theorem rowB_at (f : Nat → Bool) (N i : Nat) (h : i < (rowB f N).length) : (rowB f N)[i] = byteV f i := by simp [rowB]
theorem rowB_get (f : Nat → Bool) (N i : Nat) (h : i < N) : (rowB f N)[i]? = some (byteV f i) := by simp [rowB, h]
theorem rowB_zero (N : Nat) : List.replicate N (Value.int .u8 0) = rowB (fun _ => false) N := by
  symm
  rw [List.eq_replicate_iff]
  refine ⟨rowB_len _ _, fun v hv => ?_⟩
  obtain ⟨i, _, rfl⟩ := List.mem_map.1 hv
  unfold byteV
  rw [show Bm.chunk (fun _ => false) (8 * i) 8 = 0 from (Bm.chunk_ext (by omega) (fun j _ => by simp)).symm]; rfl
theorem cut_next_false {F : Nat → Bool} {i : Nat} (h : F i = false) : Bm.cut F (i + 1) = Bm.cut F i := by
  funext j
  unfold Bm.cut
  by_cases e : j = i
  · rw [e, h]; simp
  · by_cases h2 : j < i
    · rw [decide_eq_true h2, decide_eq_true (p := j < i + 1) (by omega)]
    · rw [decide_eq_false h2, decide_eq_false (p := j < i + 1) (by omega)]
theorem cut_next_chunk {F : Nat → Bool} {i : Nat} (h : F i = true) : Bm.chunk (Bm.cut F i) (8 * (i / 8)) 8 + 2 ^ (i % 8) = Bm.chunk (Bm.cut F (i + 1)) (8 * (i / 8)) 8 := by
  have hc : Bm.cut F i i = false := by unfold Bm.cut; rw [decide_eq_false (by omega)]; rfl
  have := Bm.chunk_add (f := Bm.cut F i) (s := 8 * (i / 8)) (n := 8) (i := i) (by omega) (by omega) hc
  rw [show i - 8 * (i / 8) = i % 8 by omega] at this
  rw [← this]
  refine Bm.chunk_congr fun j _ => ?_
  unfold Bm.upd Bm.cut
  by_cases e : 8 * (i / 8) + j = i
  · rw [if_pos e, e, decide_eq_true (p := i < i + 1) (by omega), h]; rfl
  · rw [if_neg e]
    by_cases h2 : 8 * (i / 8) + j < i
    · rw [decide_eq_true h2, decide_eq_true (p := 8 * (i / 8) + j < i + 1) (by omega)]
    · rw [decide_eq_false h2, decide_eq_false (p := 8 * (i / 8) + j < i + 1) (by omega)]
theorem cut_next_other (F : Nat → Bool) (i q : Nat) (h : q ≠ i / 8) : Bm.chunk (Bm.cut F (i + 1)) (8 * q) 8 = Bm.chunk (Bm.cut F i) (8 * q) 8 :=
  Bm.chunk_congr fun j hj => by
    unfold Bm.cut
    by_cases h2 : 8 * q + j < i
    · rw [decide_eq_true h2, decide_eq_true (p := 8 * q + j < i + 1) (by omega)]
    · rw [decide_eq_false h2, decide_eq_false (p := 8 * q + j < i + 1) (by omega)]
theorem rowB_set {F : Nat → Bool} {i N c p : Nat} (h : F i = true) (hc : c = Bm.chunk (Bm.cut F i) (8 * (i / 8)) 8) (hp : p = 2 ^ (i % 8)) : (rowB (Bm.cut F i) N).set (i / 8) (.int .u8 ((c : Int) + (p : Int))) = rowB (Bm.cut F (i + 1)) N := by
  apply List.ext_getElem (by rw [List.length_set, rowB_len, rowB_len])
  intro j h1 h2
  rw [List.getElem_set, rowB_at, rowB_at]
  unfold byteV
  by_cases e : i / 8 = j
  · rw [if_pos e, ← e, ← cut_next_chunk h, hc, hp, Int.natCast_add]
  · rw [if_neg e, cut_next_other F i j (fun x => e x.symm)]
theorem rowB_lt {F : Nat → Bool} {i : Nat} (h : F i = true) : Bm.chunk (Bm.cut F i) (8 * (i / 8)) 8 + 2 ^ (i % 8) < 256 := by
  rw [cut_next_chunk h]; exact Bm.chunk_lt _ _ 8
theorem ss_of_rowB {w : World} {base g n N : Nat} {f : Nat → Bool} (hN : N = (n + 7) / 8) (h : w.ownsRow base 5 1 (.slice (some ⟨g, 0, none⟩) N N) N (rowB f N)) : SS encB w w.heap.size (.slice (some ⟨g, 0, none⟩) N N) (bytesOf n f) := by
  subst hN
  refine ⟨g, _, by rw [bytesOf_len], (h.lt g rfl).2, fun i hi => ?_⟩
  have hi2 := hi
  rw [bytesOf_len] at hi
  rw [h.cellAt i (by omega), rowB_get _ _ _ hi, bytesOf_get]
  unfold byteV encB
  rw [byteF_nat]
set_option maxRecDepth 100000 in
set_option maxHeartbeats 1000000 in
theorem rbytes_any (w : World) (v : Value) (l : List Bool) (hv : SL encT w w.heap.size v l) (hl : l.length ≤ 100000) :
    Calls Try.prog 28 #[v] w fun e w' => ∃ v', e = .returned v' ∧ SS encB w' w'.heap.size v' (bytesOf l.length (listF l)) ∧ Below w.heap.size w w' := by
  obtain ⟨A, c0, rfl⟩ := hv.form
  obtain ⟨i0, hi, hz0, hz1, hz2⟩ := info_parts info_u8
  obtain ⟨N, hN⟩ : ∃ N, N = (l.length + 7) / 8 := ⟨_, rfl⟩
  have HN := Lib.hid hN
  have HV := Lib.hid hv
  have hN2 : N ≤ 100000 := by omega
  clear hN hv
  go_enter Try.func28, Try.ntmps28
  go_wp2_with (at_make; refine wpList_make_full _ rfl _ _ 23 rfl w.heap.size 5 i0 (.int .u8 0) 1 Try.underlying23 hi hz0 hz1 _ _ _ _ N rfl rfl (by have := HN.out; omega) (by have := HN.out; omega) ?c1 ?c2 ?c3 ?_)
  case c1 => rw [hz2]; omega
  case c2 => unfold maxLen; omega
  case c3 => omega
  intro w1 hown hgrow
  rw [made_u8, rowB_zero] at hown
  have hB1 : Below w.heap.size w w1 := (Below.refl _ _).grown hgrow (Nat.le_refl _) (by simp)
  have HO := Lib.hid hown
  have HB := Lib.hid hB1
  clear hown hgrow hB1
  go_wp2_with fail
  go_loopw [4] (fun i wr => ∃ k : Nat, k ≤ l.length ∧ i = .int .i64 k ∧ wr.ownsRow w.heap.size 5 1 (.slice (some ⟨w.heap.size, 0, none⟩) N N) N (rowB (Bm.cut (listF l) k) N) ∧ Below w.heap.size w wr) (fun i _ => l.length - (intOf i).toNat)
  case atStart => exact ⟨0, Nat.zero_le _, rfl, by rw [Bm.cut_zero]; exact HO.out, HB.out⟩
  case round =>
    obtain ⟨k, hk, rfl, hown, hB⟩ := hrel
    by_cases hlt : k < l.length
    · obtain ⟨b, off, hA, hb, hc⟩ := HV.out.at (by omega)
      subst hA
      have hltI : (k : Int) < (l.length : Int) := by omega
      have hcell := (hB.cell (p := ⟨b, off + k, none⟩) hb).trans (hc k hlt)
      unfold encT at hcell
      have hF := listF_at l k hlt
      have hkN : k / 8 < N := by have := HN.out; omega
      have hkNI : (k : Int) / 8 < (N : Int) := by omega
      cases hb2 : l[k] with
      | true =>
        rw [hb2] at hcell hF
        have hrow := hown.cellAt (k / 8) (by omega)
        rw [rowB_get _ _ _ hkN] at hrow
        unfold byteV at hrow
        have hfz := hown.frozenAt (k / 8)
        obtain ⟨ch, hch⟩ : ∃ ch, ch = Bm.chunk (Bm.cut (listF l) k) (8 * (k / 8)) 8 := ⟨_, rfl⟩
        obtain ⟨p, hp⟩ : ∃ p, p = 2 ^ (k % 8) := ⟨_, rfl⟩
        have hval : (2 : Int) ^ (k % 8) % 256 = (p : Int) := by
          have e : (2 : Int) ^ (k % 8) = (p : Int) := by rw [hp, Int.natCast_pow]; rfl
          have : ch + p < 256 := by rw [hch, hp]; exact rowB_lt hF
          rw [e]; omega
        have hsum : ch + p < 256 := by rw [hch, hp]; exact rowB_lt hF
        have hst := hown.stored (k / 8) (.int .u8 ((ch : Int) + (p : Int)))
        rw [rowB_set hF hch hp] at hst
        rw [← hch] at hrow
        have HS := Lib.hid hst
        have HB2 := Lib.hid hB
        clear hst hown hB HO HB hc hb2 hF hch hp
        go_wp2_with fail
        go_roundw
        case rel => exact ⟨k + 1, by omega, by go_num, HS.out.1, HB2.out.setCell (Nat.le_refl _) _⟩
        case measure => simp [intOf]; omega
      | false =>
        rw [hb2] at hcell hF
        have HO2 := Lib.hid hown
        have HB2 := Lib.hid hB
        have HF := Lib.hid hF
        clear hown hB HO HB hc hb2 hF
        go_wp2_with fail
        go_roundw
        case rel => exact ⟨k + 1, by omega, by go_num, by rw [cut_next_false HF.out]; exact HO2.out, HB2.out⟩
        case measure => simp [intOf]; omega
    · have e : Bm.cut (listF l) k = listF l := Bm.cut_all (listF_off l) (by omega)
      rw [e] at hown
      have HO2 := Lib.hid hown
      have hltI : ¬ (k : Int) < (l.length : Int) := by omega
      clear hown e
      go_wp2_with fail
      go_ret
      exact ⟨_, rfl, ss_of_rowB HN.out HO2.out, hB⟩
end Go.Proofs.Ytanppmpijadhbaa
