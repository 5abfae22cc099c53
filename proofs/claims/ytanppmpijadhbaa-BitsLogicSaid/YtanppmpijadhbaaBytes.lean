/- The contract of Bytes, and of strings made of bytes. Condition: a map in a block of its own. -/
import Derived.Test.YtanppmpijadhbaaRun
import Derived.OwnWalk
import Derived.Laws.OwnMore
import Derived.Laws.BytesArg
namespace Go.Proofs.Ytanppmpijadhbaa
open Go.RowKit

/-- A slice value of the call's own that holds a list, at the head of a block below lim. -/
def SS {α : Type} (enc : α → Value) (w : World) (lim : Nat) (v : Value) (l : List α) : Prop :=
  ∃ b c, v = .slice (some ⟨b, 0, none⟩) l.length c ∧ b < lim ∧ ∀ i (h : i < l.length), w.cell? ⟨b, i, none⟩ = some (enc l[i])
theorem SS.sl {α : Type} {enc : α → Value} {w : World} {lim : Nat} {v : Value} {l : List α} (h : SS enc w lim v l) : SL enc w lim v l := by
  obtain ⟨b, c, rfl, hb, hc⟩ := h
  exact .inr ⟨b, 0, c, rfl, hb, fun i hi => by rw [Nat.zero_add]; exact hc i hi⟩
theorem SS.below {α : Type} {enc : α → Value} {w w' : World} {lim : Nat} {v : Value} {l : List α} (h : SS enc w lim v l) {B : Nat} (hb : Below B w w') (hB : lim ≤ B) : SS enc w' lim v l := by
  obtain ⟨b, c, rfl, hl, hc⟩ := h
  exact ⟨b, c, rfl, hl, fun i hi => (hb.cell (p := ⟨b, _, none⟩) (show b < B by omega)).trans (hc i hi)⟩
theorem SS.mono {α : Type} {enc : α → Value} {w : World} {lim lim' : Nat} {v : Value} {l : List α} (h : SS enc w lim v l) (hl : lim ≤ lim') : SS enc w lim' v l := by
  obtain ⟨b, c, rfl, hb, hc⟩ := h
  exact ⟨b, c, rfl, by omega, hc⟩
theorem nums_str (y : List UInt8) : strOfNums (y.map fun c => (c.toNat : Int)) = ⟨y.toArray⟩ := by
  have e : (y.map fun c => (c.toNat : Int)).map (fun n : Int => UInt8.ofNat n.toNat) = y := by
    rw [List.map_map]
    have : ((fun n : Int => UInt8.ofNat n.toNat) ∘ fun c : UInt8 => (c.toNat : Int)) = id := by funext c; simp
    rw [this, List.map_id]
  unfold strOfNums
  rw [e]
theorem SS.str {w : World} {lim : Nat} {v : Value} {y : List UInt8} (h : SS encB w lim v y) : (convert 23 9 v).run Try.prog w = .ok (.string ⟨y.toArray⟩) w := by
  obtain ⟨b, c, rfl, hb, hc⟩ := h
  have := run_convert_bytes_arg (P := Try.prog) w 23 5 Try.underlying23 Try.underlying5 b 0 y.length c (y.map fun c => (c.toNat : Int)) (by simp) (fun i hi => by
    rw [Nat.zero_add, hc i hi]
    simp [encB, List.getD_eq_getElem?_getD, hi]) 9 Try.underlying9
  rw [this, nums_str]
/-- The first k cells of N are those of F, the others z. -/
def rowK (F : Nat → Value) (z : Value) (N k : Nat) : List Value := (List.range N).map fun i => if i < k then F i else z
theorem rowK_len (F : Nat → Value) (z : Value) (N k : Nat) : (rowK F z N k).length = N := by simp [rowK]
theorem rowK_zero (F : Nat → Value) (z : Value) (N : Nat) : List.replicate N z = rowK F z N 0 := by
  symm
  rw [List.eq_replicate_iff]
  refine ⟨rowK_len _ _ _ _, fun v hv => ?_⟩
  obtain ⟨i, _, rfl⟩ := List.mem_map.1 hv
  simp
theorem rowK_at (F : Nat → Value) (z : Value) (N k i : Nat) (h : i < (rowK F z N k).length) : (rowK F z N k)[i] = if i < k then F i else z := by simp [rowK]
theorem rowK_set (F : Nat → Value) (z : Value) (N k : Nat) : (rowK F z N k).set k (F k) = rowK F z N (k + 1) := by
  apply List.ext_getElem (by rw [List.length_set, rowK_len, rowK_len])
  intro i h1 h2
  rw [List.getElem_set, rowK_at, rowK_at]
  by_cases e : k = i
  · rw [if_pos e, if_pos (by omega), e]
  · rw [if_neg e]
    by_cases h : i < k
    · rw [if_pos h, if_pos (by omega)]
    · rw [if_neg h, if_neg (by omega)]
theorem rowK_get (F : Nat → Value) (z : Value) (N k i : Nat) (h : i < N) : (rowK F z N k)[i]? = some (if i < k then F i else z) := by
  simp [rowK, h]
/-- The bytes of a map of n bits. -/
def byteF (f : Nat → Bool) (i : Nat) : UInt8 := UInt8.ofNat (Bm.chunk f (8 * i) 8)
def bytesOf (n : Nat) (f : Nat → Bool) : List UInt8 := (List.range ((n + 7) / 8)).map (byteF f)
theorem bytesOf_len (n : Nat) (f : Nat → Bool) : (bytesOf n f).length = (n + 7) / 8 := by simp [bytesOf]
theorem byteF_nat (f : Nat → Bool) (i : Nat) : (byteF f i).toNat = Bm.chunk f (8 * i) 8 := by
  unfold byteF; rw [UInt8.toNat_ofNat_of_lt' (Bm.chunk_lt f (8 * i) 8)]
theorem bytesOf_get (n : Nat) (f : Nat → Bool) (i : Nat) (h : i < (bytesOf n f).length) : (bytesOf n f)[i] = byteF f i := by simp [bytesOf]
def byteV (f : Nat → Bool) (i : Nat) : Value := .int .u8 ((Bm.chunk f (8 * i) 8 : Nat) : Int)
theorem ss_of_row {w : World} {base g n N : Nat} {f : Nat → Bool} (hN : N = (n + 7) / 8) (h : w.ownsRow base 5 1 (.slice (some ⟨g, 0, none⟩) N N) N (rowK (byteV f) (.int .u8 0) N N)) : SS encB w w.heap.size (.slice (some ⟨g, 0, none⟩) N N) (bytesOf n f) := by
  subst hN
  refine ⟨g, _, by rw [bytesOf_len], (h.lt g rfl).2, fun i hi => ?_⟩
  rw [bytesOf_len] at hi
  rw [h.cellAt i (by omega), rowK_get _ _ _ _ _ hi, if_pos hi]
  rw [bytesOf_get]
  unfold byteV encB
  rw [byteF_nat]
theorem info_u8 : (Try.prog.info? 5).map (fun i => (i.zero, i.size, i.bytes)) = some (some (.int .u8 0), 1, 1) := by kernel_rfl
theorem made_u8 (n : Nat) : (madeCells #[Value.int .u8 0] n).toList = List.replicate n (Value.int .u8 0) := toList_madeCells_one _ _
theorem wrap_byte (f : Nat → Bool) (k : Nat) : IntKind.u8.wrap (((Bm.word f (k * 8 / 64) : Nat) : Int) / 2 ^ (k * 8 % 64)) = ((Bm.chunk f (8 * k) 8 : Nat) : Int) := by
  rw [IntKind.wrap_u8, show (2 : Int) ^ (k * 8 % 64) = ((2 ^ (k * 8 % 64) : Nat) : Int) by rw [Int.natCast_pow]; rfl, ← Int.natCast_ediv, ← Bm.word_byte]
  omega
set_option maxRecDepth 100000 in
set_option maxHeartbeats 1000000 in
theorem bytes_any (w : World) (b n : Nat) (f : Nat → Bool) (M : MapAt w b n f) :
    Calls Try.prog 20 #[.pointer (some ⟨b, 0, none⟩)] w fun e w' => ∃ v, e = .returned v ∧ SS encB w' w'.heap.size v (bytesOf n f) ∧ Below w.heap.size w w' := by
  have hn := M.le
  have h1 := M.num
  have HM := Lib.hid M
  obtain ⟨i0, hi, hz0, hz1, hz2⟩ := info_parts info_u8
  obtain ⟨N, hN⟩ : ∃ N, N = (n + 7) / 8 := ⟨_, rfl⟩
  have hN512 : N ≤ 512 := by omega
  have HN := Lib.hid hN
  clear M hN
  go_enter Try.func20, Try.ntmps20
  go_wp2_with fail
  refine (mapMade_any w b n f HM.out).mono ?_
  rintro e w' ⟨rfl, rfl⟩
  go_wp2_with fail
  refine (byteCount_any n N _ hn (by have := HN.out; omega)).mono ?_
  rintro e w' ⟨rfl, rfl⟩
  go_wp2_with (at_make; refine wpList_make_full _ rfl _ _ 23 rfl w.heap.size 5 i0 (.int .u8 0) 1 Try.underlying23 hi hz0 hz1 _ _ _ _ N rfl rfl rfl rfl ?c1 ?c2 ?c3 ?_)
  case c1 => rw [hz2]; omega
  case c2 => unfold maxLen; omega
  case c3 => omega
  intro w1 hown hgrow
  rw [made_u8, rowK_zero (byteV f)] at hown
  have hB1 : Below w.heap.size w w1 := (Below.refl _ _).grown hgrow (Nat.le_refl _) (by simp)
  have HO := Lib.hid hown
  have HB := Lib.hid hB1
  clear hown hgrow hB1
  go_wp2_with fail
  go_loopw [16] (fun i wr => ∃ k : Nat, k ≤ N ∧ i = .int .i64 k ∧ wr.ownsRow w.heap.size 5 1 (.slice (some ⟨w.heap.size, 0, none⟩) N N) N (rowK (byteV f) (.int .u8 0) N k) ∧ Below w.heap.size w wr) (fun i _ => N - (intOf i).toNat)
  case atStart => exact ⟨0, Nat.zero_le _, rfl, HO.out, HB.out⟩
  case round =>
    obtain ⟨k, hk, rfl, hown, hB⟩ := hrel
    by_cases hlt : k < N
    · have M := HM.out.below hB HM.out.lt
      have hw := M.word (k * 8 / 64) (by omega)
      have hwr := wrap_byte f k
      have hcell := hown.cellAt k (by omega)
      rw [rowK_get _ _ _ _ _ hlt, if_neg (by omega)] at hcell
      have hfz := hown.frozenAt k
      have hst := hown.stored k (byteV f k)
      rw [rowK_set] at hst
      have HS := Lib.hid hst
      have HB2 := Lib.hid hB
      have hltI : (k : Int) < (N : Int) := by omega
      clear hst hown M hB HO HB
      go_wp2_with fail
      go_roundw
      case rel => exact ⟨k + 1, by omega, by go_num, HS.out.1, HB2.out.setCell (Nat.le_refl _) _⟩
      case measure => simp [intOf]; omega
    · have HO2 := Lib.hid hown
      clear hown
      go_wp2_with fail
      go_ret
      obtain rfl : k = N := by omega
      exact ⟨_, rfl, ss_of_row HN.out HO2.out, hB⟩
end Go.Proofs.Ytanppmpijadhbaa
