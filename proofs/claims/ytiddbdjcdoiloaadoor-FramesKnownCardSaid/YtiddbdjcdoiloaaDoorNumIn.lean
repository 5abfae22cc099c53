/- The contracts of numberIn and of the closures that it makes: numbers written into and read from bytes of a sector. Conditions: a block of bytes, a cell that holds a slice of it. -/
import Derived.Test.YtiddbdjcdoiloaaDoorBase
import Derived.Test.YtiddbdjcdoiloaaDoorFm
namespace Go.Proofs.YtiddbdjcdoiloaaDoor
open Go.RowKit Fm

/-- A block of bytes. -/
def ByB (w : World) (b : Nat) (l : List UInt8) : Prop := Blk w b (l.map encB).toArray 38
section
variable {w w' : World} {b : Nat} {l : List UInt8}
theorem ByB.cell (h : ByB w b l) (i : Nat) (hi : i < l.length) : w.cell? ⟨b, i, none⟩ = some (.int .u8 (l[i].toNat : Int)) := Blk.cell h i (by simp [hi, encB])
theorem ByB.free (h : ByB w b l) (i : Nat) : w.frozen? ⟨b, i, none⟩ = false := Blk.free h i
theorem ByB.set (h : ByB w b l) (i : Nat) (c : UInt8) : ByB (w.setCell ⟨b, i, none⟩ (.int .u8 (c.toNat : Int))) b (l.set i c) := by
  have := Blk.set h i (.int .u8 (c.toNat : Int))
  unfold ByB
  rw [List.map_set]
  simpa [encB] using this
theorem ByB.sl (h : ByB w b l) (o k c : Nat) (hk : o + k ≤ l.length) (hc : k ≤ c) : SL encB w w.heap.size (.slice (some ⟨b, o, none⟩) k c) (sub l o k) := by
  refine .inr ⟨b, o, c, by rw [sub_len _ _ _ hk], Blk.lt h, by rw [sub_len _ _ _ hk]; exact hc, fun i hi => ?_⟩
  rw [sub_len _ _ _ hk] at hi
  rw [h.cell (o + i) (by omega)]
  simp [sub, encB]
end
theorem shr_byte (n k : Nat) : ((n : Int) / 2 ^ (8 * k)) % 256 = ((Cm.byteAt n k).toNat : Int) := by
  rw [Cm.byteAt_nat]
  have e : (2 : Int) ^ (8 * k) = ((256 ^ k : Nat) : Int) := by rw [Int.natCast_pow, Int.pow_mul]; rfl
  rw [e, ← Int.natCast_ediv]
  omega
set_option maxRecDepth 100000 in
set_option maxHeartbeats 1000000 in
theorem write_any (w : World) (p b o k c n : Nat) (l : List UInt8) (hp : w.cell? ⟨p, 0, none⟩ = some (.slice (some ⟨b, o, none⟩) k c)) (hpb : p ≠ b) (hB : ByB w b l) (hk : o + k ≤ l.length) (hk4 : k ≤ 4) :
    Calls Tryd.prog 84 #[.int .u32 (n : Int), .pointer (some ⟨p, 0, none⟩)] w fun e w' => e = .returned (.tuple #[]) ∧ ByB w' b (splice l o (le n k)) ∧ w.grownBy w' (some b) := by
  have HB := Lib.hid hB
  have HP := Lib.hid hp
  clear hB hp
  have hp0 := HP.out
  go_enter Tryd.func84, Tryd.ntmps84
  go_wp2_with fail
  clear hp0
  go_loopw [6] (fun i wr => ∃ j : Nat, j ≤ k ∧ i = .int .i64 j ∧ Hid (ByB wr b (splice l o (le n j))) ∧ Hid (w.grownBy wr (some b))) (fun i _ => k - (intOf i).toNat)
  case atStart => exact ⟨0, by omega, rfl, by show ByB _ _ (splice l o []); rw [splice_nil]; exact HB.out, grown_refl _ _⟩
  case round =>
    obtain ⟨j, hj, rfl, HR, HG⟩ := hrel
    by_cases hlt : j < k
    · have hltI : (j : Int) < (k : Int) := by omega
      have hp1 : wr.cell? ⟨p, 0, none⟩ = some (.slice (some ⟨b, o, none⟩) k c) := (World.cell?_of_block (w := w) (a := ⟨p, 0, none⟩) (HG.out.block p (block_lt_of_cell HP.out) (fun e => hpb (Option.some.inj e)))).trans HP.out
      have hsl : (splice l o (le n j)).length = l.length := splice_len _ _ _ (by rw [le_len]; omega)
      have hc := HR.out.cell (o + j) (by omega)
      have hf := HR.out.free (o + j)
      have hs := shr_byte n j
      have HS : Hid (ByB (wr.setCell ⟨b, o + j, none⟩ (.int .u8 ((Cm.byteAt n j).toNat : Int))) b (splice l o (le n (j + 1)))) := by
        have := HR.out.set (o + j) (Cm.byteAt n j)
        rw [splice_le_set l o n j (by omega)] at this; exact this
      obtain ⟨cb, hcb⟩ : ∃ cb, cb = ((splice l o (le n j))[o + j]'(by omega)).toNat := ⟨_, rfl⟩
      obtain ⟨x, hx⟩ : ∃ x, x = (Cm.byteAt n j).toNat := ⟨_, rfl⟩
      rw [← hcb] at hc
      rw [← hx] at hs HS
      clear hsl hcb hx
      go_wp2_with fail
      go_region
      all_goals
        go_wp2
        go_roundw
        case rel => exact ⟨j + 1, by omega, by go_num, HS.out, grown_drewN (grown_set HG.out (o + j) _) 1⟩
        case measure => simp [intOf]; omega
    · obtain rfl : j = k := by omega
      have hltI : ¬ (j : Int) < (j : Int) := by omega
      go_wp2_with fail
      go_end0
      exact ⟨rfl, HR.out, HG.out⟩
theorem num_take (l : List UInt8) (o k j : Nat) (hj : j < k) (hk : o + k ≤ l.length) : num ((sub l o k).take (j + 1)) = num ((sub l o k).take j) + (l[o + j]'(by omega)).toNat * 256 ^ j := by
  have hl : (sub l o k).length = k := sub_len _ _ _ hk
  rw [List.take_succ_eq_append_getElem (by omega), num_snoc]
  have e1 : ((sub l o k).take j).length = j := by rw [List.length_take]; omega
  have e2 : (sub l o k)[j]'(by omega) = l[o + j]'(by omega) := by simp [sub]
  rw [e1, e2]
set_option maxRecDepth 100000 in
set_option maxHeartbeats 1000000 in
theorem read_num (w : World) (p b o k c : Nat) (l : List UInt8) (hp : w.cell? ⟨p, 0, none⟩ = some (.slice (some ⟨b, o, none⟩) k c)) (hB : ByB w b l) (hk : o + k ≤ l.length) (hk4 : k ≤ 4) :
    Calls Tryd.prog 85 #[.pointer (some ⟨p, 0, none⟩)] w fun e w' => e = .returned (.int .u32 ((num (sub l o k) : Nat) : Int)) ∧ w = w' := by
  have HB := Lib.hid hB
  have hsl : (sub l o k).length = k := sub_len _ _ _ hk
  have HSL := Lib.hid hsl
  clear hB hsl
  go_enter Tryd.func85, Tryd.ntmps85
  go_wp2_with fail
  clear hp
  go_loop [2, 7] (fun n i => ∃ j x : Nat, j ≤ k ∧ i = .int .i64 j ∧ n = .int .u32 (x : Int) ∧ Hid (x = num ((sub l o k).take j))) (fun _ i => k - (intOf i).toNat)
  case atStart => exact ⟨0, 0, by omega, rfl, rfl, rfl⟩
  case round =>
    obtain ⟨j, x, hj, rfl, rfl, HX⟩ := hrel
    by_cases hlt : j < k
    · have hltI : (j : Int) < (k : Int) := by omega
      have hc := HB.out.cell (o + j) (by omega)
      have hn := num_take l o k j hlt hk
      rw [← HX.out] at hn
      have hxl : x < 256 ^ j := by
        have := num_lt ((sub l o k).take j)
        rw [← HX.out, List.length_take, HSL.out, Nat.min_eq_left hj] at this; exact this
      have hcl := (l[o + j]'(by omega)).toNat_lt
      obtain ⟨cb, hcb⟩ : ∃ cb, cb = (l[o + j]'(by omega)).toNat := ⟨_, rfl⟩
      rw [← hcb] at hc hn hcl
      obtain ⟨y, hy⟩ : ∃ y, y = cb * 256 ^ j := ⟨_, rfl⟩
      rw [← hy] at hn
      have hp4 : 256 ^ j ≤ 256 ^ 3 := Nat.pow_le_pow_right (by omega) (by omega)
      have hy32 : y + 256 ^ j ≤ 4294967296 := by
        rw [hy]
        have : cb * 256 ^ j + 256 ^ j = (cb + 1) * 256 ^ j := by rw [Nat.add_mul, Nat.one_mul]
        rw [this]
        exact Nat.le_trans (Nat.mul_le_mul (by omega : cb + 1 ≤ 256) hp4) (by decide)
      have e2 : (2 : Int) ^ (8 * j) = ((256 ^ j : Nat) : Int) := by rw [Int.natCast_pow, Int.pow_mul]; rfl
      have hsh : (cb : Int) * 2 ^ (8 * j) = (y : Int) := by rw [e2, hy, Int.natCast_mul]
      have hor : bits .or .u32 (x : Int) (y : Int) = ((num ((sub l o k).take (j + 1)) : Nat) : Int) := by
        rw [hn, u32_or_nat x y (by omega) (by omega), hy, Nat.mul_comm cb, show (256 : Nat) ^ j = 2 ^ (8 * j) by rw [Nat.pow_mul]]
        rw [Nat.or_comm, ← Nat.two_pow_add_eq_or_of_lt (by rw [Nat.pow_mul]; exact hxl), Nat.add_comm]
      have hyI : (y : Int) < 4294967296 := by have : 0 < 256 ^ j := Nat.pow_pos (by omega); omega
      obtain ⟨z, hz⟩ : ∃ z, z = num ((sub l o k).take (j + 1)) := ⟨_, rfl⟩
      rw [← hz] at hor
      have HZ := Lib.hid hz
      clear hcb hn hxl hy hp4 hy32 e2 hz
      go_wp2_with fail
      exact ⟨⟨j + 1, z, by omega, by go_num, rfl, HZ.out⟩, by simp [intOf]; omega⟩
    · obtain rfl : j = k := by omega
      have hltI : ¬ (j : Int) < (j : Int) := by omega
      go_wp2_with fail
      go_ret
      exact ⟨ret_nat (by rw [HX.out, List.take_of_length_le (by rw [HSL.out]; omega)]), rfl⟩
/-- What numberIn hands back. -/
def numC (p : Nat) : Array Value := #[.func (.func 84) #[] #[.pointer (some ⟨p, 0, none⟩)], .func (.func 85) #[] #[.pointer (some ⟨p, 0, none⟩)]]
theorem iNum : (Tryd.prog.info? 90).map (·.size) = some 2 := by kernel_rfl
theorem numC_one (p : Nat) : (numC p).all (·.oneCell') = true := by simp [numC, Value.oneCell']
theorem setRow_of {w : World} {g : Nat} {old : Array Value} {t : TypeId} (h : Blk w g old t) (cs : Array Value) : Blk (w.setRow g cs) g cs t := setRow_heap w g _ _ _ _ h
theorem grown_setRow {w : World} {g : Nat} (cs : Array Value) : w.grownBy (w.setRow g cs) (some g) := ⟨rfl, rfl, rfl, by simp, fun i _ hr => setRow_other _ _ _ _ (fun e => hr (by rw [e]))⟩
set_option maxRecDepth 100000 in
theorem numberIn_any (w : World) (A : Option Addr) (k c : Nat) :
    Calls Tryd.prog 68 #[.slice A k c] w fun e w' => ∃ p, e = .returned (.agg (numC p)) ∧ Blk w' p #[.slice A k c] 22 ∧ w.heap.size ≤ p ∧ Below w.heap.size w w' := by
  have HB2 : Hid (Below w.heap.size w ((w.alloc (.cells #[.slice A k c] 22)).alloc (.cells #[.nilFunc, .nilFunc] 90))) := ((Below.refl _ _).alloc (Nat.le_refl _) _).alloc (by simp) _
  have HN : Hid (Blk ((w.alloc (.cells #[.slice A k c] 22)).alloc (.cells #[.nilFunc, .nilFunc] 90)) (w.heap.size + 1) #[.nilFunc, .nilFunc] 90) := by
    have := Blk.new (w.alloc (.cells #[.slice A k c] 22)) #[.nilFunc, .nilFunc] 90
    rw [show (w.alloc (.cells #[.slice A k c] 22)).heap.size = w.heap.size + 1 by simp] at this; exact this
  have HS : Hid (Blk ((w.alloc (.cells #[.slice A k c] 22)).alloc (.cells #[.nilFunc, .nilFunc] 90)) w.heap.size #[.slice A k c] 22) := (Blk.new w _ _).below ((Below.refl _ _).alloc (Nat.le_refl _) _) (by simp)
  go_enter Tryd.func68, Tryd.ntmps68
  go_wp2_with (first
    | (refine wpList_store_row rfl 90 (.tmp 2) (.tmp 5) rfl (w.heap.size + 1) (numC w.heap.size) rfl rfl 90 _ HN.out (by rw [iNum]; rfl) rfl (numC_one _) ?_)
    | (refine bodyPost_ret (results_cell_row rfl _ _ (w.heap.size + 1) 90 (numC w.heap.size) (0, 0) _ rfl (setRow_of HN.out _) Tryd.underlying90 rfl (by rw [iNum]; rfl)) rfl ?_))
  have hg := grown_setRow (w := (w.alloc (.cells #[.slice A k c] 22)).alloc (.cells #[.nilFunc, .nilFunc] 90)) (g := w.heap.size + 1) (numC w.heap.size)
  exact ⟨w.heap.size, rfl, HS.out.grown hg (fun e => by have := Option.some.inj e; omega), Nat.le_refl _, below_grown HB2.out hg HB2.out.size (by omega)⟩
end Go.Proofs.YtiddbdjcdoiloaaDoor
