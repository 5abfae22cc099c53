/- The contracts of kindTable, of the search in it, and of kindsOf of package records; of form and width of the reference. Condition: a string of at most 10^9 bytes. -/
import Derived.Test.YtelpgjaagkojeaaReads
import Derived.Test.YtelpgjaagkojeaaWrite
namespace Go.Proofs.Ytelpgjaagkojeaa
open Go.RowKit

theorem below_setRow {B : Nat} {a w : World} (h : Below B a w) {g : Nat} {cs : Array Value} (hB : B ≤ g) : Below B a (w.setRow g cs) :=
  h.trans ⟨rfl, rfl, rfl, by simp, fun k hk => setRow_other _ _ _ _ (by omega)⟩
def kinds7 : List UInt8 := [98, 119, 100, 113, 118, 115, 108]
def kindCs (c : UInt8) : List Value := [.int .u8 (c.toNat : Int), .int .i64 (kb c : Int), (.func (.func (chkF c)) #[] #[]), (.func (.func (wrF c)) #[] #[]), (.func (.func (rdF c)) #[] #[])]
/-- The cells of the table. -/
def tabCs : Array Value := #[.int .u8 98, .int .i64 1, fnV 37, fnV 38, fnV 39, .int .u8 119, .int .i64 2, fnV 37, fnV 38, fnV 39, .int .u8 100, .int .i64 4, fnV 37, fnV 38, fnV 39, .int .u8 113, .int .i64 8, fnV 37, fnV 38, fnV 39, .int .u8 118, .int .i64 8, fnV 37, fnV 40, fnV 41, .int .u8 115, .int .i64 1, fnV 42, fnV 43, fnV 44, .int .u8 108, .int .i64 4, fnV 45, fnV 46, fnV 47]
theorem tabCs_eq : tabCs = (kinds7.flatMap kindCs).toArray := by rfl
theorem tabCs_one : tabCs.all (·.oneCell') = true := by simp [tabCs, fnV, Value.oneCell']
theorem uTab : Try.prog.underlying 70 = some (.array 7 60) := by kernel_rfl
theorem iTab : (Try.prog.info? 70).map (·.size) = some 35 := by kernel_rfl
set_option maxRecDepth 100000 in
set_option maxHeartbeats 1000000 in
theorem table_any (w : World) :
    Calls Try.prog 29 #[] w fun e w' => e = .returned (.agg tabCs) ∧ Below w.heap.size w w' := by
  go_enter Try.func29, Try.ntmps29
  go_wp2_with (refine wpList_store_row rfl 70 (.tmp 0) (.tmp 8) rfl w.heap.size tabCs rfl rfl 70 _ (Blk.new w _ _) (by rw [iTab]; rfl) rfl tabCs_one ?_)
  refine bodyPost_ret (results_cell_row rfl _ _ w.heap.size 70 tabCs (0, 0) _ rfl (setRow_heap _ w.heap.size _ _ _ _ (Blk.new w _ _)) uTab rfl (by rw [iTab]; rfl)) rfl ?_
  exact ⟨rfl, below_setRow ((Below.refl _ _).alloc (Nat.le_refl _) _) (Nat.le_refl _)⟩

theorem tab_len : tabCs.size = 35 := by rfl
/-- Where a letter stands in the table. -/
def kindAt (c : UInt8) : Option Nat := kinds7.findIdx? (· == c)
/-- The cells of a kind. -/
structure KAt (w : World) (b o : Nat) (c : UInt8) : Prop where
  c0 : w.cell? ⟨b, o, none⟩ = some (.int .u8 (c.toNat : Int))
  c1 : w.cell? ⟨b, o + 1, none⟩ = some (.int .i64 (kb c : Int))
  c2 : w.cell? ⟨b, o + 2, none⟩ = some ((.func (.func (chkF c)) #[] #[]))
  c3 : w.cell? ⟨b, o + 3, none⟩ = some ((.func (.func (wrF c)) #[] #[]))
  c4 : w.cell? ⟨b, o + 4, none⟩ = some ((.func (.func (rdF c)) #[] #[]))
theorem KAt.below {w w' : World} {B b o : Nat} {c : UInt8} (h : KAt w b o c) (hb : Below B w w') (hB : b < B) : KAt w' b o c :=
  ⟨(hb.cell (p := ⟨b, _, none⟩) hB).trans h.c0, (hb.cell (p := ⟨b, _, none⟩) hB).trans h.c1, (hb.cell (p := ⟨b, _, none⟩) hB).trans h.c2, (hb.cell (p := ⟨b, _, none⟩) hB).trans h.c3, (hb.cell (p := ⟨b, _, none⟩) hB).trans h.c4⟩
theorem tab_at (i : Nat) (h : i < 7) : ∀ j (hj : j < 5), tabCs[i * 5 + j]? = some ((kindCs (kinds7[i]'h))[j]'hj) := by
  intro j hj
  have hi : i = 0 ∨ i = 1 ∨ i = 2 ∨ i = 3 ∨ i = 4 ∨ i = 5 ∨ i = 6 := by omega
  have hj' : j = 0 ∨ j = 1 ∨ j = 2 ∨ j = 3 ∨ j = 4 := by omega
  rcases hi with rfl | rfl | rfl | rfl | rfl | rfl | rfl <;> rcases hj' with rfl | rfl | rfl | rfl | rfl <;> rfl
theorem KAt.tab {w : World} {g : Nat} (hT : Blk w g tabCs 70) (i : Nat) (h : i < 7) : KAt w g (i * 5) (kinds7[i]'h) :=
  ⟨hT.cell (i * 5) (tab_at i h 0 (by omega)), hT.cell _ (tab_at i h 1 (by omega)), hT.cell _ (tab_at i h 2 (by omega)), hT.cell _ (tab_at i h 3 (by omega)), hT.cell _ (tab_at i h 4 (by omega))⟩
/-- What the search is asked for. -/
theorem isit_any (w : World) (q : Nat) (c d : UInt8) (hc : w.cell? ⟨q, 0, none⟩ = some (.int .u8 (c.toNat : Int))) :
    Calls Try.prog 31 #[kindV d, .pointer (some ⟨q, 0, none⟩)] w fun e w' => e = .returned (.bool (d == c)) ∧ Below w.heap.size w w' := by
  have hlt := World.block_lt_of_cell? _ _ hc
  have hlt : q < w.heap.size := hlt
  have hB : Hid (∀ p, Below w.heap.size w (w.alloc p)) := fun p => (Below.refl _ _).alloc (Nat.le_refl _) _
  have hd : ((d.toNat : Int) == (c.toNat : Int)) = (d == c) := by
    rw [Bool.eq_iff_iff, beq_iff_eq, beq_iff_eq]
    constructor
    · intro h; exact UInt8.toNat_inj.1 (by omega)
    · rintro rfl; rfl
  have HD := Lib.hid hd
  obtain ⟨x, hx⟩ : ∃ x, x = c.toNat := ⟨_, rfl⟩
  obtain ⟨y, hy⟩ : ∃ y, y = d.toNat := ⟨_, rfl⟩
  unfold kindV
  rw [← hx, ← hy] at HD
  rw [← hx] at hc
  rw [← hy]
  clear hx hy hd
  go_enter Try.func31, Try.ntmps31
  go_wp2_with fail
  go_ret
  exact ⟨ret_bool HD.out, hB.out _⟩
theorem isK_iff (c : UInt8) : Rm.isK c = true ↔ ∃ i, ∃ h : i < 7, kinds7[i]'h = c := by
  constructor
  · intro h
    rcases Rm.isK_cases h with rfl | rfl | rfl | rfl | rfl | rfl | rfl
    · exact ⟨0, by omega, rfl⟩
    · exact ⟨1, by omega, rfl⟩
    · exact ⟨2, by omega, rfl⟩
    · exact ⟨3, by omega, rfl⟩
    · exact ⟨4, by omega, rfl⟩
    · exact ⟨5, by omega, rfl⟩
    · exact ⟨6, by omega, rfl⟩
  · rintro ⟨i, h, rfl⟩
    have hi : i = 0 ∨ i = 1 ∨ i = 2 ∨ i = 3 ∨ i = 4 ∨ i = 5 ∨ i = 6 := by omega
    rcases hi with rfl | rfl | rfl | rfl | rfl | rfl | rfl <;> rfl
/-- What the search says. -/
def IxE (c : UInt8) (e : Ending) : Prop := (Rm.isK c = true ∧ ∃ i : Nat, ∃ h : i < 7, e = .returned (.int .i64 (i : Int)) ∧ kinds7[i]'h = c) ∨ (Rm.isK c = false ∧ e = .returned (.int .i64 (-1)))
set_option maxRecDepth 100000 in
set_option maxHeartbeats 1000000 in
theorem indexFunc_any (w : World) (g q : Nat) (c : UInt8) (hT : Blk w g tabCs 70) (hc : w.cell? ⟨q, 0, none⟩ = some (.int .u8 (c.toNat : Int))) :
    Calls Try.prog 30 #[.slice (some ⟨g, 0, none⟩) 7 7, .func (.func 31) #[] #[.pointer (some ⟨q, 0, none⟩)]] w fun e w' => IxE c e ∧ Below w.heap.size w w' := by
  have HT := Lib.hid hT
  have hlt := World.block_lt_of_cell? _ _ hc
  have hqlt : q < w.heap.size := hlt
  have HC := Lib.hid hc
  clear hT hlt hc
  go_enter Try.func30, Try.ntmps30
  go_wp2_with fail
  go_loopw [8] (fun i wr => ∃ k : Nat, k ≤ 7 ∧ i = .int .i64 k ∧ Hid (Below w.heap.size w wr) ∧ Hid (∀ j (h : j < 7), j < k → kinds7[j]'h ≠ c)) (fun i _ => 7 - (intOf i).toNat)
  case atStart => exact ⟨0, by omega, rfl, Below.refl _ _, fun j h h' => by omega⟩
  case round =>
    obtain ⟨k, hk, rfl, HB, HN⟩ := hrel
    by_cases hlt : k < 7
    · have hltI : (k : Int) < 7 := by omega
      obtain ⟨g0, g1, g2, g3, g4⟩ := (KAt.tab HT.out k hlt).below HB.out HT.out.lt
      have hcr := (HB.out.cell (p := ⟨q, 0, none⟩) hqlt).trans HC.out
      have HI := Lib.hid (isit_any wr q c (kinds7[k]'hlt) hcr)
      obtain ⟨d, hd⟩ : ∃ d, d = kinds7[k]'hlt := ⟨_, rfl⟩
      rw [← hd] at g0 g1 g2 g3 g4 HI
      have HD := Lib.hid hd
      clear hd hcr
      go_wp2_with fail
      refine HI.out.mono ?_
      rintro e w1 ⟨rfl, hb⟩
      have HB1 : Hid (Below w.heap.size w w1) := HB.out.trans (hb.mono HB.out.size)
      clear hb g0 g1 g2 g3 g4 HI
      by_cases heq : d = c
      · have ht : (d == c) = true := by rw [beq_iff_eq]; exact heq
        have HK : Hid (IxE c (.returned (.int .i64 (k : Int)))) := Or.inl ⟨(isK_iff c).2 ⟨k, hlt, HD.out.symm.trans heq⟩, k, hlt, rfl, HD.out.symm.trans heq⟩
        clear heq
        rw [ht]
        clear ht
        go_wp2_with fail
        go_ret
        exact ⟨HK.out, HB1.out⟩
      · have ht : (d == c) = false := by rw [beq_eq_false_iff_ne]; exact heq
        have HN1 : Hid (∀ j (h : j < 7), j < k + 1 → kinds7[j]'h ≠ c) := fun j h hj => by
          by_cases e : j = k
          · subst e; rw [← HD.out]; exact heq
          · exact HN.out j h (by omega)
        clear heq
        rw [ht]
        clear ht
        go_wp2_with fail
        go_roundw
        case rel => exact ⟨k + 1, by omega, by go_num, HB1.out, HN1.out⟩
        case measure => simp [intOf]; omega
    · obtain rfl : k = 7 := by omega
      have HK : Hid (IxE c (.returned (.int .i64 (-1)))) := Or.inr ⟨by
        cases h : Rm.isK c with
        | false => rfl
        | true =>
          obtain ⟨i, hi, e⟩ := (isK_iff c).1 h
          exact absurd e (HN.out i hi hi), rfl⟩
      go_wp2_with fail
      go_ret
      exact ⟨HK.out, HB.out⟩
end Go.Proofs.Ytelpgjaagkojeaa
