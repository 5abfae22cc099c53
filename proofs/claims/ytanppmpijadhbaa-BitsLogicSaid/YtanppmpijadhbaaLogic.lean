/- Plain facts for BitsLogic: equal bytes, equal words; two maps and their lists. No condition. -/
import Derived.Test.YtanppmpijadhbaaRBoth
import Derived.Test.YtanppmpijadhbaaLawLoads
import Derived.Test.YtanppmpijadhbaaComb
namespace Go.Proofs.Ytanppmpijadhbaa
open Go.RowKit

/-- The bytes of two maps of n bits are equal exactly if their words are. -/
theorem bytes_eq_words {n : Nat} {f g : Nat → Bool} (hn : n ≤ 4096) (hf : ∀ i, n ≤ i → f i = false) (hg : ∀ i, n ≤ i → g i = false) : decide (bytesOf n f = bytesOf n g) = eqW f g := by
  rw [Bool.eq_iff_iff, decide_eq_true_eq]
  constructor
  · intro h
    have : f = g := by rw [← bytesOf_bits n f hf, ← bytesOf_bits n g hg, h]
    rw [this]; exact eqW_refl g
  · intro h
    have hw : ∀ k, k < 64 → Bm.word f k = Bm.word g k := by
      intro k hk
      unfold eqW at h
      rw [List.all_eq_true] at h
      have := h k (List.mem_range.2 hk)
      simpa using this
    have : f = g := by
      funext i
      by_cases hi : i < n
      · have e := hw (i / 64) (by omega)
        have a := Bm.chunk_bit f (64 * (i / 64)) 64 (i % 64)
        have b := Bm.chunk_bit g (64 * (i / 64)) 64 (i % 64)
        have e2 : 64 * (i / 64) + i % 64 = i := by omega
        unfold Bm.word at e
        rw [e, b] at a
        rw [e2, decide_eq_true (p := i % 64 < 64) (by omega), Bool.true_and, Bool.true_and] at a
        exact a.symm
      · rw [hf i (by omega), hg i (by omega)]
    rw [this]
theorem str_eq (y z : List UInt8) : ((⟨y.toArray⟩ : ByteArray).toList == (⟨z.toArray⟩ : ByteArray).toList) = decide (y = z) := by
  have e : ∀ l : List UInt8, (⟨l.toArray⟩ : ByteArray).toList = l := fun l => by rw [Lib.toList_data]
  rw [e, e, Bool.eq_iff_iff, decide_eq_true_eq, beq_iff_eq]
/-- Two maps and their lists, carried into a world that has only grown. -/
structure Two (w : World) (b c N M : Nat) (u v : Value) (l m : List Bool) : Prop where
  mx : MapAt w b N (listF l)
  my : MapAt w c M (listF m)
  sl : SL encT w w.heap.size u l
  sm : SL encT w w.heap.size v m
  ll : l.length = N
  lm : m.length = M
theorem Two.below {w w' : World} {b c N M : Nat} {u v : Value} {l m : List Bool} (h : Two w b c N M u v l m) (hb : Below w.heap.size w w') : Two w' b c N M u v l m :=
  ⟨h.mx.below hb h.mx.lt, h.my.below hb h.my.lt, (h.sl.below hb (Nat.le_refl _)).mono hb.size, (h.sm.below hb (Nat.le_refl _)).mono hb.size, h.ll, h.lm⟩
end Go.Proofs.Ytanppmpijadhbaa
