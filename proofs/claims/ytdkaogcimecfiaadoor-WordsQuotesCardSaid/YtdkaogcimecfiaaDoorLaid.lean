/- The package-level variables: what the rows list of them gives what the walks ask ('Env'). No condition. -/
import Derived.Test.YtdkaogcimecfiaaDoorRows
import Derived.Test.YtdkaogcimecfiaaDoorInt
import Derived.LaidLaws
import Derived.Lib.LaidTab
import Derived.Stop.LaidErr
import Derived.LaidMore
import Derived.LaidHandle
import Derived.ProofKit
namespace Go.Proofs.YtdkaogcimecfiaaDoor
open Go.ChangeShapes Go.WideShapes Go.RowKit

def six : List (String × DataW Unit) := Rows.wordsNamesRow.laid
theorem pow_data : Rows.laid_internal_strconv_uint64pow10 (H := Unit) = Lib.tabData .u64 Lib.pow10Tab := by rfl
theorem door_met (os : Os) (args : Array Value) : laidMetH Tryd.prog six ((World.doorLaid Tryd.prog 82 os).forCall (fun _ _ => 0) ⟨#[], args, []⟩).memory :=
  laidMetH_of_parts3 (fuel := 8) (laidMet_of_run' 8 (by kernel_rfl) (by kernel_rfl)) (by kernel_rfl) (by kernel_rfl)

theorem int_of_trod {H : Type} {enc : TypeId × Value → H} {P : Program} {w : World} {base : Nat} {sp : Nat → Bool} {held : Bool} {fuel : Nat} {t : TypeId} {k : IntKind} {cs : List Value} {n : Int} {p : List MemPlace}
    (ht : P.underlying t = some (.int k)) (h : DataW.trod enc P w base sp held fuel t cs = some (.lit (.int k n), p)) : cs = [.int k n] := by
  cases fuel with
  | zero => simp [DataW.trod] at h
  | succ fuel =>
    unfold DataW.trod at h
    rw [ht] at h
    match cs, h with
    | [.int k' m], h =>
      simp only at h
      split at h
      · rename_i hk
        obtain ⟨rfl, _⟩ := hk
        simp only [Option.some.injEq, Prod.mk.injEq, DataW.lit.injEq, Lit.int.injEq] at h
        obtain ⟨⟨_, rfl⟩, _⟩ := h
        rfl
      · cases h
theorem gEsc : Tryd.prog.globalNamed "limewash/words.escapes" = some 3 := by kernel_rfl
theorem tEsc : (Tryd.prog.globals[3]?).map (·.type) = some 131 := by kernel_rfl
theorem uEscs : Tryd.prog.underlying 131 = some (.array 5 130) := by kernel_rfl
theorem uEsc : Tryd.prog.underlying 130 = some (.struct #[⟨ "char", 5, 0, false, "", "limewash/words", 0⟩, ⟨ "letter", 5, 1, false, "", "limewash/words", 1⟩]) := by kernel_rfl
theorem cEscs : Tryd.prog.cellsOf 131 = 10 := by kernel_rfl
theorem cEsc : Tryd.prog.cellsOf 130 = 2 := by kernel_rfl
theorem c8 : Tryd.prog.cellsOf 5 = 1 := by kernel_rfl
set_option maxRecDepth 100000 in
theorem esc_of_trod {enc : TypeId × Value → Unit} {w : World} {base : Nat} {sp : Nat → Bool} {held : Bool} {fuel : Nat} {cs : List Value} {a b : Int} {p : List MemPlace}
    (h : DataW.trod enc Tryd.prog w base sp held fuel 130 cs = some (.agg [.lit (.int .u8 a), .lit (.int .u8 b)], p)) : cs = [.int .u8 a, .int .u8 b] := by
  cases fuel with
  | zero => simp [DataW.trod] at h
  | succ fuel =>
    unfold DataW.trod at h
    rw [uEsc] at h
    simp only [cEsc] at h
    split at h
    · rename_i hl
      obtain ⟨x, y, rfl⟩ : ∃ x y, cs = [x, y] := by
        match cs, hl with
        | [x, y], _ => exact ⟨x, y, rfl⟩
      simp only [List.mapM_cons, List.mapM_nil, Option.map_eq_some_iff, Option.bind_eq_bind, Option.bind_eq_some_iff, Option.pure_def, Option.some.injEq] at h
      obtain ⟨xs, ⟨y0, h0, _, ⟨y1, h1, _, rfl, rfl⟩, rfl⟩, hx⟩ := h
      simp only [List.map_cons, List.map_nil, Prod.mk.injEq, DataW.agg.injEq, List.cons.injEq, and_true] at hx
      obtain ⟨⟨hx0, hx1⟩, _⟩ := hx
      obtain ⟨d0, q0⟩ := y0
      obtain ⟨d1, q1⟩ := y1
      subst hx0 hx1
      have e0 := int_of_trod Tryd.underlying5 h0
      have e1 := int_of_trod Tryd.underlying5 h1
      rw [c8] at e0 e1
      simp only [List.drop_zero, List.drop_succ_cons, List.take_succ_cons, List.take_zero, List.cons.injEq, and_true] at e0 e1
      rw [e0, e1]
    · cases h
theorem tab_of_laid {W : World} {r : List (String × DataW Unit)} (h : laidMet Tryd.prog (("limewash/words.escapes", Rows.laid_limewash_words_escapes) :: r) W) : Tab W := by
  obtain ⟨ps, ⟨g', t', cs, fuel, p, q, hg', ht', hvar, hd, _, _⟩, _⟩ := h
  obtain rfl := Option.some.inj (gEsc.symm.trans hg')
  obtain rfl := Option.some.inj (tEsc.symm.trans ht')
  have hcs : cs.toList = [.int .u8 34, .int .u8 34, .int .u8 92, .int .u8 92, .int .u8 10, .int .u8 110, .int .u8 13, .int .u8 114, .int .u8 9, .int .u8 116] := by
    obtain ⟨l⟩ := cs
    cases fuel with
    | zero => simp [DataW.trod] at hd
    | succ fuel =>
      unfold DataW.trod at hd
      rw [uEscs] at hd
      simp only [cEscs, cEsc] at hd
      split at hd
      · rename_i hl
        obtain ⟨a0, a1, a2, a3, a4, a5, a6, a7, a8, a9, rfl⟩ : ∃ a0 a1 a2 a3 a4 a5 a6 a7 a8 a9, l = [a0, a1, a2, a3, a4, a5, a6, a7, a8, a9] := by
          match l, hl with
          | [a0, a1, a2, a3, a4, a5, a6, a7, a8, a9], _ => exact ⟨_, _, _, _, _, _, _, _, _, _, rfl⟩
        have e : List.range 5 = [0, 1, 2, 3, 4] := rfl
        rw [e] at hd
        simp only [List.mapM_cons, List.mapM_nil, Option.map_eq_some_iff, Option.bind_eq_bind, Option.bind_eq_some_iff, Option.pure_def, Option.some.injEq] at hd
        obtain ⟨xs, ⟨y0, h0, _, ⟨y1, h1, _, ⟨y2, h2, _, ⟨y3, h3, _, ⟨y4, h4, _, rfl, rfl⟩, rfl⟩, rfl⟩, rfl⟩, rfl⟩, hx⟩ := hd
        obtain ⟨d0, q0⟩ := y0
        obtain ⟨d1, q1⟩ := y1
        obtain ⟨d2, q2⟩ := y2
        obtain ⟨d3, q3⟩ := y3
        obtain ⟨d4, q4⟩ := y4
        simp only [List.map_cons, List.map_nil, Rows.laid_limewash_words_escapes, Prod.mk.injEq, DataW.agg.injEq, List.cons.injEq, and_true] at hx
        obtain ⟨⟨rfl, rfl, rfl, rfl, rfl⟩, _⟩ := hx
        have e0 := esc_of_trod h0
        have e1 := esc_of_trod h1
        have e2 := esc_of_trod h2
        have e3 := esc_of_trod h3
        have e4 := esc_of_trod h4
        simp at e0 e1 e2 e3 e4
        simp [e0, e1, e2, e3, e4]
      · cases hd
  have hc : cs = #[.int .u8 34, .int .u8 34, .int .u8 92, .int .u8 92, .int .u8 10, .int .u8 110, .int .u8 13, .int .u8 114, .int .u8 9, .int .u8 116] := by rw [← hcs]
  subst hc
  have hv := World.var?_cell gEsc hvar
  exact ⟨hv 0, hv 1, hv 2, hv 3, hv 4, hv 5, hv 6, hv 7, hv 8, hv 9⟩
theorem row_err (u : TypeId) (h : Tryd.prog.typeName? 3 u = some "*errors.errorString") : u = 136 :=
  typeName_ptr_named (nm := "errors.errorString") (by rw [show "*" ++ "errors.errorString" = "*errors.errorString" by decide]; kernel_rfl) (by kernel_rfl) (by decide) u (by rw [show "*" ++ "errors.errorString" = "*errors.errorString" by decide]; exact h)
theorem uErrS : Tryd.prog.underlying 138 = some (.struct #[⟨ "s", 9, 0, false, "", "errors", 0⟩]) := by kernel_rfl
theorem uErrP : Tryd.prog.underlying 136 = some (.pointer 138) := by kernel_rfl
theorem cErrS : Tryd.prog.cellsOf 138 = 1 := by kernel_rfl
theorem cStr : Tryd.prog.cellsOf 9 = 1 := by kernel_rfl
theorem env_of_laid {W : World} (h0 : laidMet Tryd.prog six W) (hs : 7 ≤ W.heap.size) : Env W := by
  have h : laidMet Tryd.prog [("math/bits.deBruijn32tab", Rows.laid_math_bits_deBruijn32tab), ("math/bits.deBruijn64tab", Rows.laid_math_bits_deBruijn64tab), ("internal/strconv.uint64pow10", Lib.tabData .u64 Lib.pow10Tab), ("strconv.ErrRange", Rows.laid_strconv_ErrRange), ("strconv.ErrSyntax", Rows.laid_strconv_ErrSyntax), ("limewash/words.escapes", Rows.laid_limewash_words_escapes)] W := by
    rw [← pow_data]; exact h0
  have h1 := h.tail.tail
  have hp := Lib.tabIs_of_head (t := 124) (e := 100) (n := 20) gPow (by kernel_rfl) (by kernel_rfl) (by kernel_rfl) (by kernel_rfl) (by kernel_rfl) h1
  obtain ⟨a, s, hr, _⟩ := laid_sentinel h1.tail gErrR (by kernel_rfl) err_iface row_err uErrP uErrS rfl rfl Tryd.underlying9 cErrS cStr
  obtain ⟨b, s2, hq, _⟩ := laid_sentinel h1.tail.tail gErrS (by kernel_rfl) err_iface row_err uErrP uErrS rfl rfl Tryd.underlying9 cErrS cStr
  exact ⟨tab_of_laid h1.tail.tail.tail, hp, ⟨_, _, hr⟩, ⟨_, _, hq⟩, hs⟩
theorem g64 : Tryd.prog.globalNamed "math/bits.deBruijn64tab" = some 6 := by kernel_rfl
theorem size_of_laid {W : World} (h : laidMet Tryd.prog six W) : 7 ≤ W.heap.size := by
  have h1 : laidMet Tryd.prog (("math/bits.deBruijn64tab", Rows.laid_math_bits_deBruijn64tab) :: six.drop 2) W := laidMet.tail (x := ("math/bits.deBruijn32tab", Rows.laid_math_bits_deBruijn32tab)) h
  obtain ⟨ps, ⟨g', t', cs, fuel, p, q, hg', ht', hvar, hd, _, _⟩, _⟩ := h1
  by_cases hs : 7 ≤ W.heap.size
  · exact hs
  · unfold World.var? at hvar
    rw [g64] at hvar
    have hn : W.heap[6]? = none := Array.getElem?_eq_none (by omega)
    simp [hn] at hvar
theorem wf64 {n : Int} (h : (Lit.int .i64 n).wf = true) : -9223372036854775808 ≤ n ∧ n ≤ 9223372036854775807 := by
  simp only [Lit.wf, Bool.and_eq_true, decide_eq_true_eq] at h
  exact h
end Go.Proofs.YtdkaogcimecfiaaDoor
