/- The walk of WordsQuotes: it returns true. Conditions: the string is one that Go can have, and the variables hold what their text lays. -/
import Derived.Test.YtdkaogcimecfiaaDoorShown
import Derived.Test.YtdkaogcimecfiaaDoorRUnq
import Derived.Test.YtdkaogcimecfiaaDoorQuote
namespace Go.Proofs.YtdkaogcimecfiaaDoor
open Go.RowKit

theorem unqV_form (l : List UInt8) : ∃ (t : ByteArray) (c : Int), unqV l = .tuple #[.string t, .int .i64 c] := by
  unfold unqV
  cases quotedAt l 0 with
  | none => exact ⟨_, _, rfl⟩
  | some p =>
    obtain ⟨y, n⟩ := p
    simp only
    split
    · exact ⟨_, _, rfl⟩
    · exact ⟨_, _, rfl⟩

set_option maxRecDepth 100000 in
set_option maxHeartbeats 2000000 in
theorem law_quotes (s : ByteArray) (w : World) (hs : s.size ≤ maxLen) (E : Env w) :
    Calls Tryd.prog 4 #[.string s] w fun e w' => e = .returned (.bool true) ∧ Below w.heap.size w w' := by
  have hEs := E.size
  have TE : Hid (∀ W, Below w.heap.size w W → Env W) := fun W hb => E.below hb hEs
  unfold maxLen at hs
  by_cases hbig : 1000 < s.size
  · go_enter Tryd.func4, Tryd.ntmps4
    go_wp2_with fail
    refine (shown_any w E).mono ?_
    rintro e w1 ⟨rfl, hb1⟩
    go_wp2_with fail
    go_ret
    exact ⟨rfl, hb1⟩
  · obtain ⟨t, c, hu⟩ := unqV_form (bs s)
    have HU := Lib.hid hu
    clear hu
    go_enter Tryd.func4, Tryd.ntmps4
    go_wp2_with fail
    refine (unquote_any s w (by omega) E.tab hEs).mono ?_
    rw [HU.out]
    rintro e w1 ⟨rfl, hb1⟩
    have hb1s := hb1.size
    go_wp2_with fail
    refine (runquote_any s _ (by omega)).mono ?_
    rw [HU.out]
    rintro e w2 ⟨rfl, hb2⟩
    have hb2' : Below w.heap.size w w2 := hb1.trans (hb2.mono hb1.size)
    have hb2s := hb2'.size
    go_wp2_with fail
    refine (quote_any s _ (by omega) (TE.out _ hb2').tab (by omega)).mono ?_
    obtain ⟨q, hq⟩ : ∃ q : ByteArray, q = ⟨(quoteL (bs s)).toArray⟩ := ⟨_, rfl⟩
    rw [← hq]
    rintro e w3 ⟨rfl, hb3⟩
    have hb3' : Below w.heap.size w w3 := hb2'.trans (hb3.mono hb2'.size)
    have HQ := Lib.hid hq
    clear hq
    go_wp2_with fail
    refine (rquote_any s _ (by omega)).mono ?_
    rw [← HQ.out]
    rintro e w4 ⟨rfl, hb4⟩
    have hb4' : Below w.heap.size w w4 := hb3'.trans (hb4.mono hb3'.size)
    go_wp2_with fail
    refine (shown_any _ (TE.out _ hb4')).mono ?_
    rintro e w5 ⟨rfl, hb5⟩
    have hb5' : Below w.heap.size w w5 := hb4'.trans (hb5.mono hb4'.size)
    go_wp2_with fail
    go_ret
    exact ⟨rfl, hb5'⟩
end Go.Proofs.YtdkaogcimecfiaaDoor
