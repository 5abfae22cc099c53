/- The row of DeviceWhole. No condition beyond the row's own. -/
import Derived.Test.YtcmhhiakmgooeaaLawWhole
import Derived.Test.YtcmhhiakmgooeaaPuts
import Derived.Test.YtcmhhiakmgooeaaPutsN
namespace Go.Proofs.Ytcmhhiakmgooeaa
open Go.ChangeShapes Go.WideShapes Go.RowKit

theorem ownWhole : ownKnob Try.prog.godebug = none := by kernel_rfl
theorem pWhole : Try.f5.params = #[47, 47] := by kernel_rfl
set_option maxRecDepth 100000 in
theorem whole_lifted (os : Os) (started : os.Started) (H : Type) (enc : TypeId × Value → H) :
    ReturnsInHanded {} Try.checked os 5 .any (Rows.deviceWholeSpec.pre6 enc Try.prog Try.f5 Rows.deviceWholeRow.domain false) (Rows.deviceWholeSpec.post enc Try.prog Try.f5 false true false false) := by
  refine returnsInHanded_of_change (C := Try.checked) ownWhole started (by kernel_rfl) Try.func5
    (ChangeSpec.witness6 (enc := enc) (C := Try.checked) false ⟨#[], #[.slice none 0 0, .slice none 0 0], []⟩ 8 (by kernel_rfl) (by kernel_rfl) (by kernel_rfl) (by kernel_rfl)) ?_
  intro W base args ds gs before hval0 hW hcnd _
  have hval : ∀ (j : Nat) t v, Try.f5.params[j]? = some t → args[j]? = some v → Value.okWide Try.prog W .any base t v := hval0
  have hW' := hW
  obtain ⟨p, q, hA0, hV, rfl, hfz, hnd⟩ := hW
  have hA : DataW.TrodAll enc Try.prog W 0 (fun _ => true) true Try.f5.params.toList args.toList ds p := hA0
  rw [pWhole] at hA hval
  obtain ⟨v0, v1, d0, d1, p0, p1, rfl, rfl, rfl, h0, h1⟩ := trodAll_two hA
  obtain ⟨rfl, rfl⟩ := trodVars_none hV
  have hlt : ∀ x ∈ p0 ++ p1, x.block < W.heap.size := fun x hx => hW'.lt x (by simpa using hx)
  have k0 := h0
  have k1 := h1
  obtain ⟨cs0, hc0, hcl0⟩ := open_putsL (hval 0 47 v0 rfl rfl) h0
  obtain ⟨cs1, hc1, hcl1⟩ := open_putsL (hval 1 47 v1 rfl rfl) h1
  refine (law_whole W v0 v1 cs0 cs1 hc0 hcl0 hc1 hcl1 (puts_nil (hval 1 47 v1 rfl rfl) k1 hc1)).mono ?_
  rintro e W' ⟨rfl, hb⟩
  have t0 := Below.trod laidOut (by kernel_rfl) (of_decide_eq_true (by kernel_rfl)) k0 hb (fun x hx => hlt x (List.mem_append.2 (.inl hx)))
  have t1 := Below.trod laidOut (by kernel_rfl) (of_decide_eq_true (by kernel_rfl)) k1 hb (fun x hx => hlt x (List.mem_append.2 (.inr hx)))
  exact ⟨_, rfl, ⟨_, _, _, [], _, [], hW', trodAll_mk1 (shut_bool Try.underlying4 true), trodAll_mk2 t0 t1, rfl, hb.frame _, fun h => by cases h⟩⟩
theorem whole_holds : Rows.DeviceWholeSaid :=
  OpenClaim.holds_of_wide 5 Try.f5 rfl rfl rfl rfl rfl rfl rfl ⟨rfl, rfl, rfl, rfl, rfl⟩ rfl rfl rfl rfl rfl (by kernel_rfl) Try.func5 (by kernel_rfl)
    (of_decide_eq_true (by kernel_rfl)) (by unfold Func.isWrapper; first | (rw [if_pos (by decide +kernel)]; kernel_rfl) | (rw [if_neg (by decide +kernel)]; exact ⟨rfl, rfl⟩))
    (fun os started H enc _ => whole_lifted os started H enc)
end Go.Proofs.Ytcmhhiakmgooeaa
