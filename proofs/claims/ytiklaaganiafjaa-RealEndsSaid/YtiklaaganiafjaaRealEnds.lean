/-
  RealEnds: for every input the law returns true: the least and the most of any real numbers, and how many are some, are those of the document; each argument reads behind the call as it read before. No condition.
-/
import Derived.Test.YtiklaaganiafjaaFrame
import Derived.Test.YtiklaaganiafjaaEnds
import Derived.Deep.Slices
namespace Go.Proofs.Ytiklaaganiafjaa.realEnds
open Go.ChangeShapes Go.WideShapes Go.ChangeAt Go.RowKit
open Go.ChangeMaps (open_string)
open Go.ChangeMaps (open_string)
theorem cells22 : Try.prog.cellsOf 22 = 1 := by kernel_rfl
theorem trod_float {H : Type} {enc : TypeId × Value → H} {w : World} {base fuel : Nat} {spare : Nat → Bool} {held : Bool} {t : TypeId} {cs : List Value} {x : DataW H × List MemPlace} {k : FloatKind} (ht : Try.prog.underlying t = some (.float k)) (h : DataW.trod enc Try.prog w base spare held fuel t cs = some x) :
    ∃ n, cs = [.float k n] ∧ x = (.lit (.float k n), []) ∧ (Lit.float k n).wf = true := by
  cases fuel with
  | zero => simp [DataW.trod] at h
  | succ n =>
    unfold DataW.trod at h
    rw [ht] at h
    split at h <;> simp_all
/-- a slice of real numbers that came in -/
theorem open_floats {H : Type} {enc : TypeId × Value → H} {W : World} {base : Nat} {v : Value} {d : DataW H} {p : List MemPlace} (hv : Value.okWide Try.prog W .any base 37 v) (h : DataW.Trod enc Try.prog W 0 (fun _ => true) true 37 v d p) :
    ∃ (a : Option Addr) (xs : List Nat) (c : Nat), v = .slice a xs.length c ∧ Flts W a xs ∧ xs.length ≤ 9223372036854775807 ∧ (∀ x ∈ xs, x < 18446744073709551616) := by
  obtain ⟨a0, len, cap, rfl⟩ := okWide_slice Try.underlying37 hv
  obtain ⟨fuel, hf⟩ := h
  rcases Go.Deep.open_slice1 Try.underlying37 cells22 hf with ⟨hcs, hx⟩ | ⟨a, len', cap', m, n, V, D, Pl, hcs, _, hl, hm, hmm, hx, hE⟩
  · simp [Value.cells] at hcs
    obtain ⟨rfl, rfl, rfl⟩ := hcs
    exact ⟨none, [], 0, rfl, fun i hi => by simp at hi, by simp, fun x hx => by simp at hx⟩
  · simp [Value.cells] at hcs
    obtain ⟨rfl, rfl, rfl⟩ := hcs
    simp only [if_true] at hmm
    have hF : ∀ i, ∃ x : Nat, i < len → W.cell? (a.add i) = some (.float .f64 x) ∧ x < 18446744073709551616 := by
      intro i
      by_cases hi : i < len
      · obtain ⟨hc, ht⟩ := hE i (by omega)
        obtain ⟨x, e1, _, e3⟩ := trod_float Try.underlying22 ht
        simp at e1
        exact ⟨x, fun _ => ⟨by rw [hc, e1], lt_of_float e3⟩⟩
      · exact ⟨0, fun h => absurd h hi⟩
    obtain ⟨f, hf'⟩ := Classical.axiomOfChoice hF
    refine ⟨some a, (List.range len).map f, cap, by simp, ?_, by simp; unfold maxLen at hm; omega, fun x hx => ?_⟩
    · intro i hi
      simp at hi
      have hc := (hf' i hi).1
      have he : ((List.range len).map f)[i]'(by simpa using hi) = f i := by simp
      rw [he]
      obtain ⟨b, o, sp⟩ := a
      cases sp with
      | none =>
        have e1 : (⟨b, o, none⟩ : Addr).add i = ⟨b, o + i, none⟩ := by unfold Addr.add; split <;> simp_all
        rw [e1] at hc
        exact ⟨b, o, rfl, World.block_lt_of_cell? _ _ hc, hc⟩
      | some q =>
        exfalso
        have h00 := (hf' 0 (by omega)).1
        have e0 : (⟨b, o, some q⟩ : Addr).add 0 = ⟨b, o, some q⟩ := by simp [Addr.add]
        rw [e0] at h00
        have h01 : W.cell? ⟨b, o, some q⟩ = none := by
          unfold World.cell?
          split <;> simp
        rw [h01] at h00; simp at h00
    · simp at hx
      obtain ⟨i, hi, rfl⟩ := hx
      exact (hf' i hi).2
set_option maxRecDepth 100000 in
theorem lifted (os : Os) (started : os.Started) (H : Type) (enc : TypeId × Value → H) :
    ReturnsInHanded {} Try.checked os 7 .any (Rows.realEndsSpec.pre6 enc Try.prog Try.f7 Rows.realEndsRow.domain false) (Rows.realEndsSpec.post enc Try.prog Try.f7 false true false false) := by
  refine returnsInHanded_of_change_sized (C := Try.checked) own started (by kernel_rfl) Try.func7
    (ChangeSpec.witness6 (enc := enc) (C := Try.checked) false ⟨#[], #[.slice none 0 0], []⟩ 8 (by kernel_rfl) (by kernel_rfl) (by kernel_rfl) (by kernel_rfl)) ?_
  intro W base args ds gs before hval0 hW hcnd hsz _
  have hval : ∀ (j : Nat) t v, Try.f7.params[j]? = some t → args[j]? = some v → Value.okWide Try.prog W .any base t v := hval0
  have hW' := hW
  obtain ⟨p, q, hA0, hV, rfl, hfz, hnd⟩ := hW
  have hA : DataW.TrodAll enc Try.prog W 0 (fun _ => true) true Try.f7.params.toList args.toList ds p := hA0
  have hAll := hA
  rw [Try.params7] at hA hval
  obtain ⟨v0, vs0, d0, ds0, p0, q0, hargs, rfl, rfl, h0, r0⟩ := trodAll_cons hA
  obtain ⟨rfl, rfl, rfl⟩ := trodAll_nil r0
  obtain rfl : args = #[v0] := by cases args; simp_all
  obtain ⟨rfl, rfl⟩ := trodVars_none hV
  obtain ⟨a, xs, c, rfl, hfl, hxl, hxx⟩ := open_floats (hval 0 37 v0 rfl rfl) h0
  have hR := reachBytes_lt
  clear hA0 hval0 hA
  refine (drew_below (ends_law a c xs W hxl hxx hfl)).mono fun e W' ⟨he, hg⟩ => ?_
  subst he
  exact ⟨_, rfl, law_post (tb := 4) laidOut (by rw [Try.params7]; decide +kernel) rfl rfl Try.underlying4 rfl hW' hAll hAll.lt hg⟩
theorem holds : Rows.RealEndsSaid :=
  OpenClaim.holds_of_wide 7 Try.f7 rfl rfl rfl rfl rfl rfl rfl ⟨rfl, rfl, rfl, rfl, rfl⟩ rfl rfl rfl rfl rfl (by kernel_rfl) Try.func7 (by kernel_rfl)
    (of_decide_eq_true (by kernel_rfl)) (by unfold Func.isWrapper; rw [if_neg (by decide +kernel)]; exact ⟨rfl, rfl⟩)
    (fun os started H enc _ => lifted os started H enc)
end Go.Proofs.Ytiklaaganiafjaa.realEnds
