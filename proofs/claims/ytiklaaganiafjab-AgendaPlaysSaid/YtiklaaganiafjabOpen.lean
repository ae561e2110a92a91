/-
  FOR THE ROWS: a slice of whole numbers that came in.
-/
import Derived.Test.YtiklaaganiafjabFrame
import Derived.Test.YtiklaaganiafjabFull
import Derived.ChangeSlices
namespace Go.Proofs.Ytiklaaganiafjab
open Go.ChangeShapes Go.WideShapes Go.ChangeAt Go.RowKit
theorem cells3 : Try.prog.cellsOf 3 = 1 := by kernel_rfl
set_option maxRecDepth 100000 in
theorem open_ints2 {H : Type} {enc : TypeId × Value → H} {W : World} {base : Nat} {v : Value} {d : DataW H} {p : List MemPlace} (hv : Value.okWide Try.prog W .any base 39 v) (h : DataW.Trod enc Try.prog W 0 (fun _ => true) true 39 v d p) :
    ∃ (a : Option Addr) (xs : List Int) (c : Nat), v = .slice a xs.length c ∧ Ints W a xs ∧ xs.length ≤ 9223372036854775807 ∧ (∀ x ∈ xs, (Lit.int .i64 x).wf = true) := by
  obtain ⟨a0, len, cap, rfl⟩ := okWide_slice Try.underlying39 hv
  obtain ⟨fuel, hf⟩ := h
  rcases open_ints Try.underlying39 Try.underlying3 cells3 hf with ⟨hcs, hx⟩ | ⟨a, len', cap', zs, hcs, _, hl, hm, hz, hx, hcell, hw⟩
  · simp [Value.cells] at hcs
    obtain ⟨rfl, rfl, rfl⟩ := hcs
    exact ⟨none, [], 0, rfl, fun i hi => by simp at hi, by simp, fun x hx => by simp at hx⟩
  · simp [Value.cells] at hcs
    obtain ⟨rfl, rfl, rfl⟩ := hcs
    simp only [if_true] at hz
    have hlen : (zs.take len).length = len := by rw [List.length_take]; omega
    refine ⟨some a, zs.take len, cap, by rw [hlen], ?_, by rw [hlen]; unfold maxLen at hm; omega, fun x hx => hw x (List.mem_of_mem_take hx)⟩
    intro i hi
    have hc := hcell i (by omega)
    have he : (zs.take len)[i] = zs.getD i 0 := by
      rw [List.getElem_take, List.getD_eq_getElem?_getD, List.getElem?_eq_getElem (by omega)]; rfl
    rw [he]
    obtain ⟨b, o, sp⟩ := a
    cases sp with
    | none =>
      have e1 : (⟨b, o, none⟩ : Addr).add i = ⟨b, o + i, none⟩ := by unfold Addr.add; split <;> simp_all
      rw [e1] at hc
      exact ⟨b, o, rfl, World.block_lt_of_cell? _ _ hc, hc⟩
    | some q =>
      exfalso
      have h00 := hcell 0 (by omega)
      have e0 : (⟨b, o, some q⟩ : Addr).add 0 = ⟨b, o, some q⟩ := by simp [Addr.add]
      rw [e0] at h00
      have h01 : W.cell? ⟨b, o, some q⟩ = none := by
        unfold World.cell?
        split <;> simp
      rw [h01] at h00; simp at h00
end Go.Proofs.Ytiklaaganiafjab
