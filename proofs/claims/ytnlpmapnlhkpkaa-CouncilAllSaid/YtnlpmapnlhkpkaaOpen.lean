/-
  FOR THE ROWS: an array of whole numbers that came in by value.
-/
import Derived.Test.YtnlpmapnlhkpkaaFrame
namespace Go.Proofs.Ytnlpmapnlhkpkaa
open Go.ChangeShapes Go.WideShapes Go.RowKit
section
variable {H : Type} {enc : TypeId × Value → H} {W : World} {base : Nat} {v : Value} {d : DataW H} {p : List MemPlace}
theorem open_arr {t : TypeId} {n : Nat} (ht : Try.prog.underlying t = some (.array n 3)) (hc : Try.prog.cellsOf t = n) (h1 : Try.prog.cellsOf 3 = 1) (hv : Value.okWide Try.prog W .any base t v) (h : DataW.Trod enc Try.prog W 0 (fun _ => true) true t v d p) :
    ∃ xs : List Int, v = .agg (xs.map (Value.int .i64)).toArray ∧ xs.length = n := by
  simp only [Value.okWide, ht] at hv
  obtain ⟨cs, rfl, hs, _⟩ := hv
  obtain ⟨fuel, hf⟩ := h
  obtain ⟨xs, m, _, _, _, _, hx⟩ := DataW.trod_array ht hf
  have hs' : cs.size = n := by rw [hs, hc]
  have key : ∀ i, (hi : i < n) → ∃ z : Int, cs[i]'(by omega) = .int .i64 z := fun i hi => by
    have e := hx i hi
    rw [h1, Nat.mul_one] at e
    have hcells : (Value.agg cs).cells.toList = cs.toList := rfl
    rcases hxi : xs[i]? with _ | y
    · exfalso
      have := List.getElem?_eq_none_iff.1 hxi
      omega
    · rw [hxi] at e
      obtain ⟨z, ez, _⟩ := DataW.trod_int Try.underlying3 e
      refine ⟨z, ?_⟩
      have hl : i < cs.toList.length := by simpa using (by omega : i < cs.size)
      rw [hcells, List.drop_eq_getElem_cons hl, List.take_succ_cons, List.take_zero] at ez
      injection ez with ez _
  refine ⟨(List.finRange n).map (fun i => (key i.1 i.2).choose), ?_, by simp⟩
  congr 1
  apply Array.ext
  · simp [hs']
  · intro i h1 h2
    have := (key i (by omega)).choose_spec
    simp only [List.getElem_toArray, List.getElem_map, List.getElem_finRange]
    exact this
theorem list7 {xs : List Int} (h : xs.length = 7) : ∃ a b c d e f g : Int, xs = [a, b, c, d, e, f, g] := by
  rcases xs with _ | ⟨a, _ | ⟨b, _ | ⟨c, _ | ⟨d, _ | ⟨e, _ | ⟨f, _ | ⟨g, _ | ⟨x, xs⟩⟩⟩⟩⟩⟩⟩⟩ <;> simp at h
  exact ⟨a, b, c, d, e, f, g, rfl⟩
theorem list2 {xs : List Int} (h : xs.length = 2) : ∃ a b : Int, xs = [a, b] := by
  rcases xs with _ | ⟨a, _ | ⟨b, _ | ⟨x, xs⟩⟩⟩ <;> simp at h
  exact ⟨a, b, rfl⟩
theorem ce3 : Try.prog.cellsOf 3 = 1 := by kernel_rfl
theorem ce28 : Try.prog.cellsOf 28 = 7 := by kernel_rfl
theorem ce31 : Try.prog.cellsOf 31 = 2 := by kernel_rfl
theorem open_seven (hv : Value.okWide Try.prog W .any base 28 v) (h : DataW.Trod enc Try.prog W 0 (fun _ => true) true 28 v d p) :
    ∃ v0 v1 v2 v3 v4 v5 v6 : Int, v = .agg #[.int .i64 v0, .int .i64 v1, .int .i64 v2, .int .i64 v3, .int .i64 v4, .int .i64 v5, .int .i64 v6] := by
  obtain ⟨xs, rfl, hl⟩ := open_arr Try.underlying28 ce28 ce3 hv h
  obtain ⟨a, b, c, d, e, f, g, rfl⟩ := list7 hl
  exact ⟨a, b, c, d, e, f, g, rfl⟩
theorem open_two (hv : Value.okWide Try.prog W .any base 31 v) (h : DataW.Trod enc Try.prog W 0 (fun _ => true) true 31 v d p) :
    ∃ x y : Int, v = .agg #[.int .i64 x, .int .i64 y] := by
  obtain ⟨xs, rfl, hl⟩ := open_arr Try.underlying31 ce31 ce3 hv h
  obtain ⟨a, b, rfl⟩ := list2 hl
  exact ⟨a, b, rfl⟩
end
end Go.Proofs.Ytnlpmapnlhkpkaa
