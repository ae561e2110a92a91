/-
  FOR THE ROWS: pairs of numbers, and numbers, that came in.
-/
import Derived.Test.YtkdaifcnlobhkaaNof
import Derived.Deep.Slices
import Derived.Deep.Fields
import Derived.ChangeSlices
import Derived.ChangeSame
import Derived.Lib.SmallJoins
import Derived.OpenShut
namespace Go.Proofs.Ytkdaifcnlobhkaa
open Go.Joins Go.ChangeShapes Go.WideShapes Go.RowKit Go.Deep
theorem ce3 : Try.prog.cellsOf 3 = 1 := by kernel_rfl
theorem ce51 : Try.prog.cellsOf 51 = 2 := by kernel_rfl
theorem und51 : Try.prog.underlying 51 = some (.array 2 3) := by kernel_rfl
theorem add_at (b o n : Nat) : (⟨b, o, none⟩ : Addr).add n = ⟨b, o + n, none⟩ := by unfold Addr.add; split <;> simp_all
theorem spot_none {W : World} {a : Addr} {v : Value} (h : W.cell? (a.add 0) = some v) : a.spot = none := by
  obtain ⟨b, o, s⟩ := a
  cases s with
  | none => rfl
  | some q =>
    exfalso
    have e0 : (⟨b, o, some q⟩ : Addr).add 0 = ⟨b, o, some q⟩ := by simp [Addr.add]
    rw [e0] at h
    have h01 : W.cell? ⟨b, o, some q⟩ = none := by
      unfold World.cell?
      split <;> simp
    rw [h01] at h; simp at h
section
variable {H : Type} {enc : TypeId × Value → H} {W : World} {base : Nat}
set_option maxRecDepth 100000 in
theorem open_ints2 {v : Value} {d : DataW H} {p : List MemPlace} (hv : Value.okWide Try.prog W .any base 42 v) (h : DataW.Trod enc Try.prog W 0 (fun _ => true) true 42 v d p) :
    ∃ (a : Option Addr) (xs : List Int) (c : Nat), v = .slice a xs.length c ∧ Ints W a xs ∧ xs.length ≤ 9223372036854775807 := by
  obtain ⟨a0, len, cap, rfl⟩ := okWide_slice Try.underlying42 hv
  obtain ⟨fuel, hf⟩ := h
  rcases Go.Deep.open_slice1 Try.underlying42 ce3 hf with ⟨hcs, _⟩ | ⟨a, len', cap', m, n', V, D, Pl, hcs, _, hl, hm, hmm, _, hi⟩
  · simp [Value.cells] at hcs
    obtain ⟨rfl, rfl, rfl⟩ := hcs
    exact ⟨none, [], 0, rfl, fun i hi => absurd hi (Nat.not_lt_zero i), by simp⟩
  · simp [Value.cells] at hcs
    obtain ⟨rfl, rfl, rfl⟩ := hcs
    have hlm : len ≤ m := by rw [hmm]; split <;> omega
    have hall : ∀ i : Fin len, ∃ x : Int, W.cell? (a.add i.1) = some (.int .i64 x) := fun i => by
      obtain ⟨hc, ht⟩ := hi i.1 (by have := i.2; omega)
      obtain ⟨x, e, _, _⟩ := DataW.trod_int Try.underlying3 ht
      simp only [List.cons.injEq, and_true] at e
      rw [e] at hc
      exact ⟨x, hc⟩
    obtain ⟨f, hf⟩ := Classical.axiomOfChoice hall
    refine ⟨some a, List.ofFn f, cap, by rw [List.length_ofFn], ?_, by rw [List.length_ofFn]; unfold maxLen at hm; omega⟩
    intro i hi'
    have hil : i < len := by simpa using hi'
    have h0 := spot_none (hf ⟨0, by omega⟩)
    have h1 := hf ⟨i, hil⟩
    obtain ⟨b, o, s⟩ := a
    simp only at h0
    subst h0
    simp only [add_at] at h1
    refine ⟨b, o, rfl, World.block_lt_of_cell? _ _ h1, ?_⟩
    rw [List.getElem_ofFn]
    exact h1
set_option maxRecDepth 100000 in
theorem open_pair {b0 n : Nat} {sp : Nat → Bool} {hd : Bool} {a : Addr} {cs : List Value} {y : DataW H × List MemPlace} (h1 : W.cells? b0 a 2 = some cs) (h2 : DataW.trod enc Try.prog W b0 sp hd n 51 cs = some y) :
    ∃ x : Int × Int, W.cell? (a.add 0) = some (.int .i64 x.1) ∧ W.cell? (a.add 1) = some (.int .i64 x.2) := by
  obtain ⟨_, hcl, hat⟩ := World.cells?_some h1
  obtain ⟨xs, m, _, _, hl, hxl, hg⟩ := DataW.trod_array und51 h2
  match cs, hcl with
  | [c0, c1], _ =>
    match xs, hxl with
    | [y0, y1], _ =>
      have g0 := hg 0 (by decide)
      have g1 := hg 1 (by decide)
      simp [ce3] at g0 g1
      obtain ⟨p, e0, _, _⟩ := DataW.trod_int Try.underlying3 g0
      obtain ⟨q, e1, _, _⟩ := DataW.trod_int Try.underlying3 g1
      simp only [List.cons.injEq, and_true] at e0 e1
      subst e0
      subst e1
      exact ⟨(p, q), hat 0 (by decide), hat 1 (by decide)⟩
set_option maxRecDepth 100000 in
theorem open_pairs {v : Value} {d : DataW H} {p : List MemPlace} (hv : Value.okWide Try.prog W .any base 26 v) (h : DataW.Trod enc Try.prog W 0 (fun _ => true) true 26 v d p) :
    ∃ (a : Option Addr) (L : List (Int × Int)) (c : Nat), v = .slice a L.length c ∧ Prs W a L ∧ L.length ≤ 9223372036854775807 := by
  obtain ⟨a0, len, cap, rfl⟩ := okWide_slice Try.underlying26 hv
  obtain ⟨fuel, hf⟩ := h
  rcases Go.Deep.open_slice Try.underlying26 hf with ⟨hcs, _⟩ | ⟨a, len', cap', m, n, D, Pl, hcs, hb, hl, hm, hmm, hx, hi⟩
  · simp [Value.cells] at hcs
    obtain ⟨rfl, rfl, rfl⟩ := hcs
    exact ⟨none, [], 0, rfl, fun i hi => absurd hi (Nat.not_lt_zero i), by simp⟩
  · simp [Value.cells] at hcs
    obtain ⟨rfl, rfl, rfl⟩ := hcs
    have hlm : len ≤ m := by rw [hmm]; split <;> omega
    have hall : ∀ i : Fin len, ∃ x : Int × Int, W.cell? ((a.add (i.1 * 2)).add 0) = some (.int .i64 x.1) ∧ W.cell? ((a.add (i.1 * 2)).add 1) = some (.int .i64 x.2) := fun i => by
      obtain ⟨cs', hc, ht⟩ := hi i.1 (by have := i.2; omega)
      rw [ce51] at hc
      exact open_pair hc ht
    obtain ⟨f, hf⟩ := Classical.axiomOfChoice hall
    refine ⟨some a, List.ofFn f, cap, by rw [List.length_ofFn], ?_, by rw [List.length_ofFn]; unfold maxLen at hm; omega⟩
    intro i hi'
    have hil : i < len := by simpa using hi'
    have hz := (hf ⟨0, by omega⟩).1
    have h1 := hf ⟨i, hil⟩
    have h0 : a.spot = none := by
      obtain ⟨b, o, s⟩ := a
      simp only [Nat.zero_mul] at hz
      have e : (⟨b, o, s⟩ : Addr).add 0 = ⟨b, o, s⟩ := by cases s <;> simp [Addr.add]
      rw [e] at hz
      exact spot_none hz
    obtain ⟨b, o, s⟩ := a
    simp only at h0
    subst h0
    simp only [add_at, Nat.add_zero] at h1
    refine ⟨b, o, rfl, World.block_lt_of_cell? _ _ h1.1, ?_⟩
    rw [List.getElem_ofFn]
    exact h1
end
end Go.Proofs.Ytkdaifcnlobhkaa
