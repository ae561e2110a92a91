/-
  FOR THE ROWS: slices of whole numbers, and of acts, that came in.
-/
import Derived.Test.YtkaocpfkigdpoaaFrame
import Derived.Test.YtkaocpfkigdpoaaTab
import Derived.ChangeSlices
import Derived.Deep.Slices
namespace Go.Proofs.Ytkaocpfkigdpoaa
open Go.ChangeShapes Go.WideShapes Go.ChangeAt Go.RowKit
/-- whole numbers in memory -/
def Ints (w : World) (a : Option Addr) (xs : List Int) : Prop := ∀ i (h : i < xs.length), ∃ b o, a = some ⟨b, o, none⟩ ∧ b < w.heap.size ∧ w.cell? ⟨b, o + i, none⟩ = some (.int .i64 xs[i])
/-- an act -/
structure It where
  t : Int
  i : Int
  x : Int
deriving Inhabited
def Its (w : World) (a : Option Addr) (R : List It) : Prop := ∀ p (h : p < R.length), ∃ g o, a = some ⟨g, o, none⟩ ∧ g < w.heap.size ∧ w.cell? ⟨g, o + p * 3, none⟩ = some (.int .i64 R[p].t) ∧ w.cell? ⟨g, o + p * 3 + 1, none⟩ = some (.int .i64 R[p].i) ∧ w.cell? ⟨g, o + p * 3 + 2, none⟩ = some (.int .i64 R[p].x)
theorem its_nil (w : World) (a : Option Addr) : Its w a [] := fun p hp => by simp at hp
theorem cells3 : Try.prog.cellsOf 3 = 1 := by kernel_rfl
set_option maxRecDepth 100000 in
theorem open_ints2 {H : Type} {enc : TypeId × Value → H} {W : World} {base : Nat} {v : Value} {d : DataW H} {p : List MemPlace} (hv : Value.okWide Try.prog W .any base 49 v) (h : DataW.Trod enc Try.prog W 0 (fun _ => true) true 49 v d p) :
    ∃ (a : Option Addr) (xs : List Int) (c : Nat), v = .slice a xs.length c ∧ Ints W a xs ∧ xs.length ≤ 9223372036854775807 ∧ (∀ x ∈ xs, (Lit.int .i64 x).wf = true) := by
  obtain ⟨a0, len, cap, rfl⟩ := okWide_slice Try.underlying49 hv
  obtain ⟨fuel, hf⟩ := h
  rcases open_ints Try.underlying49 Try.underlying3 cells3 hf with ⟨hcs, hx⟩ | ⟨a, len', cap', zs, hcs, _, hl, hm, hz, hx, hcell, hw⟩
  · simp [Value.cells] at hcs
    obtain ⟨rfl, rfl, rfl⟩ := hcs
    exact ⟨none, [], 0, rfl, fun i hi => by simp at hi, by simp, fun x hx => by simp at hx⟩
  · simp [Value.cells] at hcs
    obtain ⟨rfl, rfl, rfl⟩ := hcs
    simp only [if_true] at hz
    have hlen : (zs.take len).length = len := by rw [List.length_take]; omega
    refine ⟨some a, zs.take len, cap, by rw [hlen], ?_, by rw [hlen]; unfold maxLen at hm; omega, fun x hx => hw x (List.mem_of_mem_take hx)⟩
    intro i hi
    have hc := hcell i (by omega)
    have he : (zs.take len)[i] = zs.getD i 0 := by
      rw [List.getElem_take, List.getD_eq_getElem?_getD, List.getElem?_eq_getElem (by omega)]; rfl
    rw [he]
    obtain ⟨b, o, sp⟩ := a
    cases sp with
    | none =>
      have e1 : (⟨b, o, none⟩ : Addr).add i = ⟨b, o + i, none⟩ := by unfold Addr.add; split <;> simp_all
      rw [e1] at hc
      exact ⟨b, o, rfl, World.block_lt_of_cell? _ _ hc, hc⟩
    | some q =>
      exfalso
      have h00 := hcell 0 (by omega)
      have e0 : (⟨b, o, some q⟩ : Addr).add 0 = ⟨b, o, some q⟩ := by simp [Addr.add]
      rw [e0] at h00
      have h01 : W.cell? ⟨b, o, some q⟩ = none := by
        unfold World.cell?
        split <;> simp
      rw [h01] at h00; simp at h00
theorem add_at (b o n : Nat) : (⟨b, o, none⟩ : Addr).add n = ⟨b, o + n, none⟩ := by unfold Addr.add; split <;> simp_all
theorem ce3 : Try.prog.cellsOf 3 = 1 := by kernel_rfl
theorem ce30 : Try.prog.cellsOf 30 = 3 := by kernel_rfl
set_option maxRecDepth 100000 in
theorem open_act {H : Type} {enc : TypeId × Value → H} {W : World} {base n : Nat} {sp : Nat → Bool} {hd : Bool} {a : Addr} {cs : List Value} {y : DataW H × List MemPlace}
    (h1 : W.cells? base a 3 = some cs) (h2 : DataW.trod enc Try.prog W base sp hd n 30 cs = some y) :
    ∃ x : It, W.cell? (a.add 0) = some (.int .i64 x.t) ∧ W.cell? (a.add 1) = some (.int .i64 x.i) ∧ W.cell? (a.add 2) = some (.int .i64 x.x) := by
  obtain ⟨_, hlen, hcell⟩ := World.cells?_some h1
  obtain ⟨xs, k, hk, hxy, _, hxl, hf⟩ := DataW.trod_struct Try.underlying30 h2
  match xs, hxl, cs, hlen with
  | [y0, y1, y2], _, [v0, v1, v2], _ =>
    have g0 := hf 0 _ rfl
    have g1 := hf 1 _ rfl
    have g2 := hf 2 _ rfl
    simp [ce3] at g0 g1 g2
    obtain ⟨k0, e0, _, _⟩ := DataW.trod_int Try.underlying3 g0
    obtain ⟨k1, e1, _, _⟩ := DataW.trod_int Try.underlying3 g1
    obtain ⟨k2, e2, _, _⟩ := DataW.trod_int Try.underlying3 g2
    simp only [List.cons.injEq, and_true] at e0 e1 e2
    subst e0 e1 e2
    refine ⟨⟨k0, k1, k2⟩, ?_, ?_, ?_⟩
    · simpa using hcell 0 (by omega)
    · simpa using hcell 1 (by omega)
    · simpa using hcell 2 (by omega)
set_option maxRecDepth 100000 in
theorem open_acts {H : Type} {enc : TypeId × Value → H} {W : World} {base : Nat} {v : Value} {d : DataW H} {p : List MemPlace} (hv : Value.okWide Try.prog W .any base 22 v) (h : DataW.Trod enc Try.prog W 0 (fun _ => true) true 22 v d p) :
    ∃ (a : Option Addr) (L : List It) (c : Nat), v = .slice a L.length c ∧ Its W a L ∧ L.length ≤ 9223372036854775807 := by
  obtain ⟨a0, len, cap, rfl⟩ := okWide_slice Try.underlying22 hv
  obtain ⟨fuel, hf⟩ := h
  rcases Go.Deep.open_slice Try.underlying22 hf with ⟨hcs, _⟩ | ⟨a, len', cap', m, n, D, Pl, hcs, hb, hl, hm, hmm, hx, hi⟩
  · simp [Value.cells] at hcs
    obtain ⟨rfl, rfl, rfl⟩ := hcs
    exact ⟨none, [], 0, rfl, its_nil _ _, by simp⟩
  · simp [Value.cells] at hcs
    obtain ⟨rfl, rfl, rfl⟩ := hcs
    have hlm : len ≤ m := by rw [hmm]; split <;> omega
    have hall : ∀ i, i < len → ∃ x : It, W.cell? ((a.add (i * 3)).add 0) = some (.int .i64 x.t) ∧ W.cell? ((a.add (i * 3)).add 1) = some (.int .i64 x.i) ∧ W.cell? ((a.add (i * 3)).add 2) = some (.int .i64 x.x) := fun i hi' => by
      obtain ⟨cs', hc, ht⟩ := hi i (by omega)
      rw [ce30] at hc
      exact open_act hc ht
    have hsp : 0 < len → a.spot = none := fun h0 => by
      obtain ⟨x, c0, _⟩ := hall 0 h0
      obtain ⟨b, o, s⟩ := a
      cases s with
      | none => rfl
      | some q =>
        exfalso
        have e0 : ((⟨b, o, some q⟩ : Addr).add (0 * 3)).add 0 = ⟨b, o, some q⟩ := by simp [Addr.add]
        rw [e0] at c0
        have h01 : W.cell? ⟨b, o, some q⟩ = none := by
          unfold World.cell?
          split <;> simp
        rw [h01] at c0; simp at c0
    obtain ⟨f, hf⟩ : ∃ f : Nat → It, ∀ i, i < len → W.cell? ((a.add (i * 3)).add 0) = some (.int .i64 (f i).t) ∧ W.cell? ((a.add (i * 3)).add 1) = some (.int .i64 (f i).i) ∧ W.cell? ((a.add (i * 3)).add 2) = some (.int .i64 (f i).x) :=
      ⟨fun i => if h : i < len then Classical.choose (hall i h) else default, fun i h => by
        simp only [dif_pos h]
        exact Classical.choose_spec (hall i h)⟩
    have e1 : ((List.range len).map f).length = len := by rw [List.length_map, List.length_range]
    refine ⟨some a, (List.range len).map f, cap, by rw [e1], ?_, by rw [e1]; unfold maxLen at hm; omega⟩
    intro i hi'
    have hil : i < len := by rw [e1] at hi'; exact hi'
    have hs := hf i hil
    have eg : ((List.range len).map f)[i] = f i := by rw [List.getElem_map, List.getElem_range]
    rw [eg]
    have hsn := hsp (by omega)
    clear hf hall hsp hi hmm
    obtain ⟨b, o, s⟩ := a
    simp only at hsn
    subst hsn
    simp only [add_at, Nat.add_zero] at hs
    exact ⟨b, o, rfl, World.block_lt_of_cell? _ _ hs.1, hs.1, hs.2.1, hs.2.2⟩
end Go.Proofs.Ytkaocpfkigdpoaa
