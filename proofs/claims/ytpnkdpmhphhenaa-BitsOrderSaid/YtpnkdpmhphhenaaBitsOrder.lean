/-
  BitsOrder: for every input the law returns true: bytes of two numbers stand as the numbers do, whatever stands behind them; each argument reads behind the call as it read before. No condition.
-/
import Derived.Test.YtpnkdpmhphhenaaShut
import Derived.Test.YtpnkdpmhphhenaaOrder
import Derived.Lib.SmallJoins
namespace Go.Proofs.Ytpnkdpmhphhenaa.bitsOrder
open Go.ChangeShapes Go.WideShapes Go.ChangeAt Go.RowKit
section
variable {H : Type} {enc : TypeId × Value → H} {P : Program} {w : World} {base : Nat} {spare : Nat → Bool} {held : Bool}
theorem open_strs2 {r : Reach} {b0 : Nat} {t e : TypeId} {v : Value} {d : DataW H} {p : List MemPlace} (ht : P.underlying t = some (.array 2 e)) (he : P.underlying e = some .string) (hC : P.cellsOf t = 2) (hE : P.cellsOf e = 1)
    (hv : Value.okWide P w r b0 t v) (h : DataW.Trod enc P w base spare held t v d p) :
    ∃ x y : ByteArray, v = .agg #[.string x, .string y] ∧ d = .agg [.lit (.string x.data.toList), .lit (.string y.data.toList)] ∧ p = [] ∧ x.size ≤ maxLen ∧ y.size ≤ maxLen := by
  have hv1 : ∃ cs, v = .agg cs ∧ cs.size = P.cellsOf t := by
    simp only [Value.okWide, ht] at hv
    obtain ⟨cs, h1, h2, _⟩ := hv
    exact ⟨cs, h1, h2⟩
  obtain ⟨cs, rfl, hsz⟩ := hv1
  obtain ⟨c0, c1, rfl⟩ := Joins.array2 (hsz.trans hC)
  obtain ⟨fuel, hf⟩ := h
  obtain ⟨xs, m, _, hx, _, hl, hi⟩ := DataW.trod_array ht hf
  match xs, hl with
  | [y0, y1], _ =>
    have h0 := hi 0 (by omega)
    have h1 := hi 1 (by omega)
    simp only [hE, Value.cells, List.drop_zero, Nat.zero_mul, Nat.one_mul] at h0 h1
    simp at h0 h1
    obtain ⟨x, hx0, e0, s0⟩ := DataW.trod_string he h0
    obtain ⟨y, hy0, e1, s1⟩ := DataW.trod_string he h1
    simp at hx0 hy0
    subst hx0; subst hy0; subst e0; subst e1
    simp at hx
    exact ⟨x, y, rfl, hx.1, hx.2, s0, s1⟩
theorem shut_strs2 {t e : TypeId} {x y : ByteArray} (ht : P.underlying t = some (.array 2 e)) (he : P.underlying e = some .string) (hC : P.cellsOf t = 2) (hE : P.cellsOf e = 1) (hx : x.size ≤ maxLen) (hy : y.size ≤ maxLen) :
    DataW.Trod enc P w base spare held t (.agg #[.string x, .string y]) (.agg [.lit (.string x.data.toList), .lit (.string y.data.toList)]) [] :=
  ⟨2, by simp [DataW.trod, Value.cells, ht, he, hC, hE, hx, hy, List.range, List.range.loop]⟩
end
theorem cells54 : Try.prog.cellsOf 54 = 2 := by kernel_rfl
theorem cells9 : Try.prog.cellsOf 9 = 1 := by kernel_rfl
set_option maxRecDepth 100000 in
theorem lifted (os : Os) (started : os.Started) (H : Type) (enc : TypeId × Value → H) :
    ReturnsInHanded {} Try.checked os 9 .any (Rows.bitsOrderSpec.pre6 enc Try.prog Try.f9 Rows.bitsOrderRow.domain false) (Rows.bitsOrderSpec.post enc Try.prog Try.f9 false true false false) := by
  refine returnsInHanded_of_change_sized (C := Try.checked) own started (by kernel_rfl) Try.func9
    (ChangeSpec.witness6 (enc := enc) (C := Try.checked) false ⟨#[], #[.int .u64 0, .int .u64 0, .agg #[.string ByteArray.empty, .string ByteArray.empty]], []⟩ 8 (by kernel_rfl) (by kernel_rfl) (by kernel_rfl) (by kernel_rfl)) ?_
  intro W base args ds gs before hval0 hW hcnd hsz _
  have hval : ∀ (j : Nat) t v, Try.f9.params[j]? = some t → args[j]? = some v → Value.okWide Try.prog W .any base t v := hval0
  have hW' := hW
  obtain ⟨p, q, hA0, hV, rfl, hfz, hnd⟩ := hW
  have hA : DataW.TrodAll enc Try.prog W 0 (fun _ => true) true Try.f9.params.toList args.toList ds p := hA0
  rw [Try.params9] at hA hval
  obtain ⟨v0, vs0, d0, ds0, p0, q0, hargs, rfl, rfl, h0, r0⟩ := trodAll_cons hA
  obtain ⟨v1, vs1, d1, ds1, p1, q1, rfl, rfl, rfl, h1, r1⟩ := trodAll_cons r0
  obtain ⟨v2, vs2, d2, ds2, p2, q2, rfl, rfl, rfl, h2, r2⟩ := trodAll_cons r1
  obtain ⟨rfl, rfl, rfl⟩ := trodAll_nil r2
  obtain rfl : args = #[v0, v1, v2] := by cases args; simp_all
  obtain ⟨rfl, rfl⟩ := trodVars_none hV
  obtain ⟨a0, rfl, rfl, rfl, w0⟩ := open_int Try.underlying22 (hval 0 22 v0 rfl rfl) h0
  obtain ⟨a1, rfl, rfl, rfl, w1⟩ := open_int Try.underlying22 (hval 1 22 v1 rfl rfl) h1
  obtain ⟨x, y, rfl, rfl, rfl, wx, wy⟩ := open_strs2 Try.underlying54 Try.underlying9 cells54 cells9 (hval 2 54 v2 rfl rfl) h2
  have zx : x.data.toList.length ≤ reachBytes := by
    have := List.all_eq_true.1 hsz _ (DataW.weights_mem_each (j := 2) (t := 54) (d := .agg [.lit (.string x.data.toList), .lit (.string y.data.toList)]) rfl rfl x.data.toList.length (by show x.data.toList.length ∈ DataW.weights Try.prog 54 _; simp [DataW.weights, DataW.weightsAll, Try.underlying54]))
    simpa using this
  have zy : y.data.toList.length ≤ reachBytes := by
    have := List.all_eq_true.1 hsz _ (DataW.weights_mem_each (j := 2) (t := 54) (d := .agg [.lit (.string x.data.toList), .lit (.string y.data.toList)]) rfl rfl y.data.toList.length (by show y.data.toList.length ∈ DataW.weights Try.prog 54 _; simp [DataW.weights, DataW.weightsAll, Try.underlying54]))
    simpa using this
  have hR := reachBytes_lt
  clear hA0 hval0
  simp only [List.append_nil] at hW'
  refine (order_law a0 a1 x y (bounds_u64 w0).1 (by have := (bounds_u64 w0).2; omega) (bounds_u64 w1).1 (by have := (bounds_u64 w1).2; omega) (by rw [Lib.size_eq]; omega) (by rw [Lib.size_eq]; omega) W).mono fun e W' ⟨he, hg⟩ => ?_
  subst he
  exact ⟨_, rfl, post_of_below (pa := []) (pv := []) hW' (fun _ _ _ => (trodAll_cons_mk (shut_bool Try.underlying4 _) trodAll_mk0)) (fun sp _ => (trodAll_cons_mk (shut_int Try.underlying22 w0) (trodAll_cons_mk (shut_int Try.underlying22 w1) (trodAll_cons_mk (shut_strs2 Try.underlying54 Try.underlying9 cells54 cells9 wx wy) trodAll_mk0)))) (fun _ _ => rfl) hg⟩

theorem holds : Rows.BitsOrderSaid :=
  OpenClaim.holds_of_wide 9 Try.f9 rfl rfl rfl rfl rfl rfl rfl ⟨rfl, rfl, rfl, rfl, rfl⟩ rfl rfl rfl rfl rfl (by kernel_rfl) Try.func9 (by kernel_rfl)
    (of_decide_eq_true (by kernel_rfl)) (by unfold Func.isWrapper; rw [if_neg (by decide +kernel)]; exact ⟨rfl, rfl⟩)
    (fun os started H enc _ => lifted os started H enc)
end Go.Proofs.Ytpnkdpmhphhenaa.bitsOrder
