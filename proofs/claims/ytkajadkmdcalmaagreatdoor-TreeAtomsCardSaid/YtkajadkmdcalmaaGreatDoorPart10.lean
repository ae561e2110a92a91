/-
  WHAT THE ROWS REST ON, part 10: Tdp Tdl Tbl.
-/
import Derived.Lib.AppendStr
import Derived.Laws.Externs
import Derived.Test.YtkajadkmdcalmaaGreatDoorPart9
/-
  A ROW WITHOUT WHAT IS NIL, plainly.
-/
namespace Go.Proofs.YtkajadkmdcalmaaGreatDoor
open Go.RowKit
def isNil : Value → Bool
  | .pointer none => true
  | _ => false
def keepV (vs : List Value) (j : Nat) : List Value := (vs.take j).filter fun x => !isNil x
theorem keepV_le (vs : List Value) (j : Nat) : (keepV vs j).length ≤ j := Nat.le_trans (List.length_filter_le _ _) (List.length_take_le _ _)
theorem keepV_nil {vs : List Value} {j : Nat} (hj : j < vs.length) (h : isNil vs[j] = true) : keepV vs (j + 1) = keepV vs j := by
  unfold keepV; rw [List.take_succ_eq_append_getElem hj, List.filter_append]; simp [h]
theorem keepV_yes {vs : List Value} {j : Nat} (hj : j < vs.length) (h : isNil vs[j] = false) : keepV vs (j + 1) = keepV vs j ++ [vs[j]] := by
  unfold keepV; rw [List.take_succ_eq_append_getElem hj, List.filter_append]; simp [h]
theorem keepV_all {vs : List Value} : ∀ {j : Nat}, j ≤ vs.length → (∀ i (h : i < vs.length), i < j → isNil vs[i] = false) → keepV vs j = vs.take j
  | 0, _, _ => by simp [keepV]
  | j + 1, hj, h => by
    rw [keepV_yes (by omega) (h j (by omega) (by omega)), keepV_all (by omega) (fun i hi hlt => h i hi (by omega)), List.take_succ_eq_append_getElem (by omega)]
/-- the cells while it goes on -/
def midV (vs : List Value) (j : Nat) : List Value := keepV vs j ++ vs.drop (keepV vs j).length
theorem midV_len {vs : List Value} {j : Nat} (hj : j ≤ vs.length) : (midV vs j).length = vs.length := by
  have := keepV_le vs j
  unfold midV; rw [List.length_append, List.length_drop]; omega
theorem midV_at {vs : List Value} {j : Nat} (hj : j < vs.length) : (midV vs j)[j]? = some vs[j] := by
  have := keepV_le vs j
  unfold midV
  rw [List.getElem?_append_right this, List.getElem?_drop, show (keepV vs j).length + (j - (keepV vs j).length) = j by omega, List.getElem?_eq_getElem hj]
theorem midV_set {vs : List Value} {j : Nat} (hj : j < vs.length) (h : isNil vs[j] = false) : (midV vs j).set (keepV vs j).length vs[j] = midV vs (j + 1) := by
  have hk := keepV_le vs j
  unfold midV
  rw [keepV_yes hj h, List.set_append_right _ _ (Nat.le_refl _), Nat.sub_self, List.length_append, List.length_singleton, List.append_assoc]
  congr 1
  have hd := List.drop_eq_getElem_cons (show (keepV vs j).length < vs.length by omega)
  rw [hd]
  rfl
theorem midV_same {vs : List Value} {j : Nat} (hj : j < vs.length) (h : isNil vs[j] = true) : midV vs (j + 1) = midV vs j := by
  unfold midV; rw [keepV_nil hj h]
theorem midV_first {vs : List Value} {f : Nat} (hf : f < vs.length) (h : isNil vs[f] = true) (h0 : ∀ i (h : i < vs.length), i < f → isNil vs[i] = false) : midV vs (f + 1) = vs ∧ (keepV vs (f + 1)).length = f := by
  have e : keepV vs (f + 1) = vs.take f := by rw [keepV_nil hf h, keepV_all (by omega) h0]
  unfold midV
  rw [e, List.length_take, Nat.min_eq_left (by omega)]
  exact ⟨List.take_append_drop f vs, rfl⟩
theorem keepV_full (vs : List Value) : keepV vs vs.length = vs.filter fun x => !isNil x := by unfold keepV; rw [List.take_length]
theorem keepV_lt {vs : List Value} {f : Nat} (hf : f < vs.length) (h : isNil vs[f] = true) : ∀ {j : Nat}, f < j → j ≤ vs.length → (keepV vs j).length < j
  | 0, h1, _ => by omega
  | j + 1, h1, h2 => by
    by_cases e : f = j
    · subst e; rw [keepV_nil hf h]; have := keepV_le vs f; omega
    · have ih := keepV_lt hf h (j := j) (by omega) (by omega)
      cases hb : isNil (vs[j]'(by omega))
      · rw [keepV_yes (by omega) hb, List.length_append, List.length_singleton]; omega
      · rw [keepV_nil (by omega) hb]; omega
/-- of the parts that are left -/
theorem isNil_pcell {Bs : List Nat} {T : List Int} (i : Nat) : isNil (pcell Bs T i) = T.contains (i : Int) := by
  unfold pcell
  cases T.contains (i : Int) <;> rfl
theorem left_parts (Bs : List Nat) (T : List Int) : (pcells Bs T).filter (fun x => !isNil x) = (leftN T Bs.length).map fun i => ptr (Bs.getD i 0) := by
  unfold pcells leftN
  rw [List.filter_map]
  have e : ((fun x => !isNil x) ∘ pcell Bs T) = fun (i : Nat) => !T.contains (i : Int) := funext fun i => by
    show (!isNil (pcell Bs T i)) = _
    rw [isNil_pcell]
  rw [e]
  apply List.map_congr_left
  intro i hi
  have := (List.mem_filter.1 hi).2
  unfold pcell
  rw [if_neg (by simpa using this)]
end Go.Proofs.YtkajadkmdcalmaaGreatDoor
/-
  slices.DeleteFunc OF WHAT IS NIL, of the row of parts.
-/
namespace Go.Proofs.YtkajadkmdcalmaaGreatDoor
open Go.RowKit
theorem isnil_any (q : Option Addr) (w : World) : Calls Tryz.prog 38 #[.pointer q] w fun e w' => e = .returned (.bool (isNil (.pointer q))) ∧ w = w' := by
  cases q
  · go_enter Tryz.func38, Tryz.ntmps38
    go_wp2_with fail
    go_ret
    exact ⟨rfl, rfl⟩
  · go_enter Tryz.func38, Tryz.ntmps38
    go_wp2_with fail
    go_ret
    exact ⟨rfl, rfl⟩
set_option maxHeartbeats 1000000 in
theorem index38 {w : World} {pa : Option Addr} {L : List Value} (pc : Nat) (hr : Row w pa L) (hn : L.length ≤ 1000000) (p : Nat → Bool)
    (H : ∀ j (h : j < L.length), Calls Tryz.prog 38 #[L[j]] w fun e w' => e = .returned (.bool (p j)) ∧ w = w') :
    Calls Tryz.prog 57 #[.slice pa L.length pc, .func (.func 38) #[] #[]] w fun e w' => e = .returned (.int .i64 (firstAt p L.length)) ∧ w = w' := by
  have HR := Lib.hid hr
  have HH := Lib.hid H
  obtain ⟨n, hN⟩ : ∃ n, n = L.length := ⟨_, rfl⟩
  have HN := Lib.hid hN
  have hnI : (n : Int) ≤ 1000000 := by omega
  rw [← hN]
  clear hr H hN hn
  go_enter Tryz.func57, Tryz.ntmps57
  go_wp2_with fail
  go_loop [8] (fun i => ∃ j : Nat, i = .int .i64 j ∧ j ≤ n ∧ Hid (∀ i < j, p i = false)) (fun i => n - (intOf i).toNat)
  case atStart => exact ⟨0, rfl, Nat.zero_le _, Lib.hid fun i hi => absurd hi (Nat.not_lt_zero i)⟩
  case round =>
    obtain ⟨j, rfl, hj, hp⟩ := hrel
    by_cases hjn : j < n
    · have hjL : j < L.length := by rw [← HN.out]; exact hjn
      have jI : (j : Int) < (n : Int) := by omega
      obtain ⟨g, o, rfl, hg, ck⟩ := HR.out j hjL
      have C := Lib.hid (HH.out j hjL)
      generalize L[j] = v at *
      cases hb : p j
      · have HB := Lib.hid hb
        rw [hb] at C
        clear hb
        go_wp2_with (go_at_call 38; refine C.out.mono ?_; rintro e w' ⟨rfl, rfl⟩)
        go_round
        case rel => exact ⟨j + 1, by go_num, by omega, Lib.hid fun i hi => by
          by_cases h : i < j
          · exact hp.out i h
          · rw [show i = j by omega]; exact HB.out⟩
        case measure => simp [intOf]; omega
      · have HB := Lib.hid hb
        rw [hb] at C
        clear hb
        go_wp2_with (go_at_call 38; refine C.out.mono ?_; rintro e w' ⟨rfl, rfl⟩)
        go_ret
        exact ⟨ret_int (firstAt_some hjn HB.out hp.out).symm, rfl⟩
    · obtain rfl : j = n := by omega
      have jI : ¬ (j : Int) < (j : Int) := by omega
      go_wp2_with fail
      go_ret
      exact ⟨ret_int (firstAt_none hp.out).symm, rfl⟩

theorem row_own {w : World} {B n c : Nat} {a : Option Addr} {L : List Value} (h : w.ownsRow B 62 1 (.slice a n c) n L) : Row w a L := fun p hp => by
  have hl := h.1
  rcases h.2 with ⟨e, e0⟩ | ⟨g, cap, cur, e, hb, hg, _⟩
  · omega
  · injection e with e1 e2 e3
    subst e1; subst e3
    exact ⟨g, 0, rfl, (Array.getElem?_eq_some_iff.1 hg).1, by rw [Nat.zero_add, World.ownsRow.cellAt h p (by omega), List.getElem?_eq_getElem hp]⟩
theorem run_clearP (w : World) (g o n : Nat) (cur : Array Value) (t : TypeId) (hg : Blk w g t cur) (hn : 0 < n) (hfit : o + n ≤ cur.size) :
    ∃ cs, cs.length = n ∧ ∀ ty c, (Builtin.clear_ #[88] ty #[.slice (some ⟨g, o, none⟩) n c]).run Tryz.prog w = .ok (.tuple #[]) (w.setRow g (cur.toList.take o ++ cs ++ cur.toList.drop (o + n)).toArray) := by
  obtain ⟨i0, hi, hz0, hz1, hz2⟩ := info_parts infoP
  have hl : (Builtin.zeroCells (Value.pointer none).cells n).toList.length = n := by
    rw [Array.length_toList, size_zeroCells, show (Value.pointer none).cells.size = 1 from rfl, Nat.mul_one]
  have h1 : ∀ v ∈ (Builtin.zeroCells (Value.pointer none).cells n).toList, v.oneCell' = true := by
    intro v hv
    unfold Builtin.zeroCells at hv
    simp only [Array.toList_map, List.mem_map] at hv
    obtain ⟨i, _, rfl⟩ := hv
    have e : (Value.pointer none).cells = #[.pointer none] := rfl
    rw [e, show (#[Value.pointer none] : Array Value).size = 1 from rfl, Nat.mod_one]
    rfl
  have hst := run_storeCells_at Tryz.prog g o t _ 0 cur w hg (by rw [hl]; simpa using hfit) h1
  rw [hl] at hst
  obtain ⟨m, rfl⟩ : ∃ m, n = m + 1 := ⟨n - 1, by omega⟩
  refine ⟨_, hl, fun ty c => ?_⟩
  obtain ⟨Z, hZ⟩ : ∃ Z, Z = Builtin.zeroCells (Value.pointer none).cells (m + 1) := ⟨_, rfl⟩
  rw [← hZ] at hst ⊢
  have hzc : ∀ w, (zeroValue 62).run Tryz.prog w = .ok (.pointer none) w := fun w => by simp [zeroValue, typeInfo, hi, hz0]
  simp [Builtin.clear_, run_underlying Tryz.underlying88, hzc]
  rw [← hZ, hst]
  simp
/-- what DeleteFunc answers -/
def Deld (w : World) (B X c : Nat) (vs : List Value) (e : Ending) (w' : World) : Prop :=
  e = .returned (.slice (some ⟨X, 0, none⟩) (vs.filter fun x => !isNil x).length c) ∧ w'.ownsRow B 62 1 (.slice (some ⟨X, 0, none⟩) (vs.filter fun x => !isNil x).length c) (vs.filter fun x => !isNil x).length (vs.filter fun x => !isNil x) ∧ w.grownBy w' (some X)
/-- the row while it goes on -/
structure DlI (w wr : World) (B X c : Nat) (vs : List Value) (j : Nat) : Prop where
  row : wr.ownsRow B 62 1 (.slice (some ⟨X, 0, none⟩) vs.length c) vs.length (midV vs j)
  gb : w.grownBy wr (some X)
/-- the end: what is behind is cleared, the front is handed out -/
theorem DlI.done {w wr : World} {B X c : Nat} {vs : List Value} (h : DlI w wr B X c vs vs.length) (hlt : (keepV vs vs.length).length < vs.length) :
    ∃ W', (∀ ty c', (Builtin.clear_ #[88] ty #[.slice (some ⟨X, (keepV vs vs.length).length, none⟩) (vs.length - (keepV vs vs.length).length) c']).run Tryz.prog wr = .ok (.tuple #[]) W') ∧
      W'.ownsRow B 62 1 (.slice (some ⟨X, 0, none⟩) (keepV vs vs.length).length c) (keepV vs vs.length).length (keepV vs vs.length) ∧ w.grownBy W' (some X) ∧ (keepV vs vs.length).length ≤ c := by
  obtain ⟨k, hk⟩ : ∃ k, k = (keepV vs vs.length).length := ⟨_, rfl⟩
  rcases h.row.2 with ⟨e, _⟩ | ⟨g, cap, cur, e, hb, hg, hnc, hcm, hcs, hct⟩
  · simp at e
  · injection e with e1 e2 e3
    injection e1 with e1
    injection e1 with e1 _ _
    subst e1; subst e3
    rw [← hk] at hlt ⊢
    rw [Nat.mul_one] at hct hcs
    obtain ⟨cs, hcl, hrun⟩ := run_clearP wr X k (vs.length - k) cur 62 hg (by omega) (by omega)
    refine ⟨_, hrun, ⟨by rw [Nat.mul_one]; exact hk.symm, .inr ⟨X, c, _, rfl, hb, setRow_heap wr X cur _ 62 (0, 0) hg, by omega, hcm, ?_, ?_⟩⟩, ?_, by omega⟩
    · have hcl2 : cur.toList.length = c := by rw [Array.length_toList]; exact hcs
      rw [List.size_toArray, List.length_append, List.length_append, List.length_take, List.length_drop, hcl, hcl2]; omega
    · have hcl2 : cur.toList.length = c := by rw [Array.length_toList]; exact hcs
      rw [Nat.mul_one, List.toList_toArray, List.append_assoc, List.take_append_of_le_length (by rw [List.length_take]; omega), List.take_take, Nat.min_self]
      have : cur.toList.take k = (cur.toList.take vs.length).take k := by rw [List.take_take, Nat.min_eq_left (by omega)]
      rw [this, hct]
      unfold midV
      rw [List.take_append_of_le_length (by omega), List.take_of_length_le (by omega)]
    · exact gb_trans h.gb ⟨rfl, rfl, rfl, by simp, fun q _ hne => setRow_other _ _ _ _ (fun e => hne (by rw [e]))⟩
theorem DlI.step {w wr : World} {B X c : Nat} {vs : List Value} {j : Nat} (h : DlI w wr B X c vs j) (hj : j < vs.length) :
    wr.cell? ⟨X, j, none⟩ = some vs[j] ∧
    (isNil vs[j] = true → DlI w wr B X c vs (j + 1)) ∧
    (isNil vs[j] = false → wr.frozen? ⟨X, (keepV vs j).length, none⟩ = false ∧ (∃ u, wr.cell? ⟨X, (keepV vs j).length, none⟩ = some u) ∧ DlI w (wr.setCell ⟨X, (keepV vs j).length, none⟩ vs[j]) B X c vs (j + 1)) := by
  have hk := keepV_le vs j
  refine ⟨by rw [World.ownsRow.cellAt h.row j (by omega)]; exact midV_at hj, fun hb => ⟨by rw [midV_same hj hb]; exact h.row, h.gb⟩, fun hb => ?_⟩
  obtain ⟨s1, s2⟩ := World.ownsRow.stored h.row (keepV vs j).length vs[j]
  refine ⟨World.ownsRow.frozenAt h.row _, ⟨(midV vs j)[(keepV vs j).length]'(by rw [midV_len (by omega)]; omega), ?_⟩, ?_, gb_trans h.gb s2⟩
  · rw [World.ownsRow.cellAt h.row _ (by omega), List.getElem?_eq_getElem (by rw [midV_len (by omega)]; omega)]
  · rw [← midV_set hj hb]; exact s1
theorem first_ex {p : Nat → Bool} : ∀ (i : Nat), p i = true → ∃ j, j ≤ i ∧ p j = true ∧ ∀ k < j, p k = false := by
  intro i
  induction i using Nat.strongRecOn with
  | ind i ih =>
    intro h
    by_cases hx : ∃ k, k < i ∧ p k = true
    · obtain ⟨k, hk, hp⟩ := hx
      obtain ⟨j, h1, h2, h3⟩ := ih k hk hp
      exact ⟨j, by omega, h2, h3⟩
    · refine ⟨i, Nat.le_refl _, h, fun k hk => ?_⟩
      cases hc : p k
      · rfl
      · exact absurd ⟨k, hk, hc⟩ hx
set_option maxHeartbeats 4000000 in
set_option maxRecDepth 100000 in
theorem delfunc_any {w : World} {B X c : Nat} {vs : List Value} (hn : vs.length ≤ 200) (hv : ∀ i (h : i < vs.length), ∃ q, vs[i] = .pointer q)
    (hr : w.ownsRow B 62 1 (.slice (some ⟨X, 0, none⟩) vs.length c) vs.length vs) :
    Calls Tryz.prog 37 #[.slice (some ⟨X, 0, none⟩) vs.length c, .func (.func 38) #[] #[]] w (Deld w B X c vs) := by
  have R := row_own hr
  have IX := index38 c R (by omega) (fun i => isNil (vs.getD i (.pointer none))) fun j hj => by
    obtain ⟨q, hq⟩ := hv j hj
    have : vs.getD j (.pointer none) = vs[j] := by simp [List.getD_eq_getElem?_getD, hj]
    rw [this, hq]
    exact isnil_any q w
  have hcM : c ≤ maxLen ∧ vs.length ≤ c := by
    rcases hr.2 with ⟨e, _⟩ | ⟨g, cap, cur, e, hb, hg, hnc, hcm, hcs, hct⟩
    · simp at e
    · injection e with e1 e2 e3; subst e3; exact ⟨hcm, hnc⟩
  have hat : ∀ i (h : i < vs.length), vs.getD i (.pointer none) = vs[i] := fun i h => by simp [List.getD_eq_getElem?_getD, h]
  by_cases hall : ∀ i < vs.length, isNil (vs.getD i (.pointer none)) = false
  · rw [firstAt_none hall] at IX
    have hf : vs.filter (fun x => !isNil x) = vs := by
      rw [List.filter_eq_self]
      intro x hx
      obtain ⟨i, hi, rfl⟩ := List.getElem_of_mem hx
      rw [← hat i hi, hall i hi]; rfl
    have FIN := Lib.hid (show Deld w B X c vs (.returned (.slice (some ⟨X, 0, none⟩) vs.length c)) w by
      unfold Deld; rw [hf]; exact ⟨rfl, hr, ⟨rfl, rfl, rfl, Nat.le_refl _, fun _ _ _ => rfl⟩⟩)
    have IXh := Lib.hid IX
    clear IX R hr hv hall hf hat hcM
    generalize vs.length = n at *
    go_enter Tryz.func37, Tryz.ntmps37
    go_wp2_with (go_at_call 57; refine IXh.out.mono ?_; rintro e w' ⟨rfl, rfl⟩)
    go_ret
    exact FIN.out
  · obtain ⟨i0, hi0, hp0⟩ : ∃ i, i < vs.length ∧ isNil (vs.getD i (.pointer none)) = true := by
      refine Classical.byContradiction fun hne => hall fun i hi => ?_
      cases hc : isNil (vs.getD i (.pointer none))
      · rfl
      · exact absurd ⟨i, hi, hc⟩ hne
    obtain ⟨f, hf1, hf2, hf3⟩ := first_ex (p := fun i => isNil (vs.getD i (.pointer none))) i0 hp0
    have hfn : f < vs.length := by omega
    rw [firstAt_some hfn hf2 hf3] at IX
    have hfv : isNil vs[f] = true := by rw [← hat f hfn]; exact hf2
    obtain ⟨m1, m2⟩ := midV_first hfn hfv (fun i hi hlt => by rw [← hat i hi]; exact hf3 i hlt)
    have I0 := Lib.hid (show DlI w w B X c vs (f + 1) from ⟨by rw [m1]; exact hr, ⟨rfl, rfl, rfl, Nat.le_refl _, fun _ _ _ => rfl⟩⟩)
    have M2 := Lib.hid m2
    have LT := Lib.hid (fun (j : Nat) (h1 : f < j) (h2 : j ≤ vs.length) => keepV_lt hfn hfv h1 h2)
    have FU := Lib.hid (keepV_full vs)
    obtain ⟨n, hN⟩ : ∃ n, n = vs.length := ⟨_, rfl⟩
    have HN := Lib.hid hN
    rw [← hN] at IX
    have IXh := Lib.hid IX
    have hcI : (c : Int) ≤ 9223372036854775807 := by have := hcM.1; unfold maxLen at this; omega
    have hnc : n ≤ c := by rw [hN]; exact hcM.2
    have hnI : (n : Int) ≤ 200 := by omega
    have VQ := Lib.hid hv
    have f1 : ((f : Int) == -1) = false := by simp
    have hfnn : f < n := by rw [hN]; exact hfn
    rw [← hN] at hn ⊢
    clear IX R hr hv hall hf2 hf3 hat m1 m2 hfv hp0 hi0 hf1 hN hfn hcM
    go_enter Tryz.func37, Tryz.ntmps37
    go_wp2_with (go_at_call 57; refine IXh.out.mono ?_; rintro e w' ⟨rfl, rfl⟩)
    go_loopw [5, 6] (fun i u wr => ∃ j k : Nat, u = .int .i64 j ∧ i = .int .i64 k ∧ f < j ∧ j ≤ n ∧ k ≤ j ∧ Hid (k = (keepV vs j).length) ∧ Hid (DlI w wr B X c vs j)) (fun _ u wr => n - (intOf u).toNat)
    case atStart => exact ⟨f + 1, f, (by first | rfl | go_num), rfl, by omega, by omega, by omega, Lib.hid M2.out.symm, I0⟩
    case round =>
      obtain ⟨j, k, rfl, rfl, hfj, hj, hkj, hk, hI⟩ := hrel
      clear I0
      by_cases hjn : j < n
      · have jI : (j : Int) < (n : Int) := by omega
        have hjL : j < vs.length := by rw [← HN.out]; exact hjn
        obtain ⟨s1, s2, s3⟩ := hI.out.step hjL
        obtain ⟨q, hq⟩ := VQ.out j hjL
        have kI : (k : Int) < (n : Int) := by omega
        rw [← hk.out] at s3
        have KN := Lib.hid (fun h => keepV_nil hjL h)
        have KY := Lib.hid (fun h => keepV_yes hjL h)
        rw [hq] at s1 s2 s3 KN KY
        have CQ := Lib.hid (isnil_any q)
        cases hb : isNil (.pointer q)
        · obtain ⟨t1, ⟨u0, t2⟩, t3⟩ := s3 hb
          have T3 := Lib.hid t3
          have K2 := Lib.hid (show k + 1 = (keepV vs (j + 1)).length by rw [KY.out hb, List.length_append, ← hk.out]; rfl)
          rw [hb] at CQ
          clear s2 s3 KN KY hb t3 hk hI
          go_wp2_with (go_at_call 38; refine (CQ.out _).mono ?_; rintro e w' ⟨rfl, rfl⟩)
          go_roundw
          case rel => exact ⟨j + 1, k + 1, by go_num, by go_num, by omega, by omega, by omega, K2, T3⟩
          case measure => simp [intOf]; omega
        · have T3 := Lib.hid (s2 hb)
          have K2 := Lib.hid (show k = (keepV vs (j + 1)).length by rw [KN.out hb, ← hk.out])
          rw [hb] at CQ
          clear s2 s3 KN KY hb hk hI
          go_wp2_with (go_at_call 38; refine (CQ.out _).mono ?_; rintro e w' ⟨rfl, rfl⟩)
          go_roundw
          case rel => exact ⟨j + 1, k, by go_num, rfl, by omega, by omega, by omega, K2, T3⟩
          case measure => simp [intOf]; omega
      · obtain rfl : j = n := by omega
        have jI : ¬ (j : Int) < (j : Int) := by omega
        have hI2 : DlI w wr B X c vs vs.length := by rw [← HN.out]; exact hI.out
        have hkv : k = (keepV vs vs.length).length := by rw [← HN.out]; exact hk.out
        obtain ⟨W', d1, d2, d3, d4⟩ := hI2.done (LT.out _ (by rw [← HN.out]; exact hfj) (Nat.le_refl _))
        have hkn : k < j := by have := LT.out vs.length (by rw [← HN.out]; exact hfj) (Nat.le_refl _); rw [hkv, HN.out]; exact this
        rw [← hkv, ← HN.out] at d1
        rw [← hkv] at d2 d4
        have FIN := Lib.hid (show Deld w B X c vs (.returned (.slice (some ⟨X, 0, none⟩) k c)) W' by
          unfold Deld; rw [← FU.out, ← hkv]; exact ⟨rfl, d2, d3⟩)
        have D1 := Lib.hid d1
        have e1 : ¬ c = k := by omega
        have e2 : (k : Int) ≤ (j : Int) := by omega
        have e3 : (k : Int) ≤ (c : Int) := by omega
        have e4 : (j : Int) ≤ (c : Int) := by omega
        have dd := D1.out
        clear d1 d2 d3 d4 hI hI2 hk hkv D1
        go_wp2_with fail
        go_ret
        exact FIN.out
end Go.Proofs.YtkajadkmdcalmaaGreatDoor
/-
  A strings.Builder OF THE CALL's OWN: WriteString; put, of texts that lie in a row.
-/
namespace Go.Proofs.YtkajadkmdcalmaaGreatDoor
open Go.RowKit
theorem info99 : (Tryz.prog.info? 99).map (·.size) = some 2 := by kernel_rfl
theorem lies99 : liesAt Tryz.prog Tryz.prog.depth 99 (2 / Tryz.prog.cellsOf 99) 0 99 1 = true := by kernel_rfl
theorem info5b : (Tryz.prog.info? 5).map (fun i => (i.zero, i.size, i.bytes)) = some (some (.int .u8 0), 1, 1) := by kernel_rfl
set_option maxHeartbeats 1000000 in
set_option maxRecDepth 100000 in
theorem checkUsed {b : Nat} {w : World} (h0 : w.cell? ⟨b, 0, none⟩ = some (ptr b)) : Calls Tryz.prog 92 #[ptr b] w fun e w' => e = .returned (.tuple #[]) ∧ w' = w := by
  obtain ⟨j, hj, _⟩ := Option.map_eq_some_iff.1 info99
  unfold ptr at *
  go_enter Tryz.func92, Tryz.ntmps92
  go_wp2_with fail
  rw [Lib.run_neq_ptr_same w _ Tryz.underlying96 hj]
  go_wp2_with fail
  go_end0
  exact ⟨rfl, rfl⟩
set_option maxHeartbeats 1000000 in
set_option maxRecDepth 100000 in
theorem checkFresh {b : Nat} {w : World} (h0 : w.cell? ⟨b, 0, none⟩ = some (.pointer none)) (hsh : w.shape? b = some (99, 2)) (hfz : w.frozen? ⟨b, 0, none⟩ = false) :
    Calls Tryz.prog 92 #[ptr b] w fun e w' => e = .returned (.tuple #[]) ∧ w' = w.setCell ⟨b, 0, none⟩ (ptr b) := by
  obtain ⟨j, hj, hjs⟩ := Option.map_eq_some_iff.1 info99
  unfold ptr at *
  go_enter Tryz.func92, Tryz.ntmps92
  go_wp2_with fail
  rw [Lib.run_to_unsafe w ⟨b, 0, none⟩ Tryz.underlying96 Tryz.underlying153 hj (by rw [hjs]; decide) hsh (Nat.zero_lt_succ 1)]
  simp only [Result.andThen]
  rw [Oper.upon_value]
  go_wp2_with fail
  rw [run_callFunc_extern Tryz.func106 (by kernel_rfl) (by kernel_rfl) (by kernel_rfl) (e := Extern.AbiNoEscape.same) (by kernel_rfl)]
  rw [Lib.run_noEscape]
  simp only [Result.andThen]
  rw [Oper.upon_value]
  go_wp2_with fail
  rw [Lib.run_from_unsafe w ⟨b, 0, none⟩ Tryz.underlying153 Tryz.underlying96 hj hsh lies99]
  simp only [Result.andThen]
  rw [Oper.upon_value]
  go_wp2_with fail
  go_end0
  exact ⟨rfl, rfl⟩
/-- a builder that holds bytes -/
def Bd (w : World) (b : Nat) (l : List UInt8) : Prop := Lib.IsBuilder 99 5 b b (Lib.byteCells l) w
theorem Bd.lt {w : World} {b : Nat} {l : List UInt8} (h : Bd w b l) : b < w.heap.size := by
  rcases h with h | h
  · exact h.lt
  · exact h.lt
/-- all but the builder and rows of bytes stands as it stood -/
structure Kp (b : Nat) (w w' : World) : Prop where
  size : w.heap.size ≤ w'.heap.size
  block : ∀ k < w.heap.size, k ≠ b → (∀ cur, w.heap[k]? ≠ some (.cells cur 5 (0, 0))) → w'.heap[k]? = w.heap[k]?
theorem Kp.refl (b : Nat) (w : World) : Kp b w w := ⟨Nat.le_refl _, fun _ _ _ _ => rfl⟩
theorem Kp.trans {b : Nat} {u v w : World} (h1 : Kp b u v) (h2 : Kp b v w) : Kp b u w :=
  ⟨Nat.le_trans h1.size h2.size, fun k hk hb hc => by
    have e := h1.block k hk hb hc
    exact (h2.block k (Nat.lt_of_lt_of_le hk h1.size) hb (fun cur => by rw [e]; exact hc cur)).trans e⟩
theorem Kp.set {b : Nat} (w : World) (i : Nat) (v : Value) : Kp b w (w.setCell ⟨b, i, none⟩ v) := ⟨by simp, fun k _ hb _ => Below.heap_setCell _ _ _ _ hb⟩
theorem Kp.blk {b : Nat} {w w' : World} (h : Kp b w w') {g : Nat} {t : TypeId} {cs : Array Value} (hB : Blk w g t cs) (hb : g ≠ b) (ht : t ≠ 5) : Blk w' g t cs :=
  (h.block g hB.lt hb (fun cur e => by unfold Blk at hB; rw [hB] at e; injection e with e; injection e with _ e _; exact ht e)).trans hB
/-- what a call leaves that writes to a builder -/
structure Wrt (w : World) (b : Nat) (l : List UInt8) (w' : World) : Prop where
  bd : Bd w' b l
  bel : Below b w w'
  kp : Kp b w w'
theorem Wrt.trans {u v w : World} {b : Nat} {l m : List UInt8} (h1 : Wrt u b l v) (h2 : Wrt v b m w) : Wrt u b m w := ⟨h2.bd, h1.bel.trans h2.bel, h1.kp.trans h2.kp⟩
theorem check_bd {w : World} {b : Nat} {l : List UInt8} (h : Bd w b l) : Calls Tryz.prog 92 #[ptr b] w fun e w' => e = .returned (.tuple #[]) ∧ Lib.BuilderAt 99 5 b b (ptr b) (Lib.byteCells l) w' ∧ Below b w w' ∧ w'.heap.size = w.heap.size ∧ Kp b w w' := by
  rcases h with h | h
  · refine (checkFresh h.cell0 h.shape h.frozen0).mono ?_
    rintro e w' ⟨rfl, rfl⟩
    exact ⟨rfl, h.used _, (Below.refl b w).setCell (p := ⟨b, 0, none⟩) h.1 _, by simp, Kp.set w 0 _⟩
  · refine (checkUsed h.cell0).mono ?_
    rintro e w' ⟨rfl, rfl⟩
    exact ⟨rfl, h, Below.refl b _, rfl, Kp.refl b _⟩
set_option maxHeartbeats 2000000 in
set_option maxRecDepth 100000 in
theorem writeString_any {w : World} {b : Nat} {l : List UInt8} (h : Bd w b l) (s : ByteArray) (hlen : l.length + s.size ≤ 140737488355328) :
    Calls Tryz.prog 64 #[ptr b, .string s] w fun e w' => e = .returned (.tuple #[.int .i64 s.size, .nilIface]) ∧ Wrt w b (l ++ s.data.toList) w' := by
  obtain ⟨i0, hi, hz0, hz1, hz2⟩ := info_parts info5b
  have hlt := h.lt
  have CK := Lib.hid (check_bd h)
  clear h
  rw [show ptr b = .pointer (some ⟨b, 0, none⟩) from rfl] at CK ⊢
  go_enter Tryz.func64, Tryz.ntmps64
  go_wp2_with fail
  refine CK.out.mono ?_
  rintro e w1 ⟨rfl, h1, hb1, hz, kp1⟩
  have KP1 := Lib.hid kp1
  clear kp1
  obtain ⟨hB, v, hbk, hown, hne⟩ := h1
  obtain ⟨va, vc, hv⟩ := slice_form hown
  subst hv
  rw [Lib.byteCells_length] at hown hbk hne
  have c1 : w1.cell? ⟨b, 1, none⟩ = some (.slice va l.length vc) := by rw [Lib.cell_of_heap hbk]; rfl
  have hlt1 : b < w1.heap.size := by omega
  have OWN := Lib.hid hown
  have HBK := Lib.hid hbk
  have HB1 := Lib.hid hb1
  have HNE := Lib.hid hne
  clear hown hbk hb1 hne hz
  have PUT := Lib.hid (fun (v' : Value) (w2 : World) (ho : w2.ownsRow b 5 1 v' (l.length + s.size) (Lib.byteCells l ++ Lib.strCells s)) (hg : w1.grownBy w2 (Value.slice va l.length vc).ownBlock) =>
    show (∃ ao n' cap, v' = .slice ao n' cap) ∧ w2.cell? ⟨b, 1, none⟩ = some (.slice va l.length vc) ∧ w2.frozen? ⟨b, 1, none⟩ = false ∧ Wrt w b (l ++ s.data.toList) (w2.setCell ⟨b, 1, none⟩ v') by
      have hb2 : w2.heap[b]? = some (.cells #[ptr b, .slice va l.length vc] 99 (0, 0)) := by
        rw [hg.block b hlt1 (fun e => HNE.out e.symm)]
        exact HBK.out
      have e : Lib.byteCells (l ++ s.data.toList) = Lib.byteCells l ++ Lib.strCells s := by unfold Lib.byteCells Lib.strCells; rw [List.map_append]
      obtain ⟨ao, cap, hf⟩ := slice_form ho
      refine ⟨⟨_, _, _, hf⟩, by rw [Lib.cell_of_heap hb2]; rfl, Lib.frozen_of_heap hb2 1, .inr ?_, ?_, (KP1.out.trans ⟨hg.size, fun k hk hb hc => hg.block k hk fun e => ?_⟩).trans (Kp.set w2 1 _)⟩
      · rw [e]
        exact Lib.BuilderAt.put (T := 99) (e := 5) (Nat.le_refl b) hb2 (bs' := Lib.byteCells l ++ Lib.strCells s) (by simpa [Lib.strCells_length, Lib.byteCells_length] using ho) (by decide)
      · exact (HB1.out.grown hg (by omega) (fun k hk => (World.ownsRow.lt OWN.out k hk).1)).setCell (p := ⟨b, 1, none⟩) (Nat.le_refl b) _
      · rcases OWN.out.2 with ⟨e1, _⟩ | ⟨g, cap, cur, e1, _, hgg, _⟩
        · rw [e1] at e; exact absurd e (by simp [Value.ownBlock])
        · rw [e1] at e
          have e2 : k = g := by simpa [Value.ownBlock] using e
          exact hc cur (by rw [e2]; exact hgg))
  go_wp2_with (at_builtin; refine Lib.wpList_append_own_string w1 rfl _ _ 97 9 rfl b 5 i0 Tryz.underlying97 Tryz.underlying9 hi hz0 hz1 hz2 (.slice va l.length vc) l.length _ rfl OWN.out s rfl (by unfold maxLen; omega) (by omega) (by omega) ?_; intro v' w2 hown' hgrow _; obtain ⟨⟨ao, n', cap, rfl⟩, d1, f1, d2⟩ := PUT.out v' w2 hown' hgrow; have D2 := Lib.hid d2; clear hown' hgrow d2 PUT OWN HBK HB1 HNE c1 KP1)
  go_ret2
  exact ⟨rfl, D2.out⟩
set_option maxHeartbeats 2000000 in
set_option maxRecDepth 100000 in
theorem put_any {w : World} {b : Nat} {l : List UInt8} (h : Bd w b l) (ss : List ByteArray) {g : Nat} (c : Nat) (hB : Blk w g 9 (ss.map Value.string).toArray) (hn : ss.length ≤ 100) (hlen : l.length + (ss.flatMap (·.data.toList)).length ≤ 140737488355328) :
    Calls Tryz.prog 41 #[ptr b, .slice (some ⟨g, 0, none⟩) ss.length c] w fun e w' => e = .returned (.tuple #[]) ∧ Wrt w b (l ++ ss.flatMap (·.data.toList)) w' := by
  have hgb : g ≠ b := fun e => by
    subst e
    rcases h with h | h
    all_goals
      obtain ⟨_, v, hbk, _⟩ := h
      unfold Blk at hB
      rw [hB] at hbk
      injection hbk with hbk
      injection hbk with _ hbk _
      exact absurd hbk (by decide)
  have I0 := Lib.hid (show Wrt w b (l ++ (ss.take 0).flatMap (·.data.toList)) w by simpa using (⟨h, Below.refl b w, Kp.refl b w⟩ : Wrt w b l w))
  have HB := Lib.hid hB
  have HL := Lib.hid hlen
  obtain ⟨n, hN⟩ : ∃ n, n = ss.length := ⟨_, rfl⟩
  have HN := Lib.hid hN
  have hnI : (n : Int) ≤ 100 := by omega
  rw [← hN]
  clear h hB hlen hN hn
  rw [show ptr b = .pointer (some ⟨b, 0, none⟩) from rfl]
  go_enter Tryz.func41, Tryz.ntmps41
  go_wp2_with fail
  go_loopw [8] (fun i wr => ∃ j : Nat, i = .int .i64 j ∧ j ≤ n ∧ Hid (Wrt w b (l ++ (ss.take j).flatMap (·.data.toList)) wr)) (fun i wr => n - (intOf i).toNat)
  case atStart => exact ⟨0, rfl, Nat.zero_le _, I0⟩
  case round =>
    obtain ⟨j, rfl, hj, hI⟩ := hrel
    clear I0
    by_cases hjn : j < n
    · have jI : (j : Int) < (n : Int) := by omega
      have hjL : j < ss.length := by rw [← HN.out]; exact hjn
      have cl : wr.cell? ⟨g, j, none⟩ = some (.string ss[j]) := by
        have hb := hI.out.kp.blk HB.out hgb (by decide)
        rw [hb.cell]
        simp [hjL]
      have e : (ss.take (j + 1)).flatMap (·.data.toList) = (ss.take j).flatMap (·.data.toList) ++ ss[j].data.toList := by rw [List.take_succ_eq_append_getElem hjL, List.flatMap_append]; simp
      have hle : ((ss.take (j + 1)).flatMap (·.data.toList)).length ≤ (ss.flatMap (·.data.toList)).length := by
        have : ss.flatMap (·.data.toList) = (ss.take (j + 1)).flatMap (·.data.toList) ++ (ss.drop (j + 1)).flatMap (·.data.toList) := by rw [← List.flatMap_append, List.take_append_drop]
        rw [this, List.length_append]; omega
      have WS := Lib.hid (writeString_any hI.out.bd ss[j] (by
        have h1 := HL.out
        rw [e, List.length_append] at hle
        have h2 : ss[j].data.toList.length = ss[j].size := by rw [Array.length_toList]; rfl
        rw [List.length_append]; omega))
      have E := Lib.hid e
      clear e hle
      generalize ss[j] = s at *
      rw [show ptr b = .pointer (some ⟨b, 0, none⟩) from rfl] at WS
      go_wp2_with (go_at_call 64; refine WS.out.mono ?_; rintro e w2 ⟨rfl, h2⟩; have W2 := Lib.hid (hI.out.trans h2); clear h2)
      go_roundw
      case rel => exact ⟨j + 1, by go_num, by omega, Lib.hid (by rw [E.out, ← List.append_assoc]; exact W2.out)⟩
      case measure => simp [intOf]; omega
    · obtain rfl : j = n := by omega
      have jI : ¬ (j : Int) < (j : Int) := by omega
      have FIN := Lib.hid (show Wrt w b (l ++ ss.flatMap (·.data.toList)) wr by have := hI.out; rw [List.take_of_length_le (by rw [HN.out]; exact Nat.le_refl _)] at this; exact this)
      clear hI
      go_wp2_with fail
      go_end0
      exact ⟨rfl, FIN.out⟩
end Go.Proofs.YtkajadkmdcalmaaGreatDoor
