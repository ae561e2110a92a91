/-
  The book: Rows 15, the document's Same 14 and Read 12.
-/
import Derived.Test.YtlcgicgdlhnfoaaBrt
import Derived.Test.YtlcgicgdlhnfoaaBrd
namespace Go.Proofs.Ytlcgicgdlhnfoaa
open Go.RowKit
/-- rows' cells, their numbers in the blocks D -/
def Cels (w : World) (D : Nat → Prop) (cs : List Value) (LL : List (List Int)) : Prop := cs.length = LL.length ∧ ∀ (i : Nat) (h : i < cs.length) (h2 : i < LL.length), ∃ q c, cs[i] = .slice q LL[i].length c ∧ Nums w q LL[i] ∧ ∀ p, q = some p → D p.block
section
variable {w w' : World} {D : Nat → Prop} {cs : List Value} {LL : List (List Int)}
theorem Cels.nil (w : World) (D : Nat → Prop) : Cels w D [] [] := ⟨rfl, fun i h => by simp at h⟩
theorem Cels.next (h : Cels w D cs LL) (hb : Below w.heap.size w w') : Cels w' D cs LL := ⟨h.1, fun i a b => by
  obtain ⟨q, c, e, nn, hd⟩ := h.2 i a b
  exact ⟨q, c, e, nn.next hb, hd⟩⟩
theorem Cels.snoc {q : Option Addr} {c : Nat} {xs : List Int} (h : Cels w D cs LL) (hn : Nums w q xs) (hd : ∀ p, q = some p → D p.block) : Cels w D (cs ++ [.slice q xs.length c]) (LL ++ [xs]) := ⟨by simp [h.1], fun i a b => by
  have := h.1
  rcases Nat.lt_or_ge i cs.length with hi | hi
  · rw [List.getElem_append_left hi, List.getElem_append_left (by omega)]
    exact h.2 i hi (by omega)
  · simp only [List.length_append, List.length_cons, List.length_nil] at a b
    obtain rfl : i = cs.length := by omega
    rw [List.getElem_append_right (Nat.le_refl _), List.getElem_append_right (by omega)]
    simp only [this, Nat.sub_self, List.getElem_cons_zero]
    exact ⟨q, c, rfl, hn, hd⟩⟩
theorem Cels.rws {B : Nat} {a : Option Addr} {n c : Nat} (h : Cels w D cs LL) (ho : w.ownsRow B 29 1 (.slice a n c) cs.length cs) : Rws w a LL := by
  intro i hi
  have hl := h.1
  obtain ⟨q, cq, e, nn, -⟩ := h.2 i (by omega) hi
  have h0 := ho
  rcases ho.2 with ⟨_, e3⟩ | ⟨g, cap, cur, e3, hb, hg, _⟩
  · omega
  · obtain ⟨rfl, rfl, rfl⟩ : a = some ⟨g, 0, none⟩ ∧ n = cs.length ∧ c = cap := by
      simp only [Value.slice.injEq] at e3; exact e3
    refine ⟨g, 0, q, cq, rfl, (Array.getElem?_eq_some_iff.1 hg).1, ?_, nn⟩
    rw [Nat.zero_add, h0.cellAt _ (by omega), List.getElem?_eq_getElem (by omega), e]
end
theorem OwnM.rws {w : World} {B : Nat} {a : Option Addr} {n c : Nat} {ms : List Mv} (h : OwnM w B (.slice a n c) ms) {LL : List (List Int)} (e : ms.map (fun x : Mv => x.2) = LL) : Rws w a LL := by
  intro i hi
  have hl : ms.length = LL.length := by rw [← e, List.length_map]
  have hi2 : i < ms.length := by omega
  have e2 : ms[i].2 = LL[i] := by
    have : (ms.map (fun x : Mv => x.2))[i]? = LL[i]? := by rw [e]
    rw [List.getElem?_map, List.getElem?_eq_getElem hi2, List.getElem?_eq_getElem hi] at this
    exact Option.some.inj this
  obtain ⟨q, cq, eq, nn⟩ := (h.2 ms[i] (List.getElem_mem hi2)).nums
  have h0 := h.1
  rcases h.1.2 with ⟨_, e3⟩ | ⟨g, cap, cur, e3, hb, hg, _⟩
  · omega
  · obtain ⟨rfl, rfl, rfl⟩ : a = some ⟨g, 0, none⟩ ∧ n = ms.length ∧ c = cap := by
      simp only [Value.slice.injEq] at e3; exact e3
    refine ⟨g, 0, q, cq, rfl, (Array.getElem?_eq_some_iff.1 hg).1, ?_, by rw [← e2]; exact nn⟩
    rw [Nat.zero_add, h0.cellAt _ (by omega), List.getElem?_map, List.getElem?_eq_getElem hi2, ← e2, ← eq]
    rfl
theorem news29 {W : World} {u : Value} : ∀ j x, ([u] : List Value)[j]? = some x → (W.alloc (.cells #[u] 29)).cell? ((⟨W.heap.size, 0, none⟩ : Addr).add j) = some x := by
  intro j x hj
  match j, hj with
  | 0, hj => rw [addr_add, (Blk.new W 29 #[u]).cell]; exact hj
theorem info29 : (Try.prog.info? 29).map (fun i => (i.zero, i.size, i.bytes)) = some (some (.slice none 0 0), 1, 24) := by kernel_rfl
/-- the world behind an append to a row that is owned -/
theorem app_below {w wr w3 : World} {u v : Value} {cs : List Value} {n : Nat} (hb : Below w.heap.size w wr) (ho : wr.ownsRow w.heap.size 29 1 v n cs) (hg : (wr.alloc (.cells #[u] 29)).grownBy w3 v.ownBlock) : Below w.heap.size w w3 ∧ Fr wr w3 (fun q => w.heap.size ≤ q) ∧ Fr wr w3 (fun q => v.ownBlock = some q) := by
  have bA : Below wr.heap.size wr (wr.alloc (.cells #[u] 29)) := (Below.refl _ _).alloc (Nat.le_refl _) _
  have f3 : Fr wr w3 (fun q => v.ownBlock = some q) := (Fr.of_below bA _).on ((Fr.of_grown hg).mono (fun q _ e => e.symm))
  have f4 : Fr wr w3 (fun q => w.heap.size ≤ q) := f3.mono (fun q _ e => (own_ty ho q e).1)
  exact ⟨hb.trans (f4.below (fun q h => h) hb.size), f4, f3⟩
theorem Nums.fr {w w' : World} {a : Option Addr} {xs : List Int} {P : Nat → Prop} (h : Nums w a xs) (f : Fr w w' P) (hP : ∀ p, a = some p → ¬ P p.block) : Nums w' a xs := fun i hi => by
  obtain ⟨g, o, e, hg, c⟩ := h i hi
  exact ⟨g, o, e, Nat.lt_of_lt_of_le hg f.size, by rw [World.cell?_of_block (f.block g hg (hP _ e))]; exact c⟩
theorem Cels.fr {w w' : World} {D P : Nat → Prop} {cs : List Value} {LL : List (List Int)} (h : Cels w D cs LL) (f : Fr w w' P) (hP : ∀ q, D q → ¬ P q) : Cels w' D cs LL := ⟨h.1, fun i a b => by
  obtain ⟨q, c, e, nn, hd⟩ := h.2 i a b
  exact ⟨q, c, e, nn.fr f (fun p hp => hP _ (hd p hp)), hd⟩⟩
/-- what Rows leaves -/
def Rwd (w : World) (LL : List (List Int)) (e : Ending) (w' : World) : Prop := ∃ a' c', e = .returned (.slice a' LL.length c') ∧ Rws w' a' LL ∧ Below w.heap.size w w'
set_option maxHeartbeats 8000000 in
set_option maxRecDepth 100000 in
theorem rows_any {w : World} {a : Option Addr} {LL : List (List Int)} (c : Nat) (h : Rws w a LL) (hl : LL.length ≤ 1000) :
    Calls Try.prog 15 #[.slice a LL.length c] w (Rwd w LL) := by
  have RW := Lib.hid h
  obtain ⟨i29, hi, hz0, hz1, hz2⟩ := info_parts info29
  have C0 := Lib.hid (Cels.nil w (fun q => q < w.heap.size))
  have B0 := Lib.hid (Below.refl w.heap.size w)
  have hlI : (LL.length : Int) ≤ 1000 := by omega
  have HF : Hid (∀ i (hi : i < LL.length), ∃ g o q cq, a = some ⟨g, o, none⟩ ∧ (∀ wr, Below w.heap.size w wr → wr.cell? ⟨g, o + i, none⟩ = some (.slice q LL[i].length cq)) ∧ (∀ wr, Below w.heap.size w wr → Nums wr q LL[i]) ∧ (1 ≤ LL[i].length → ∀ p, q = some p → p.block < w.heap.size)) := Lib.hid fun i hi => by
    obtain ⟨g, o, q, cq, e, hg, ck, nn⟩ := h i hi
    refine ⟨g, o, q, cq, e, fun wr b => (b.cell (p := ⟨g, _, none⟩) hg).trans ck, fun wr b => nn.next b, fun h1 p hp => ?_⟩
    obtain ⟨g2, o2, e2, hg2, -⟩ := nn 0 (by omega)
    rw [e2] at hp; cases hp; exact hg2
  clear h
  go_enter Try.func15, Try.ntmps15
  go_wp2_with fail
  go_loopw [3, 4] (fun v i wr => ∃ (j : Nat) (cs : List Value), i = .int .i64 j ∧ j ≤ LL.length ∧ Hid (cs.length = j) ∧ Hid (wr.ownsRow w.heap.size 29 1 v j cs) ∧ Hid (∀ k (hk : k < j) (hk2 : k < LL.length), ∃ q cq, cs[k]? = some (.slice q LL[k].length cq) ∧ ∀ w2, Below w.heap.size w w2 → Nums w2 q LL[k]) ∧ Hid (Below w.heap.size w wr)) (fun _ i _ => LL.length - (intOf i).toNat)
  case atStart => exact ⟨0, [], rfl, Nat.zero_le _, Lib.hid rfl, Lib.hid (World.ownsRow_nil _ _ _ _), Lib.hid (fun k hk => by omega), B0⟩
  case round =>
    obtain ⟨j, cs, rfl, hj, hcl, hO, hC, hB⟩ := hrel
    clear B0 C0
    obtain ⟨va, vc, rfl⟩ := own_form hO.out
    by_cases hjn : j < LL.length
    · have jI : (j : Int) < (LL.length : Int) := by omega
      have jB := decide_eq_true jI
      obtain ⟨g, o, q, cq, rfl, CK, NN, -⟩ := HF.out j hjn
      have ck := CK wr hB.out
      have NNh := Lib.hid NN
      have hWr := hB.out.size
      have C2 : Hid (∀ k (hk : k < j + 1) (hk2 : k < LL.length), ∃ q' cq', (cs ++ [.slice q LL[j].length cq])[k]? = some (.slice q' LL[k].length cq') ∧ ∀ w2, Below w.heap.size w w2 → Nums w2 q' LL[k]) := Lib.hid fun k hk hk2 => by
        rcases Nat.lt_or_ge k j with h1 | h1
        · obtain ⟨q', cq', e, nn⟩ := hC.out k h1 hk2
          have h3 : k < cs.length := by have := hcl.out; omega
          exact ⟨q', cq', by rw [List.getElem?_append_left h3]; exact e, nn⟩
        · obtain rfl : k = j := by omega
          have h3 := hcl.out
          exact ⟨q, cq, by rw [List.getElem?_append_right (by omega), h3, Nat.sub_self]; rfl, NNh.out⟩
      have HL2 : Hid ((cs ++ [Value.slice q LL[j].length cq]).length = j + 1) := Lib.hid (by simp [hcl.out])
      clear CK NN NNh hC HF
      generalize LL[j].length = m at *
      go_wp2_with (at_builtin; refine wpList_append_own _ rfl _ _ 25 rfl w.heap.size 29 i29 (.slice none 0 0) 1 24 Try.underlying25 hi hz0 hz1 hz2 rfl (by decide) (.slice va j vc) j cs rfl (hO.out.alloc _) ⟨wr.heap.size, 0, none⟩ 1 1 [.slice q m cq] rfl rfl news29 (by simp [Value.oneCell']) (by unfold maxLen; omega) (by omega) (by simp; omega) ?_; intro v' w3 hown hgrow _; obtain ⟨g', cap', rfl⟩ := ownsRow_succ hown; have B3 := Lib.hid (app_below hB.out hO.out hgrow).1; have O3 := Lib.hid hown; clear hown hgrow)
      clear ck hO hB
      go_roundw
      case rel => exact ⟨j + 1, _, by go_num, by omega, HL2, O3, C2, B3⟩
      case measure => simp [intOf]; omega
    · obtain rfl : j = LL.length := by omega
      have jI : ¬ (LL.length : Int) < (LL.length : Int) := by omega
      have R9 : Hid (Rws wr va LL) := Lib.hid (by
        have hC2 : Cels wr (fun _ => True) cs LL := ⟨hcl.out, fun i h1 h2 => by
          obtain ⟨q, cq, e, nn⟩ := hC.out i h2 h2
          rw [List.getElem?_eq_getElem h1] at e
          exact ⟨q, cq, Option.some.inj e, nn wr hB.out, fun _ _ => trivial⟩⟩
        exact hC2.rws (by rw [hcl.out]; exact hO.out))
      have B9 := hB.out
      clear hC hO hB
      go_wp2_with fail
      go_ret
      exact ⟨va, vc, rfl, R9.out, B9⟩
end Go.Proofs.Ytlcgicgdlhnfoaa
