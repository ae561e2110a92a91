/-
  THE DOCUMENT's READER: next; lists with the blocks they lie in; Rows.
-/
import Derived.Test.YtbghjcfepjbppaaRtl
import Derived.Test.YtbghjcfepjbppaaRgt
import Derived.Test.YtbghjcfepjbppaaBrs
namespace Go.Proofs.Ytbghjcfepjbppaa
open Go.RowKit
theorem rnext_any (to nodes : Int) (w : World) (ht : 0 ≤ to ∧ to ≤ 100) : Calls Try.prog 48 #[.int .i64 to, .int .i64 nodes] w fun e w' => e = .returned (.int .i64 (nextN to nodes)) ∧ w = w' := by
  have hw : wrap64 (to + 1) = to + 1 := by unfold wrap64; omega
  unfold nextN
  by_cases h : to + 1 < nodes
  · rw [if_pos h]
    have hd : decide (to + 1 < nodes) = true := by simp; omega
    go_enter Try.func48, Try.ntmps48
    go_wp2_with fail
    go_ret
    exact ⟨rfl, rfl⟩
  · rw [if_neg h]
    have hd : decide (to + 1 < nodes) = false := by simp; omega
    go_enter Try.func48, Try.ntmps48
    go_wp2_with fail
    go_ret
    exact ⟨rfl, rfl⟩
/-- numbers in the blocks V -/
def NumsD (w : World) (V : Nat → Prop) (a : Option Addr) (xs : List Int) : Prop := Bk.Nums w a xs ∧ ∀ p, a = some p → xs ≠ [] → V p.block
/-- rows of numbers in the blocks V -/
def RwsD (w : World) (V : Nat → Prop) (a : Option Addr) (LL : List (List Int)) : Prop := ∀ i (h : i < LL.length), ∃ g o q c, a = some ⟨g, o, none⟩ ∧ g < w.heap.size ∧ V g ∧ w.cell? ⟨g, o + i, none⟩ = some (.slice q LL[i].length c) ∧ NumsD w V q LL[i]
section
variable {w w' : World} {V P : Nat → Prop} {a : Option Addr} {xs : List Int} {LL : List (List Int)}
theorem NumsD.fr (h : NumsD w V a xs) (f : Fr w w' P) (hP : ∀ q, V q → ¬ P q) : NumsD w' V a xs := ⟨fun i hi => by
  obtain ⟨g, o, e, hl, c⟩ := h.1 i hi
  have hv := h.2 _ e (fun e0 => by rw [e0] at hi; simp at hi)
  exact ⟨g, o, e, Nat.lt_of_lt_of_le hl f.size, f.cell hl (hP _ hv) c⟩, h.2⟩
theorem NumsD.mono {V' : Nat → Prop} (h : NumsD w V a xs) (hV : ∀ q, V q → V' q) : NumsD w V' a xs := ⟨h.1, fun p e hx => hV _ (h.2 p e hx)⟩
theorem RwsD.fr (h : RwsD w V a LL) (f : Fr w w' P) (hP : ∀ q, V q → ¬ P q) : RwsD w' V a LL := fun i hi => by
  obtain ⟨g, o, q, c, e, hl, hv, ck, nn⟩ := h i hi
  exact ⟨g, o, q, c, e, Nat.lt_of_lt_of_le hl f.size, hv, f.cell hl (hP _ hv) ck, nn.fr f hP⟩
theorem RwsD.mono {V' : Nat → Prop} (h : RwsD w V a LL) (hV : ∀ q, V q → V' q) : RwsD w V' a LL := fun i hi => by
  obtain ⟨g, o, q, c, e, hl, hv, ck, nn⟩ := h i hi
  exact ⟨g, o, q, c, e, hl, hV _ hv, ck, nn.mono hV⟩
theorem RwsD.next (h : RwsD w V a LL) (b : Below w.heap.size w w') : RwsD w' V a LL := h.fr (P := fun _ => False) (Fr.of_below b _) (fun _ _ hf => hf)
theorem NumsD.next (h : NumsD w V a xs) (b : Below w.heap.size w w') : NumsD w' V a xs := h.fr (P := fun _ => False) (Fr.of_below b _) (fun _ _ hf => hf)
theorem RwsD.rws (h : RwsD w V a LL) : Bk.Rws w a LL := fun i hi => by
  obtain ⟨g, o, q, c, e, hl, hv, ck, nn⟩ := h i hi
  exact ⟨g, o, q, c, e, hl, ck, nn.1⟩
theorem rwsD_nil (w : World) (V : Nat → Prop) (a : Option Addr) : RwsD w V a [] := fun i hi => by simp at hi
theorem numsD_nil (w : World) (V : Nat → Prop) (a : Option Addr) : NumsD w V a [] := ⟨fun i hi => by simp at hi, fun _ _ h => absurd rfl h⟩
end
/-- rows' cells, their numbers in the blocks V -/
def CelD (w : World) (V : Nat → Prop) (cs : List Value) (LL : List (List Int)) : Prop := cs.length = LL.length ∧ ∀ (i : Nat) (_h : i < cs.length) (h2 : i < LL.length), ∃ q c, cs[i]? = some (.slice q LL[i].length c) ∧ NumsD w V q LL[i]
section
variable {w w' : World} {V : Nat → Prop} {cs : List Value} {LL : List (List Int)}
theorem celD_nil (w : World) (V : Nat → Prop) : CelD w V [] [] := ⟨rfl, fun i h => by simp at h⟩
theorem CelD.fr {P : Nat → Prop} (h : CelD w V cs LL) (f : Fr w w' P) (hP : ∀ q, V q → ¬ P q) : CelD w' V cs LL := ⟨h.1, fun i a b => by
  obtain ⟨q, c, e, nn⟩ := h.2 i a b
  exact ⟨q, c, e, nn.fr f hP⟩⟩
theorem CelD.snoc {q : Option Addr} {c : Nat} {xs : List Int} (h : CelD w V cs LL) (hn : NumsD w V q xs) : CelD w V (cs ++ [.slice q xs.length c]) (LL ++ [xs]) := ⟨by simp [h.1], fun i a b => by
  have := h.1
  rcases Nat.lt_or_ge i cs.length with hi | hi
  · rw [List.getElem?_append_left hi, List.getElem_append_left (by omega)]
    exact h.2 i hi (by omega)
  · simp only [List.length_append, List.length_cons, List.length_nil] at a b
    obtain rfl : i = cs.length := by omega
    rw [List.getElem?_append_right (Nat.le_refl _), List.getElem_append_right (by omega)]
    simp only [this, Nat.sub_self, List.getElem_cons_zero]
    exact ⟨q, c, rfl, hn⟩⟩
theorem CelD.rws {V' : Nat → Prop} {B : Nat} {a : Option Addr} {n c : Nat} (h : CelD w V cs LL) (ho : w.ownsRow B 55 1 (.slice a n c) LL.length cs) (hV : ∀ q, V q → V' q) (hB : ∀ q, B ≤ q → V' q) : RwsD w V' a LL := by
  intro i hi
  have hl := h.1
  obtain ⟨q, cq, e, nn⟩ := h.2 i (by omega) hi
  have h0 := ho
  rcases ho.2 with ⟨_, e3⟩ | ⟨g, cap, cur, e3, hb, hg, _⟩
  · omega
  · obtain ⟨rfl, rfl, rfl⟩ : a = some ⟨g, 0, none⟩ ∧ n = LL.length ∧ c = cap := by
      simp only [Value.slice.injEq] at e3; exact e3
    refine ⟨g, 0, q, cq, rfl, (Array.getElem?_eq_some_iff.1 hg).1, hB _ hb, ?_, nn.mono hV⟩
    rw [Nat.zero_add, h0.cellAt _ (by omega), e]
end
theorem info55 : (Try.prog.info? 55).map (fun i => (i.zero, i.size, i.bytes)) = some (some (.slice none 0 0), 1, 24) := by kernel_rfl
theorem one_sl (a : Option Addr) (m c : Nat) : ∀ u ∈ ([.slice a m c] : List Value), u.oneCell' = true := by
  intro u hu
  rw [List.mem_singleton.1 hu]; rfl
/-- what Rows leaves -/
def RowD (w : World) (V : Nat → Prop) (LL : List (List Int)) (e : Ending) (w' : World) : Prop := ∃ a' c', e = .returned (.slice a' LL.length c') ∧ RwsD w' (fun q => V q ∨ w.heap.size ≤ q) a' LL ∧ Below w.heap.size w w'
/-- one row more, of rows that the call made -/
structure RoA (w0 w : World) (V : Nat → Prop) (LL : List (List Int)) (v : Value) (cs : List Value) : Prop where
  own : w.ownsRow w0.heap.size 55 1 v LL.length cs
  cel : CelD w V cs LL
  b : Below w0.heap.size w0 w
theorem RoA.push {w0 w w4 : World} {V : Nat → Prop} {LL : List (List Int)} {v v' : Value} {cs : List Value} {q : Option Addr} {c : Nat} {xs : List Int} (o : Obj) (hV : ∀ q, V q → q < w0.heap.size) (h : RoA w0 w V LL v cs) (hn : NumsD w V q xs)
    (ho : w4.ownsRow w0.heap.size 55 1 v' (LL.length + 1) (cs ++ [.slice q xs.length c])) (hg : (w.alloc o).grownBy w4 v.ownBlock) : RoA w0 w4 V (LL ++ [xs]) v' (cs ++ [.slice q xs.length c]) := by
  have hb := h.b.size
  have f : Fr w w4 (fun q => v.ownBlock = some q) := ((Fr.refl w _).al o).on ((Fr.of_grown hg).mono (fun q _ h => h.symm))
  have hP : ∀ q, V q → ¬ v.ownBlock = some q := fun q hq e => by
    have := (World.ownsRow.lt h.own q e).1
    have := hV q hq
    omega
  refine ⟨by rw [List.length_append]; exact ho, (h.cel.fr f hP).snoc (hn.fr f hP), h.b.trans (f.below (fun q hq => (World.ownsRow.lt h.own q hq).1) hb)⟩
set_option maxHeartbeats 4000000 in
set_option maxRecDepth 100000 in
theorem rowsD_any {w : World} {V : Nat → Prop} {a : Option Addr} {LL : List (List Int)} (c : Nat) (h : RwsD w V a LL) (hV : ∀ q, V q → q < w.heap.size) (hl : LL.length ≤ 1000) :
    Calls Try.prog 20 #[.slice a LL.length c] w (RowD w V LL) := by
  obtain ⟨i55, hi, hz0, hz1, hz2⟩ := info_parts info55
  have R0 : Hid (RoA w w V [] (.slice none 0 0) []) := Lib.hid ⟨World.ownsRow_nil _ _ _ _, celD_nil _ _, Below.refl _ _⟩
  have SRC := Lib.hid (fun (wr : World) (b : Below w.heap.size w wr) => h.next b)
  obtain ⟨n, hn⟩ : ∃ n, n = LL.length := ⟨_, rfl⟩
  have HN := Lib.hid hn
  have Q9 : Hid (∀ wr va vc cs, RoA w wr V LL (.slice va n vc) cs → RowD w V LL (.returned (.slice va n vc)) wr) := Lib.hid (fun wr va vc cs k => ⟨va, vc, by rw [hn], k.cel.rws k.own (fun _ hq => .inl hq) (fun _ hq => .inr hq), k.b⟩)
  rw [← hn] at hl ⊢
  have hVh := Lib.hid hV
  have hlI : (n : Int) ≤ 1000 := by omega
  generalize RowD w V LL = Q at *
  clear h hV hn
  go_enter Try.func20, Try.ntmps20
  go_wp2_with fail
  go_loopw [3, 4] (fun v i wr => ∃ (j : Nat) (cs : List Value), i = .int .i64 j ∧ j ≤ n ∧ Hid (RoA w wr V (LL.take j) v cs))
    (fun v i wr => n - (intOf i).toNat)
  case atStart => exact ⟨0, [], rfl, Nat.zero_le _, R0⟩
  case round =>
    obtain ⟨j, cs, rfl, hj, hR⟩ := hrel
    clear R0
    have ljn : (LL.take j).length = j := by rw [List.length_take, Nat.min_eq_left (by rw [← HN.out]; exact hj)]
    have O1 := hR.out.own
    rw [ljn] at O1
    obtain ⟨va, vc, rfl⟩ := own_slice O1
    by_cases hjn : j < n
    · have jI : (j : Int) < (n : Int) := by omega
      have jB := decide_eq_true jI
      have hjL : j < LL.length := by rw [← HN.out]; exact hjn
      obtain ⟨x, hx⟩ : ∃ x, x = LL[j]'hjL := ⟨_, rfl⟩
      have hTk : LL.take (j + 1) = LL.take j ++ [x] := by rw [hx]; exact List.take_succ_eq_append_getElem hjL
      obtain ⟨g, o, q, cq, rfl, hgs, hgv, ck, nn⟩ := SRC.out wr hR.out.b j hjL
      rw [← hx] at ck nn
      have PU := Lib.hid (fun (w4 : World) (v' : Value) (o : Obj) ho hg => hR.out.push (w4 := w4) (v' := v') (c := cq) o hVh.out nn ho hg)
      rw [ljn, ← hTk] at PU
      have OW := Lib.hid O1
      have hbs := hR.out.b.size
      clear hR O1 nn hgs hgv hTk hx
      generalize x.length = m at *
      go_wp2_with (at_builtin; refine wpList_append_own _ rfl _ _ 56 rfl w.heap.size 55 i55 (.slice none 0 0) 1 24 Try.underlying56 hi hz0 hz1 hz2 rfl (by decide) (.slice va j vc) j cs rfl (OW.out.alloc _) ⟨wr.heap.size, 0, none⟩ 1 1 [.slice q m cq] rfl rfl (World.news_of_block (cs := #[.slice q m cq]) (heap_alloc_new wr _)) (one_sl q m cq) (by unfold maxLen; omega) (by omega) (by simp; omega) ?_; intro v' w3 ho hg2 _; have K4h := Lib.hid (PU.out w3 v' _ ho hg2); clear ho hg2)
      go_roundw
      case rel => exact ⟨j + 1, _, by go_num, by omega, K4h⟩
      case measure => simp [intOf]; omega
    · obtain rfl : j = n := by omega
      have jI : ¬ (j : Int) < (j : Int) := by omega
      have hT : LL.take j = LL := List.take_of_length_le (Nat.le_of_eq HN.out.symm)
      have F9 : Hid (Q (.returned (.slice va j vc)) wr) := Lib.hid (Q9.out wr va vc cs (by have := hR.out; rw [hT] at this; exact this))
      clear hR O1
      go_wp2_with fail
      (try go_ret)
      exact F9.out
end Go.Proofs.Ytbghjcfepjbppaa
