/-
  THE WALKS OF row.Pop, heap.Push, heap.Pop, heap.Remove.
-/
import Derived.Test.YtkdaifcnlobhkaaAHeap
namespace Go.Proofs.Ytkdaifcnlobhkaa.Ag
open Go.RowKit
theorem HA.cap {w : World} {B A g cap N : Nat} {Z : Int} {l : List It} (h : HA w B A g cap N Z l) : N ≤ cap ∧ cap ≤ 9223372036854775807 := by
  obtain rfl := h.len
  rcases h.row.2 with ⟨e, _⟩ | ⟨g', cap', cur, e, _, _, h1, h2, _⟩
  · cases e
  · cases e
    unfold maxLen at h2
    exact ⟨h1, h2⟩
/-- a row cut at its end -/
theorem ag_cut {w : World} {B A g cap n : Nat} {Z : Int} {l : List It} (h : HA w B A g cap (n + 1) Z l) :
    AG (w.setCell ⟨A, 0, none⟩ (.slice (some ⟨g, 0, none⟩) n cap)) B A Z (.slice (some ⟨g, 0, none⟩) n cap) (l.take n) ∧ Tch w (w.setCell ⟨A, 0, none⟩ (.slice (some ⟨g, 0, none⟩) n cap)) A (some g) (some g) := by
  have hlen : (l.take n).length = n := by rw [List.length_take]; have := h.len; omega
  have hs := heap_setCell_same w A 0 _ 92 (.slice (some ⟨g, 0, none⟩) n cap) h.blk
  refine ⟨⟨hs, ?_, by rw [hlen]; have := h.small; omega⟩, ⟨?_, ?_, ?_, ?_, ?_, .inl rfl⟩⟩
  · rw [hlen]
    refine ownsRow_setCell_other ?_ (by simp [Value.ownBlock]; exact fun e => h.ne e.symm) _
    have hr := h.row
    unfold RowG at hr
    obtain ⟨hl, hr⟩ := hr
    rcases hr with ⟨e, _⟩ | ⟨g', cap', cur, e, h1, h2, h3, h4, h5, h6⟩
    · cases e
    · simp only [Value.slice.injEq, Option.some.injEq, Addr.mk.injEq] at e
      obtain ⟨⟨rfl, _, _⟩, e2, rfl⟩ := e
      refine ⟨by rw [cells_len, hlen], .inr ⟨g, cap, cur, rfl, h1, h2, by have := h.len; omega, h4, h5, ?_⟩⟩
      have hc : cells l = cells (l.take n) ++ cells (l.drop n) := by rw [← cells_append, List.take_append_drop]
      have hll := h.len
      have e3 : cur.toList.take (n * 3) = (cells l).take (n * 3) := by
        rw [← h6, List.take_take, Nat.min_eq_left (by omega)]
      rw [e3, hc, List.take_append_of_le_length (by rw [cells_len, hlen]; omega), List.take_of_length_le (by rw [cells_len, hlen]; omega)]
  · exact ((Below.refl A w).setCell (p := ⟨A, 0, none⟩) (Nat.le_refl _) _).os
  · exact ((Below.refl A w).setCell (p := ⟨A, 0, none⟩) (Nat.le_refl _) _).tape
  · exact ((Below.refl A w).setCell (p := ⟨A, 0, none⟩) (Nat.le_refl _) _).output
  · rw [World.size_setCell]; exact Nat.le_refl _
  · intro k _ hkA _
    exact Below.heap_setCell _ _ _ _ hkA
def Popped (w : World) (B A : Nat) (Z : Int) (r : Option Nat) (x : It) (l : List It) (e : Ending) (w' : World) : Prop :=
  ∃ v, e = .returned (.iface 87 (agg x)) ∧ AG w' B A Z v l ∧ Tch w w' A r v.ownBlock
set_option maxHeartbeats 1000000 in
set_option maxRecDepth 100000 in
theorem rowpop_any (B A g cap n : Nat) (Z : Int) (l : List It) (w : World) (h : HA w B A g cap (n + 1) Z l) :
    Calls Try.prog 110 #[.pointer (some ⟨A, 0, none⟩)] w (Popped w B A Z (some g) (at_ l n) (l.take n)) := by
  have hn := h.small
  have hc := h.cell
  have fA := h.ag.free 0
  have hl : n < l.length := by have := h.len; omega
  obtain ⟨c1, c2, c3⟩ := h.row.cell hl
  rw [at_get hl]
  have ne : ¬ A = g := h.ne
  generalize l[n] = x at *
  have lt := h.ag.lt
  have hcap : n ≤ cap := by have := h.cap.1; omega
  have HH := Lib.hid h
  clear h
  go_enter Try.func110, Try.ntmps110
  go_wp2_with fail
  go_ret
  obtain ⟨a, t⟩ := ag_cut HH.out
  have b := (Below.refl (w.setCell ⟨A, 0, none⟩ (.slice (some ⟨g, 0, none⟩) n cap)).heap.size (w.setCell ⟨A, 0, none⟩ (.slice (some ⟨g, 0, none⟩) n cap))).alloc (Nat.le_refl _) (Obj.cells #[Value.int IntKind.i64 x.t, Value.int IntKind.i64 x.i, Value.int IntKind.i64 x.x] 87)
  exact ⟨_, rfl, a.below b, t.trans (Tch.of_below b)⟩
theorem at_take {l : List It} {n k : Nat} (hk : k < n) : at_ (l.take n) k = at_ l k := by
  unfold at_
  rw [List.getD_eq_getElem?_getD, List.getElem?_take, if_pos hk, List.getD_eq_getElem?_getD]
theorem heap_take {l : List It} {n : Nat} (h : HeapOn l n) : HeapOn (l.take n) (l.take n).length := by
  intro k k0 kn
  have : k < n := by rw [List.length_take] at kn; omega
  rw [at_take this, at_take (by omega)]
  exact h k k0 this
theorem perm_last {l : List It} {n : Nat} (h : l.length = n + 1) : (at_ l n :: l.take n).Perm l := by
  have e : l = l.take n ++ [at_ l n] := by
    rw [at_get (by omega), ← List.take_succ_eq_append_getElem (by omega), List.take_of_length_le (by omega)]
  have h2 : (l.take n ++ [at_ l n]).Perm (at_ l n :: l.take n) := List.perm_append_singleton _ _
  exact (h2.symm).trans (by rw [← e])
/-- what heap.Pop and heap.Remove leave -/
def HPopped (w : World) (B A : Nat) (Z : Int) (r : Option Nat) (x : It) (l : List It) (e : Ending) (w' : World) : Prop :=
  ∃ v l2, e = .returned (.iface 87 (agg x)) ∧ AG w' B A Z v l2 ∧ HeapOn l2 l2.length ∧ (x :: l2).Perm l ∧ Tch w w' A r v.ownBlock
set_option maxHeartbeats 2000000 in
set_option maxRecDepth 100000 in
theorem hpop_any (B A g cap n : Nat) (Z : Int) (l : List It) (w : World) (h : HA w B A g cap (n + 1) Z l) (hh : HeapOn l (n + 1)) :
    Calls Try.prog 46 #[.iface 103 (.pointer (some ⟨A, 0, none⟩))] w (HPopped w B A Z (some g) (at_ l 0) l) := by
  have hsm := h.small
  have hll := h.len
  have M1 := meth_len A _ w h.cell
  have M2 := meth_swap A _ w h.cell
  have S := swap_i h (x := 0) (y := n) 0 n rfl rfl (by omega) (by omega)
  have hd : DnInv (swp l 0 n) n 0 0 := by
    refine ⟨Nat.le_refl _, by rw [swp_len]; omega, fun k k0 kn ke kb => ?_, fun k _ _ _ h0 => by omega⟩
    rw [at_swp (by omega) (by omega), at_swp (by omega) (by omega), if_neg (by omega), if_neg (by omega), if_neg (by omega), if_neg (by omega)]
    exact hh k k0 (by omega)
  have HD := Lib.hid hd
  have HH := Lib.hid h
  have HL := Lib.hid hll
  have hx : Hid (at_ (swp l 0 n) n = at_ l 0) := Lib.hid (by rw [at_swp (by omega) (by omega), if_pos rfl])
  have hp : Hid ((swp l 0 n).Perm l) := Lib.hid (swp_perm (by omega) (by omega))
  clear hd h hh hll
  go_enter Try.func46, Try.ntmps46
  go_wp2_with fail
  refine (len_row _ _ _ _ rfl _).mono ?_
  rintro r w1 ⟨rfl, rfl⟩
  go_wp2_with fail
  refine S.mono ?_
  rintro r w1 ⟨rfl, h1, g1⟩
  clear M1 M2 S
  go_wp2_with fail
  refine (down_any B A g cap (n + 1) Z (swp l 0 n) n 0 w1 h1 HD.out (by omega)).mono ?_
  rintro r w2 ⟨l2, m, rfl, p2, d1, d2, e2, h2, g2⟩
  have T2 := Lib.hid ((Tch.of_grown (A := A) g1).trans (Tch.of_grown g2))
  have hl2 : Hid (HeapOn l2 n) := Lib.hid (by
    cases m
    · obtain ⟨rfl, q⟩ := d2 rfl
      exact fun k k0 kn => q k k0 kn (by omega)
    · exact d1 rfl)
  have hx2 := Lib.hid ((e2 n (Nat.le_refl _)).trans hx.out)
  have hp2 := Lib.hid (p2.trans hp.out)
  clear d1 d2 e2 p2 g1 g2
  go_wp2_with fail
  refine (rowpop_any B A g cap n Z l2 w2 h2).mono ?_
  rintro r w3 ⟨v, rfl, a3, t3⟩
  rw [hx2.out]
  have T3 := Lib.hid (T2.out.trans t3)
  clear t3
  go_wp2_with fail
  go_ret
  refine ⟨v, l2.take n, rfl, a3, heap_take hl2.out, ?_, T3.out⟩
  have := perm_last h2.len
  rw [hx2.out] at this
  exact this.trans hp2.out
end Go.Proofs.Ytkdaifcnlobhkaa.Ag
