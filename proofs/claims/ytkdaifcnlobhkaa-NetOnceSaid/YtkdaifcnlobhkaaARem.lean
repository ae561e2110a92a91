/-
  THE WALKS OF heap.Push, heap.Remove.
-/
import Derived.Test.YtkdaifcnlobhkaaAPop
namespace Go.Proofs.Ytkdaifcnlobhkaa.Ag
open Go.RowKit
/-- what heap.Push leaves -/
def HPushed (w : World) (B A : Nat) (Z : Int) (r : Option Nat) (x : It) (l : List It) (e : Ending) (w' : World) : Prop :=
  ∃ v l2, e = .returned (.tuple #[]) ∧ AG w' B A Z v l2 ∧ HeapOn l2 l2.length ∧ l2.Perm (x :: l) ∧ Tch w w' A r v.ownBlock
set_option maxHeartbeats 2000000 in
set_option maxRecDepth 100000 in
theorem hpush_any (B A : Nat) (Z : Int) (v : Value) (l : List It) (x : It) (w : World) (h : AG w B A Z v l) (hh : HeapOn l l.length) (hl : l.length ≤ 4096) (hB : B ≤ w.heap.size) :
    Calls Try.prog 44 #[.iface 103 (.pointer (some ⟨A, 0, none⟩)), .iface 87 (agg x)] w (HPushed w B A Z v.ownBlock x l) := by
  have P := rowpush_any B A Z v l x w h hl hB
  have hup : Hid (UpInv (l ++ [x]) (l.length + 1) l.length) := by
    refine Lib.hid ⟨by omega, by simp, fun k k0 kn ke => ?_, fun k k0 kn ke k1 => by omega⟩
    have e : ∀ q, q < l.length → at_ (l ++ [x]) q = at_ l q := fun q hq => by
      unfold at_; rw [List.getD_eq_getElem?_getD, List.getElem?_append_left hq, List.getD_eq_getElem?_getD]
    rw [e k (by omega), e _ (by omega)]
    exact hh k k0 (by omega)
  have hpm : Hid ((l ++ [x]).Perm (x :: l)) := Lib.hid (List.perm_append_singleton _ _)
  have hlen : Hid ((l ++ [x]).length = l.length + 1) := Lib.hid (by simp)
  have HB := Lib.hid hB
  clear h hh hl hB
  unfold agg at *
  generalize l ++ [x] = l1 at *
  go_enter Try.func44, Try.ntmps44
  go_wp2_with fail
  refine P.mono ?_
  rintro r w1 ⟨g, cap, rfl, a1, t1⟩
  obtain ⟨g', cap', ev, h1⟩ := a1.ha (by rw [hlen.out]; omega)
  have M1 := meth_len A _ w1 a1.cell
  have hs := h1.small
  rw [hlen.out] at M1 h1 hs
  have H1 := Lib.hid h1
  have T1 := Lib.hid t1
  have EV := Lib.hid ev
  rw [hlen.out] at EV
  clear h1 t1 ev P
  go_wp2_with fail
  refine (len_row _ _ _ _ rfl _).mono ?_
  rintro r w2 ⟨rfl, rfl⟩
  go_wp2_with fail
  refine (up_any B A g' cap' (l.length + 1) Z l1 (l.length + 1) l.length w1 H1.out hup.out).mono ?_
  rintro r w2 ⟨l2, rfl, p2, hh2, _, h2, g2⟩
  have T2 : Hid (Tch w1 w2 A (some g') (some g')) := Lib.hid (Tch.of_grown g2)
  clear g2
  go_wp2_with fail
  go_end0
  refine ⟨_, l2, rfl, h2.ag, by rw [h2.len]; exact hh2, p2.trans hpm.out, T1.out.trans ?_⟩
  have e := EV.out
  simp only [Value.slice.injEq, Option.some.injEq, Addr.mk.injEq] at e
  obtain ⟨⟨rfl, _⟩, _⟩ := e
  exact T2.out
set_option maxHeartbeats 2000000 in
set_option maxRecDepth 100000 in
theorem hrem_last (B A g cap n : Nat) (Z : Int) (l : List It) (w : World) (h : HA w B A g cap (n + 1) Z l) (hh : HeapOn l (n + 1)) :
    Calls Try.prog 50 #[.iface 103 (.pointer (some ⟨A, 0, none⟩)), .int .i64 n] w (HPopped w B A Z (some g) (at_ l n) l) := by
  have hsm := h.small
  have M1 := meth_len A _ w h.cell
  have H := Lib.hid h
  have hp := Lib.hid (perm_last h.len)
  have hk : Hid (HeapOn (l.take n) (l.take n).length) := Lib.hid (heap_take (fun k k0 kn => hh k k0 (by omega)))
  clear h hh
  go_enter Try.func50, Try.ntmps50
  go_wp2_with fail
  refine (len_row _ _ _ _ rfl _).mono ?_
  rintro r w1 ⟨rfl, rfl⟩
  go_wp2_with fail
  refine (rowpop_any B A g cap n Z l w H.out).mono ?_
  rintro r w3 ⟨v, rfl, a3, t3⟩
  go_wp2_with fail
  go_ret
  exact ⟨v, l.take n, rfl, a3, hk.out, hp.out, t3⟩
set_option maxHeartbeats 4000000 in
set_option maxRecDepth 100000 in
theorem hrem_in (B A g cap n i : Nat) (Z : Int) (l : List It) (w : World) (h : HA w B A g cap (n + 1) Z l) (hh : HeapOn l (n + 1)) (hi : i < n) :
    Calls Try.prog 50 #[.iface 103 (.pointer (some ⟨A, 0, none⟩)), .int .i64 i] w (HPopped w B A Z (some g) (at_ l i) l) := by
  have hsm := h.small
  have hll := h.len
  have M1 := meth_len A _ w h.cell
  have M2 := meth_swap A _ w h.cell
  have S := swap_i h (x := i) (y := n) i n rfl rfl (by omega) (by omega)
  have hne : ((n : Int) != (i : Int)) = true := by simp; omega
  have hd : DnInv (swp l i n) n i i := by
    refine ⟨Nat.le_refl _, by rw [swp_len]; omega, fun k k0 kn ke kb => ?_, fun k k0 kn ke h0 => ?_⟩
    · rw [at_swp (by omega) (by omega), at_swp (by omega) (by omega), if_neg (by omega), if_neg (by omega), if_neg (by omega), if_neg (by omega)]
      exact hh k k0 (by omega)
    · rw [at_swp (by omega) (by omega), at_swp (by omega) (by omega), if_neg (by omega), if_neg (by omega), if_neg (by omega), if_neg (by omega)]
      have q1 := hh k k0 (by omega)
      have q2 := hh i h0 (by omega)
      rw [ke] at q1
      exact le_trans q2 q1
  have hu : Hid (∀ q, 0 < q → q < n → (q - 1) / 2 = i → 0 < i → ¬ (at_ (swp l i n) q).lt (at_ (swp l i n) ((i - 1) / 2))) := Lib.hid hd.2.2.2
  have HD := Lib.hid hd
  have hx : Hid (at_ (swp l i n) n = at_ l i) := Lib.hid (by rw [at_swp (by omega) (by omega), if_pos rfl])
  have hp : Hid ((swp l i n).Perm l) := Lib.hid (swp_perm (by omega) (by omega))
  have hsl : Hid ((swp l i n).length = n + 1) := Lib.hid (by rw [swp_len]; exact hll)
  clear hd h hh hll
  go_enter Try.func50, Try.ntmps50
  go_wp2_with fail
  refine (len_row _ _ _ _ rfl _).mono ?_
  rintro r w1 ⟨rfl, rfl⟩
  go_wp2_with fail
  refine S.mono ?_
  rintro r w1 ⟨rfl, h1, g1⟩
  clear M1 M2 S
  go_wp2_with fail
  refine (down_any B A g cap (n + 1) Z (swp l i n) n i w1 h1 HD.out (by omega)).mono ?_
  rintro r w2 ⟨l2, m, rfl, p2, d1, d2, e2, h2, g2⟩
  have T2 := Lib.hid ((Tch.of_grown (A := A) g1).trans (Tch.of_grown g2))
  have hx2 := Lib.hid ((e2 n (Nat.le_refl _)).trans hx.out)
  have hp2 := Lib.hid (p2.trans hp.out)
  cases m
  · obtain ⟨e, q⟩ := d2 rfl
    subst e
    have HU := Lib.hid (show UpInv (swp l i n) n i from ⟨hi, by rw [hsl.out]; omega, q, hu.out⟩)
    clear d1 d2 e2 p2 g1 g2 q
    go_wp2_with fail
    refine (up_any B A g cap (n + 1) Z (swp l i n) n i w2 h2 HU.out).mono ?_
    rintro r w3 ⟨l3, rfl, p3, hh3, e3, h3, g3⟩
    have T3 := Lib.hid (T2.out.trans (Tch.of_grown g3))
    have hx3 := Lib.hid ((e3 n (Nat.le_refl _)).trans hx.out)
    have hp3 := Lib.hid (p3.trans hp.out)
    clear e3 p3 g3
    go_wp2_with fail
    refine (rowpop_any B A g cap n Z l3 w3 h3).mono ?_
    rintro r w4 ⟨v, rfl, a4, t4⟩
    rw [hx3.out]
    have T4 := Lib.hid (T3.out.trans t4)
    clear t4
    go_wp2_with fail
    go_ret
    refine ⟨v, l3.take n, rfl, a4, heap_take hh3, ?_, T4.out⟩
    have := perm_last h3.len
    rw [hx3.out] at this
    exact this.trans hp3.out
  · have hl2 := Lib.hid (d1 rfl)
    clear d1 d2 e2 p2 g1 g2
    go_wp2_with fail
    refine (rowpop_any B A g cap n Z l2 w2 h2).mono ?_
    rintro r w3 ⟨v, rfl, a3, t3⟩
    rw [hx2.out]
    have T3 := Lib.hid (T2.out.trans t3)
    clear t3
    go_wp2_with fail
    go_ret
    refine ⟨v, l2.take n, rfl, a3, heap_take hl2.out, ?_, T3.out⟩
    have := perm_last h2.len
    rw [hx2.out] at this
    exact this.trans hp2.out
end Go.Proofs.Ytkdaifcnlobhkaa.Ag
