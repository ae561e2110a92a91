/-
  slices.Clone of sessions.
-/
import Derived.Test.YtkaocpfkigdpoaaIns
namespace Go.Proofs.Ytkaocpfkigdpoaa
open Go.RowKit
/-- what a copy leaves -/
def Cle (w : World) (L : List Sn) (e : Ending) (w' : World) : Prop := ∃ v', e = .returned v' ∧ Own w' w.heap.size v' L ∧ Below w.heap.size w w'
set_option maxHeartbeats 4000000 in
set_option maxRecDepth 100000 in
theorem clone_any {w : World} {B : Nat} {v : Value} {L : List Sn} (h : Own w B v L) (hl : L.length ≤ 1000) : Calls Try.prog 35 #[v] w (Cle w L) := by
  obtain ⟨i0, hi, hz0, hz1, hz2⟩ := info_parts info62
  have q44 : ∀ (w : World) (a : Option Addr) (n c n' c' : Nat), (binOp .eql 44 (.slice a n c) (.slice none n' c')).run Try.prog w = .ok (.bool a.isNone) w := fun w a n c n' c' => Lib.run_eql_slice_nil w _ _ a n c n' c' Try.underlying44
  rcases h.2 with ⟨rfl, e⟩ | ⟨g, cap, cur, rfl, hb, hg, hnc, hcm, hcs, hct⟩
  · have hL : L = [] := List.length_eq_zero_iff.1 e
    subst hL
    have FIN := Lib.hid (show Cle w [] (.returned (.slice none 0 0)) w from ⟨_, rfl, World.ownsRow_nil _ _ _ _, Below.refl _ _⟩)
    generalize Cle w [] = Q at *
    clear h
    go_enter Try.func35, Try.ntmps35
    go_wp2_with fail
    exact FIN.out
  · have G : Blk w g 62 cur := hg
    obtain ⟨W1, hW1⟩ : ∃ W1, W1 = w.alloc (.cells #[] 62) := ⟨_, rfl⟩
    have O1 : W1.ownsRow w.heap.size 62 2 (.slice (some ⟨w.heap.size, 0, none⟩) 0 0) 0 [] := by rw [hW1]; exact World.ownsRow_made w #[] 0 (Nat.le_refl _) (Nat.zero_le _) rfl
    have b1 : Below w.heap.size w W1 := by rw [hW1]; exact (Below.refl _ w).alloc (Nat.le_refl _) _
    have G1 := G.next b1
    have N1 : ∀ j u, (cells L)[j]? = some u → W1.cell? ((⟨g, 0, none⟩ : Addr).add j) = some u := by
      intro j u hj
      have hjl : j < L.length * 2 := by rw [← cells_len]; exact (List.getElem?_eq_some_iff.1 hj).1
      rw [show (⟨g, 0, none⟩ : Addr).add j = ⟨g, j, none⟩ by unfold Addr.add; split <;> simp_all, G1.cell, ← Array.getElem?_toList]
      rw [← hct, List.getElem?_take, if_pos hjl] at hj
      exact hj
    have FIN : Hid (∀ v' w1, w1.ownsRow w.heap.size 62 2 v' (0 + L.length) ([] ++ cells L) → W1.grownBy w1 (Value.slice (some ⟨w.heap.size, 0, none⟩) 0 0).ownBlock → Cle w L (.returned v') w1) := Lib.hid fun v' w1 ho hg => by
      rw [Nat.zero_add, List.nil_append] at ho
      exact ⟨v', rfl, ho, b1.trans (((Fr.of_grown hg).mono (Q := fun q => q = w.heap.size) (fun q _ e => by simpa [Value.ownBlock] using e)).below (fun q e => by omega) b1.size)⟩
    have hz : W1.heap.size = w.heap.size + 1 := by rw [hW1]; simp
    have HN := Lib.hid N1
    have HO := Lib.hid O1
    have HW := Lib.hid hW1
    have HL : Hid ((cells L).length = L.length * 2) := Lib.hid (cells_len L)
    have H1 := Lib.hid (cells_one L)
    have hl2 : (L.length : Int) ≤ 1000 := by omega
    clear h hg G hct N1 O1 b1 G1 hb hnc hcs hW1
    generalize cells L = cl at *
    generalize L.length = n at *
    generalize Cle w L = Q at *
    go_enter Try.func35, Try.ntmps35
    go_wp2_with (at_builtin; rw [← HW.out]; refine wpList_append_own _ rfl _ _ 44 rfl w.heap.size 62 i0 _ 2 16 Try.underlying44 hi hz0 hz1 hz2 rfl (by decide) _ 0 [] rfl HO.out ⟨g, 0, none⟩ n cap cl rfl HL.out HN.out H1.out (by unfold maxLen; omega) (by omega) (by omega) ?_; intro v' w1 ho hg2 _)
    all_goals exact FIN.out v' w1 ho hg2
end Go.Proofs.Ytkaocpfkigdpoaa
