/-
  TOKENS AS THE DOCUMENT HAS THEM, AND WHETHER TWO LISTS ARE THE SAME.
-/
import Derived.Test.YtffneogphgodnaaDoorRef6
import Derived.Test.YtffneogphgodnaaDoorClaw
namespace Go.Proofs.YtffneogphgodnaaDoor
open Go.RowKit
theorem take_push {l : List Tok} {k : Nat} (h : k < l.length) : l.take k ++ [l[k]] = l.take (k + 1) := by
  rw [List.take_add_one, List.getElem?_eq_getElem h]; rfl
/-- what refs leaves -/
def Refsd (w : World) (n : Nat) (L : List Tok) (e : Ending) (w' : World) : Prop := ∃ q cq, e = .returned (.slice q n cq) ∧ Toks w' q L ∧ Below w.heap.size w w'
theorem refsd_end {w W : World} {L : List Tok} {n : Nat} {q : Option Addr} {cq m : Nat} (hn : L.length = n) (hm : m = n) (h : SrI w W w.heap.size L (.slice q m cq)) : Refsd w n L (.returned (.slice q m cq)) W := by
  subst hm; subst hn
  exact ⟨q, cq, rfl, toks_row rfl h.o, h.b⟩
set_option maxHeartbeats 4000000 in
set_option maxRecDepth 100000 in
theorem refs_any (L : List Tok) (n : Nat) (hn : L.length = n) (hn4 : n ≤ 4097) (p : Option Addr) (cp : Nat) (w : World) (T : Toks w p L) : Calls Tryd.prog 11 #[.slice p n cp] w (Refsd w n L) := by
  obtain ⟨i39, hi, hz0, hz1, hz2⟩ := info_parts info39
  have HN := Lib.hid hn
  have RE := Lib.hid (fun W q cq m hm h => refsd_end (w := w) (W := W) (q := q) (cq := cq) (m := m) hn hm h)
  have TH := Lib.hid T
  clear T hn
  have hY0 : Hid (SrI w w w.heap.size [] (.slice none 0 0)) := Lib.hid ⟨World.ownsRow_nil _ _ _ _, Below.refl _ _, Nat.le_refl _⟩
  generalize hy : w.heap.size = Y at *
  go_enter Tryd.func11, Tryd.ntmps11
  go_wp2_with fail
  go_loopw [4, 3] (fun i ts wq => ∃ (k : Nat) (u : Value), i = .int .i64 k ∧ ts = u ∧ k ≤ n ∧ SrI w wq Y (L.take k) u) (fun i _ _ => n - (intOf i).toNat)
  case atStart => exact ⟨0, .slice none 0 0, rfl, rfl, Nat.zero_le _, by rw [List.take_zero]; exact hY0.out⟩
  case round =>
    obtain ⟨k, u, rfl, rfl, hk, hI⟩ := hrel
    have hT := TH.out.below (by rw [hy]; exact hI.b)
    obtain ⟨ua, uc, hu⟩ := row_form hI.o
    subst hu
    have hlen : (L.take k).length = k := by rw [List.length_take, HN.out]; omega
    have HLk := Lib.hid hlen
    have HI := Lib.hid hI
    have HT := Lib.hid hT
    rw [hlen] at HI ⊢
    clear hI hT hlen
    by_cases hkn : k < n
    · have hkL : k < L.length := by rw [HN.out]; exact hkn
      obtain ⟨g0, o, rfl, hg0, c0, c1, c2, c3, c4⟩ := HT.out k hkL
      have HP := Lib.hid (take_push hkL)
      generalize L[k] = x at *
      obtain ⟨xk, xa, xt, xn, xs⟩ := x
      simp only at c0 c1 c2 c3 c4
      have PU := Lib.hid (fun w8 g cap => (HI.out.below ((Below.refl _ wr).alloc (Nat.le_refl _) (.cells #[.int .i64 xk, .int .i64 xa, .string xt, .int .i64 xn, .string xs] 39))).push (w8 := w8) (g := g) (cap := cap) (x := ⟨xk, xa, xt, xn, xs⟩))
      rw [HLk.out, HP.out] at PU
      have H1C := Lib.hid (one_cells ⟨xk, xa, xt, xn, xs⟩)
      have OW : Hid (wr.ownsRow Y 39 5 (.slice ua k uc) k (cellsT (L.take k))) := Lib.hid (by have := HI.out.o; rw [HLk.out] at this; exact this)
      have hYv : Y ≤ wr.heap.size := HI.out.y
      clear hkL
      go_wp2_with (at_builtin; refine wpList_append_lies _ rfl (.tmp 11) (.tmp 16) 26 rfl Y 39 i39 (.agg #[.int .i64 0, .int .i64 0, .string ⟨#[]⟩, .int .i64 0, .string ⟨#[]⟩]) 5 56 Tryd.underlying26 hi hz0 hz1 hz2 rfl (by decide) (.slice ua k uc) k (cellsT (L.take k)) rfl (World.ownsRow.alloc OW.out _) ⟨wr.heap.size, 0, none⟩ 1 1 (encT ⟨xk, xa, xt, xn, xs⟩) rfl rfl (World.news_of_block (cs := #[.int .i64 xk, .int .i64 xa, .string xt, .int .i64 xn, .string xs]) (heap_alloc_new wr _)) H1C.out (by decide) (by unfold maxLen; omega) (by omega) (by simp; omega) _ rfl ?_; intro g8 cap8 w8 ho8 hg8 _ _; have I8h := Lib.hid (PU.out w8 g8 cap8 ho8 hg8); clear ho8 hg8)
      go_roundw
      case rel => exact ⟨k + 1, _, by go_num, rfl, by omega, I8h.out⟩
      case measure => simp [intOf]; omega
    · obtain rfl : k = n := by omega
      have I9 := HI.out
      rw [List.take_of_length_le (by rw [HN.out]; exact Nat.le_refl _)] at I9
      have I9h := Lib.hid I9
      clear I9
      go_wp2_with fail
      go_ret
      exact RE.out _ _ _ _ rfl I9h.out
set_option maxHeartbeats 4000000 in
set_option maxRecDepth 100000 in
theorem rsame_any (L : List Tok) (n : Nat) (hn : L.length = n) (hn4 : n ≤ 4097) (p q : Option Addr) (cp cq : Nat) (w : World) (T1 : Toks w p L) (T2 : Toks w q L) : Calls Tryd.prog 10 #[.slice p n cp, .slice q n cq] w fun e w' => e = .returned (.bool true) ∧ Below w.heap.size w w' := by
  have HN := Lib.hid hn
  have H1 := Lib.hid T1
  have H2 := Lib.hid T2
  clear T1 T2 hn
  have hB0 := Lib.hid (Below.refl w.heap.size w)
  generalize hy : w.heap.size = Y at *
  go_enter Tryd.func10, Tryd.ntmps10
  go_wp2_with fail
  go_loopw [5] (fun i wq => ∃ k : Nat, i = .int .i64 k ∧ k ≤ n ∧ Below Y w wq ∧ Toks wq p L ∧ Toks wq q L) (fun i _ => n - (intOf i).toNat)
  case atStart => exact ⟨0, rfl, Nat.zero_le _, hB0.out, H1.out, H2.out⟩
  case round =>
    obtain ⟨k, rfl, hk, hB, hT1, hT2⟩ := hrel
    have HB := Lib.hid hB
    have HT1 := Lib.hid hT1
    have HT2 := Lib.hid hT2
    clear hB hT1 hT2
    by_cases hkn : k < n
    · have hkL : k < L.length := by rw [HN.out]; exact hkn
      obtain ⟨g0, o, rfl, hg0, c0, c1, c2, c3, c4⟩ := HT1.out k hkL
      obtain ⟨g1, o1, rfl, hg1, d0, d1, d2, d3, d4⟩ := HT2.out k hkL
      generalize L[k] = x at *
      obtain ⟨xk, xa, xt, xn, xs⟩ := x
      simp only at c0 c1 c2 c3 c4 d0 d1 d2 d3 d4
      clear hkL
      go_upto_region 6 with fail
      go_quiet (fail)
      have B6h := Lib.hid (below_drewN HB.out nq)
      have T6h : Hid (Toks (wr.drewN nq) (some ⟨g0, o, none⟩) L) := HT1
      have T6i : Hid (Toks (wr.drewN nq) (some ⟨g1, o1, none⟩) L) := HT2
      clear c0 c1 c2 c3 c4 d0 d1 d2 d3 d4 HB HT1 HT2 hg0 hg1
      generalize wr.drewN nq = w6 at *
      go_wp2_with fail
      go_roundw
      case rel => exact ⟨k + 1, by go_num, by omega, B6h.out, T6h.out, T6i.out⟩
      case measure => simp [intOf]; omega
    · have hkm' : ¬ (k : Int) < (n : Int) := by omega
      go_wp2_with fail
      go_ret
      exact ⟨rfl, HB.out⟩
end Go.Proofs.YtffneogphgodnaaDoor
