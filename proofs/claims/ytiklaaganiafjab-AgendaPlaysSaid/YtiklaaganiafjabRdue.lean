/-
  FOR AgendaPlays: the document's own Due.
-/
import Derived.Test.YtiklaaganiafjabRefs
import Derived.BigRegion
namespace Go.Proofs.Ytiklaaganiafjab
open Go.RowKit
theorem its_left {w : World} {a : Option Addr} {X R' : List It} (h : Its w a (X ++ R')) : Its w a X := fun p hp => by
  obtain ⟨g, o, e, hl, c1, c2, c3⟩ := h p (by rw [List.length_append]; omega)
  rw [List.getElem_append_left hp] at c1 c2 c3
  exact ⟨g, o, e, hl, c1, c2, c3⟩
theorem its_right {w : World} {g o : Nat} {X R' : List It} (h : Its w (some ⟨g, o, none⟩) (X ++ R')) : Its w (some ⟨g, o + X.length * 3, none⟩) R' := fun p hp => by
  obtain ⟨g', o', e, hl, c1, c2, c3⟩ := h (X.length + p) (by rw [List.length_append]; omega)
  have e2 : (X ++ R')[X.length + p]'(by rw [List.length_append]; omega) = R'[p] := by
    rw [List.getElem_append_right (by omega)]; simp
  rw [e2] at c1 c2 c3
  simp only [Option.some.injEq, Addr.mk.injEq, and_true] at e
  obtain ⟨rfl, rfl⟩ := e
  have e3 : o + (X.length + p) * 3 = o + X.length * 3 + p * 3 := by omega
  rw [e3] at c1 c2 c3
  exact ⟨g, _, rfl, hl, c1, c2, c3⟩
set_option maxHeartbeats 2000000 in
set_option maxRecDepth 100000 in
theorem rdue_any (a : Option Addr) (c : Nat) (Z now : Int) (R X R' : List It) (w : World) (hX : R = X ++ R') (hR : R.length ≤ 4096) (hc : R.length ≤ c) (hc2 : c ≤ 9223372036854775807) (h : Its w a R) (h1 : ∀ x ∈ X, x.t ≤ now) (h2 : ∀ x ∈ R', now < x.t) :
    Calls Try.prog 23 #[.agg #[.slice a R.length c, .int .i64 Z], .int .i64 now] w fun e w' => ∃ a1 c1 a2 c2, e = .returned (.tuple #[.agg #[.slice a1 R'.length c1, .int .i64 Z], .slice a2 X.length c2]) ∧ Its w' a1 R' ∧ Its w' a2 X ∧ R'.length ≤ c1 ∧ c1 ≤ 9223372036854775807 ∧ Below w.heap.size w w' ∧ (R' ≠ [] → ∀ g o, a1 = some ⟨g, o, none⟩ → ∃ o', a = some ⟨g, o', none⟩) ∧ a2 = a := by
  have H := Lib.hid h
  have H1 : Hid (∀ (k : Nat) (x : It), R[k]? = some x → k < X.length → x.t ≤ now) := Lib.hid (fun k x h hk => by
    rw [hX, List.getElem?_append_left hk] at h
    exact h1 _ (List.mem_of_getElem? h))
  have H2 : Hid (∀ (k : Nat) (x : It), R[k]? = some x → k = X.length → now < x.t) := Lib.hid (fun k x h hk => by
    rw [hX, List.getElem?_append_right (by omega)] at h
    exact h2 _ (List.mem_of_getElem? h))
  have hl : R.length = X.length + R'.length := by rw [hX, List.length_append]
  have HXR := Lib.hid hX
  clear h h1 h2 hX
  generalize hn : R.length = n at *
  generalize hm : X.length = m at *
  generalize hm' : R'.length = m' at *
  have HN := Lib.hid hn
  have HM := Lib.hid hm
  have HM' := Lib.hid hm'
  clear hn hm hm'
  have HL := Lib.hid hl
  have hmn : m ≤ n := by omega
  clear hl
  obtain ⟨w1, hw1⟩ : ∃ w1 : World, w1 = (w.alloc (Obj.cells #[.slice a n c, .int .i64 Z] 27)).alloc (Obj.cells #[.slice none 0 0, .int .i64 0] 27) := ⟨_, rfl⟩
  have b1 : Below w.heap.size w w1 := by rw [hw1]; exact ((Below.refl w.heap.size w).alloc (Nat.le_refl _) _).alloc (by simp) _
  have k0 : w1.cell? ⟨w.heap.size, 0, none⟩ = some (.slice a n c) := by rw [hw1]; go_simp
  have k1 : w1.cell? ⟨w.heap.size, 1, none⟩ = some (.int .i64 Z) := by rw [hw1]; go_simp
  have kb : w1.heap[w.heap.size + 1]? = some (.cells #[.slice none 0 0, .int .i64 0] 27 (0, 0)) := by
    have e := heap_alloc_new (w.alloc (Obj.cells #[.slice a n c, .int .i64 Z] 27)) (Obj.cells #[.slice none 0 0, .int .i64 0] 27)
    rw [show (w.alloc (Obj.cells #[.slice a n c, .int .i64 Z] 27)).heap.size = w.heap.size + 1 by simp] at e
    rw [hw1]; exact e
  have KB := Lib.hid kb
  clear kb
  have K0 := Lib.hid k0
  have K1 := Lib.hid k1
  have W1 := Lib.hid hw1
  have B1 := Lib.hid b1
  clear b1 k0 k1
  go_enter Try.func23, Try.ntmps23
  go_wp2_with fail
  rw [← W1.out]
  clear W1
  have hlt : w.heap.size < w1.heap.size := World.block_lt_of_cell? _ _ K0.out
  go_loopw [6] (fun i wq => ∃ (k : Nat), i = .int .i64 k ∧ k ≤ m ∧ Below w1.heap.size w1 wq) (fun i _ => n - (intOf i).toNat)
  case atStart => exact ⟨0, rfl, Nat.zero_le _, Below.refl _ _⟩
  case round =>
    obtain ⟨k, rfl, hk, hB⟩ := hrel
    have HB := Lib.hid hB
    have HBW := Lib.hid (B1.out.trans (hB.mono B1.out.size))
    have q0 : wr.cell? ⟨w.heap.size, 0, none⟩ = some (.slice a n c) := by rw [hB.cell (p := ⟨w.heap.size, _, none⟩) hlt]; exact K0.out
    have q1 : wr.cell? ⟨w.heap.size, 1, none⟩ = some (.int .i64 Z) := by rw [hB.cell (p := ⟨w.heap.size, _, none⟩) hlt]; exact K1.out
    by_cases hkm : k < m
    · have hkn : k < n := by omega
      obtain ⟨g, o, rfl, hg, c1, c2, c3⟩ := H.out k (by rw [HN.out]; exact hkn)
      rw [← HBW.out.cell (p := ⟨g, _, none⟩) hg] at c1 c2 c3
      have ht := H1.out k _ (List.getElem?_eq_getElem (by rw [HN.out]; exact hkn)) hkm
      generalize R[k]'(by rw [HN.out]; exact hkn) = x at *
      obtain ⟨t, i, v⟩ := x
      simp only at c1 c2 c3 ht
      clear hB c2 c3
      go_wp2_with fail
      go_roundw
      case rel => exact ⟨k + 1, by go_num, by omega, HB.out⟩
      case measure => simp [intOf]; omega
    · obtain rfl : k = m := by omega
      have yb : wr.heap[w.heap.size + 1]? = some (.cells #[.slice none 0 0, .int .i64 0] 27 (0, 0)) := by rw [hB.block _ (Array.getElem?_eq_some_iff.1 KB.out).1]; exact KB.out
      have y0 : wr.cell? ⟨w.heap.size + 1, 0, none⟩ = some (.slice none 0 0) := by simp [World.cell?, yb]
      have y1 : wr.cell? ⟨w.heap.size + 1, 1, none⟩ = some (.int .i64 0) := by simp [World.cell?, yb]
      have yf0 : wr.frozen? ⟨w.heap.size + 1, 0, none⟩ = false := by simp [World.frozen?, yb]
      have yf1 : wr.frozen? ⟨w.heap.size + 1, 1, none⟩ = false := by simp [World.frozen?, yb]
      clear hB yb
      by_cases hkn : k < n
      · obtain ⟨g, o, rfl, hg, c1, c2, c3⟩ := H.out k (by rw [HN.out]; exact hkn)
        rw [← HBW.out.cell (p := ⟨g, _, none⟩) hg] at c1 c2 c3
        have ht := H2.out k _ (List.getElem?_eq_getElem (by rw [HN.out]; exact hkn)) rfl
        generalize R[k]'(by rw [HN.out]; exact hkn) = x at *
        obtain ⟨t, i, v⟩ := x
        simp only at c1 c2 c3 ht
        clear c2 c3
        go_wp2_with fail
        go_region
        obtain ⟨W5, hW5, z0, z1, B5⟩ : ∃ W5 : World, W5 = ((wr.setCell ⟨w.heap.size + 1, 0, none⟩ (.slice (some ⟨g, o + k * 3, none⟩) (n - k) (c - k))).setCell ⟨w.heap.size + 1, 1, none⟩ (.int .i64 Z)).drew ∧ W5.cell? ⟨w.heap.size + 1, 0, none⟩ = some (.slice (some ⟨g, o + k * 3, none⟩) (n - k) (c - k)) ∧ W5.cell? ⟨w.heap.size + 1, 1, none⟩ = some (.int .i64 Z) ∧ Below w.heap.size w W5 :=
          ⟨_, rfl, by go_simp, by go_simp, ((HBW.out.setCell (p := ⟨w.heap.size + 1, 0, none⟩) (by simp) _).setCell (p := ⟨w.heap.size + 1, 1, none⟩) (by simp) _).drew⟩
        rw [← hW5]
        clear hW5 y0 y1 yf0 yf1 q0 q1 c1
        have hI := H.out.below B5
        rw [HXR.out] at hI
        have I1 := its_right hI
        have I2 := its_left hI
        rw [HM.out] at I1
        have em : n - k = m' := by have := HL.out; omega
        have EM := Lib.hid em
        clear em hI
        go_wp2_with fail
        refine bodyPost_ret (by simp [results, Try.results23, go_sem, z0, z1]; try rfl) rfl ?_
        exact ⟨some ⟨g, o + k * 3, none⟩, c - k, some ⟨g, o, none⟩, c, by rw [EM.out], I1, I2, by have := EM.out; omega, by omega, B5, fun _ g' o' e => by simp only [Option.some.injEq, Addr.mk.injEq, and_true] at e; exact ⟨o, by rw [e.1]⟩, rfl⟩
      · obtain rfl : k = n := by omega
        have R0 : R' = [] := by
          have h5 : R'.length = 0 := by have := HL.out; have := HM'.out; omega
          exact List.eq_nil_of_length_eq_zero h5
        have em : m' = 0 := by have := HL.out; omega
        have EM := Lib.hid em
        clear em
        cases a with
        | none =>
          go_wp2_with fail
          go_region
          obtain ⟨W5, hW5, z0, z1, B5⟩ : ∃ W5 : World, W5 = ((wr.setCell ⟨w.heap.size + 1, 0, none⟩ (.slice none 0 (c - k))).setCell ⟨w.heap.size + 1, 1, none⟩ (.int .i64 Z)).drew ∧ W5.cell? ⟨w.heap.size + 1, 0, none⟩ = some (.slice none 0 (c - k)) ∧ W5.cell? ⟨w.heap.size + 1, 1, none⟩ = some (.int .i64 Z) ∧ Below w.heap.size w W5 :=
            ⟨_, rfl, by go_simp, by go_simp, ((HBW.out.setCell (p := ⟨w.heap.size + 1, 0, none⟩) (by simp) _).setCell (p := ⟨w.heap.size + 1, 1, none⟩) (by simp) _).drew⟩
          rw [← hW5]
          clear hW5 y0 y1 yf0 yf1 q0 q1
          have hI := H.out.below B5
          rw [HXR.out] at hI
          have I2 := its_left hI
          clear hI
          go_wp2_with fail
          refine bodyPost_ret (by simp [results, Try.results23, go_sem, z0, z1]; try rfl) rfl ?_
          exact ⟨none, c - k, none, c, by rw [EM.out], by rw [R0]; exact its_nil _ _, I2, by rw [EM.out]; omega, by omega, B5, fun hne => absurd R0 hne, rfl⟩
        | some ad =>
          go_wp2_with fail
          go_region
          generalize (if c = k then some ad else some (ad.add (k * 3))) = a1
          obtain ⟨W5, hW5, z0, z1, B5⟩ : ∃ W5 : World, W5 = ((wr.setCell ⟨w.heap.size + 1, 0, none⟩ (.slice a1 0 (c - k))).setCell ⟨w.heap.size + 1, 1, none⟩ (.int .i64 Z)).drew ∧ W5.cell? ⟨w.heap.size + 1, 0, none⟩ = some (.slice a1 0 (c - k)) ∧ W5.cell? ⟨w.heap.size + 1, 1, none⟩ = some (.int .i64 Z) ∧ Below w.heap.size w W5 :=
            ⟨_, rfl, by go_simp, by go_simp, ((HBW.out.setCell (p := ⟨w.heap.size + 1, 0, none⟩) (by simp) _).setCell (p := ⟨w.heap.size + 1, 1, none⟩) (by simp) _).drew⟩
          rw [← hW5]
          clear hW5 y0 y1 yf0 yf1 q0 q1
          have hI := H.out.below B5
          rw [HXR.out] at hI
          have I2 := its_left hI
          clear hI
          go_wp2_with fail
          refine bodyPost_ret (by simp [results, Try.results23, go_sem, z0, z1]; try rfl) rfl ?_
          exact ⟨a1, c - k, some ad, c, by rw [EM.out], by rw [R0]; exact its_nil _ _, I2, by rw [EM.out]; omega, by omega, B5, fun hne => absurd R0 hne, rfl⟩
end Go.Proofs.Ytiklaaganiafjab
