/-
  FOR AgendaPlays: the document's own Add.
-/
import Derived.Test.YtiklaaganiafjabRdrop
import Derived.Lib.QuietBelow
namespace Go.Proofs.Ytiklaaganiafjab
open Go.RowKit
theorem ins_split (x : It) (R : List It) : ∃ X R', R = X ++ R' ∧ ins x R = X ++ x :: R' ∧ (∀ y ∈ X, y.lt x) ∧ (∀ y R'', R' = y :: R'' → ¬ y.lt x) := by
  induction R with
  | nil => exact ⟨[], [], rfl, rfl, fun y h => by simp at h, fun y R'' h => by simp at h⟩
  | cons y R ih =>
    obtain ⟨X, R', h1, h2, h3, h4⟩ := ih
    by_cases h : y.lt x
    · refine ⟨y :: X, R', by rw [h1]; rfl, ?_, fun z hz => ?_, h4⟩
      · unfold ins; rw [if_pos h, h2]; rfl
      · rcases List.mem_cons.1 hz with rfl | hz
        · exact h
        · exact h3 z hz
    · refine ⟨[], y :: R, rfl, ?_, fun y h => by simp at h, fun z R'' e => ?_⟩
      · unfold ins; rw [if_neg h]; rfl
      · cases e; exact h
set_option maxHeartbeats 1000000 in
set_option maxRecDepth 100000 in
theorem radd_full (a : Option Addr) (c n : Nat) (Z t x : Int) (w : World) (hR : (4096 : Int) ≤ (n : Int)) :
    Calls Try.prog 20 #[.agg #[.slice a n c, .int .i64 Z], .int .i64 t, .int .i64 x] w fun e w' => e = .returned (.tuple #[.agg #[.slice a n c, .int .i64 Z], .int .i64 0, .int .i64 7]) ∧ Below w.heap.size w w' := by
  go_enter Try.func20, Try.ntmps20
  go_wp2_with fail
  refine bodyPost_ret (by simp [results, Try.results20, go_sem]; try rfl) rfl ?_
  exact ⟨rfl, ((Below.refl _ _).alloc (Nat.le_refl _) _).alloc (by simp) _⟩
def agg60 (x : It) : Value := .agg #[.int .i64 x.t, .int .i64 x.i, .int .i64 x.x]
set_option maxHeartbeats 1000000 in
theorem rahead_any (x y : It) (w : World) : Calls Try.prog 32 #[agg60 x, agg60 y] w fun e w' => e = .returned (.bool (decide (x.lt y))) ∧ Below w.heap.size w w' := by
  obtain ⟨t, i, v⟩ := x
  obtain ⟨t', i', v'⟩ := y
  unfold agg60 It.lt
  simp only
  have b0 := Lib.hid (((Below.refl w.heap.size w).alloc (Nat.le_refl _) (Obj.cells #[.int .i64 t, .int .i64 i, .int .i64 v] 60)).alloc (by simp) (Obj.cells #[.int .i64 t', .int .i64 i', .int .i64 v'] 60))
  by_cases h1 : t < t'
  · have e : decide (t < t' ∨ t = t' ∧ i < i') = true := decide_eq_true (.inl h1)
    rw [e]
    go_enter Try.func32, Try.ntmps32
    go_wp2_with fail
    go_ret
    exact ⟨rfl, b0.out⟩
  · by_cases h2 : t = t'
    · subst h2
      have h2b : (t == t) = true := by simp
      by_cases h3 : i < i'
      · have e : decide (t < t ∨ t = t ∧ i < i') = true := decide_eq_true (.inr ⟨rfl, h3⟩)
        rw [e]
        go_enter Try.func32, Try.ntmps32
        go_wp2_with fail
        go_ret
        exact ⟨rfl, b0.out⟩
      · have e : decide (t < t ∨ t = t ∧ i < i') = false := decide_eq_false (by omega)
        rw [e]
        go_enter Try.func32, Try.ntmps32
        go_wp2_with fail
        go_ret
        exact ⟨rfl, b0.out⟩
    · have h2b : (t == t') = false := by simpa using h2
      have e : decide (t < t' ∨ t = t' ∧ i < i') = false := decide_eq_false (by omega)
      rw [e]
      clear h2
      go_enter Try.func32, Try.ntmps32
      go_wp2_with fail
      go_ret
      exact ⟨rfl, b0.out⟩

theorem its_at {w : World} {a : Option Addr} {R : List It} (h : Its w a R) {k : Nat} (hk : k < R.length) {y : It} (hy : R[k]? = some y) : ∃ g o, a = some ⟨g, o, none⟩ ∧ g < w.heap.size ∧ w.cell? ⟨g, o + k * 3, none⟩ = some (.int .i64 y.t) ∧ w.cell? ⟨g, o + k * 3 + 1, none⟩ = some (.int .i64 y.i) ∧ w.cell? ⟨g, o + k * 3 + 2, none⟩ = some (.int .i64 y.x) := by
  obtain ⟨g, o, e, hl, c1, c2, c3⟩ := h k hk
  rw [List.getElem?_eq_getElem hk] at hy
  cases hy
  exact ⟨g, o, e, hl, c1, c2, c3⟩
/-- what stands behind the new item, of the first j -/
def bhd (X : List It) (x : It) (R : List It) (k j : Nat) : List It := X ++ x :: (R.take j).drop k
theorem bhd_start (X : List It) (x : It) (R : List It) (k : Nat) : cells (bhd X x R k k) = cells X ++ [.int .i64 x.t, .int .i64 x.i, .int .i64 x.x] := by
  unfold bhd
  have : (R.take k).drop k = [] := List.drop_eq_nil_of_le (by rw [List.length_take]; omega)
  rw [this, cells_one]
theorem bhd_next {X : List It} {x : It} {R : List It} {k j : Nat} (hk : k ≤ j) (hj : j < R.length) : cells (bhd X x R k (j + 1)) = cells (bhd X x R k j) ++ [.int .i64 R[j].t, .int .i64 R[j].i, .int .i64 R[j].x] := by
  unfold bhd
  rw [List.take_add_one, List.getElem?_eq_getElem hj, List.drop_append_of_le_length (by rw [List.length_take]; omega)]
  rw [← cells_one]
  simp
theorem bhd_end {X R' R : List It} {x : It} {k n : Nat} (hX : R = X ++ R') (hk : X.length = k) (hn : R.length = n) : bhd X x R k n = X ++ x :: R' := by
  unfold bhd
  rw [← hn, List.take_length, ← hk, hX, List.drop_left]
set_option maxHeartbeats 8000000 in
set_option maxRecDepth 100000 in
theorem radd_room (a : Option Addr) (c : Nat) (Z t x : Int) (R X R' : List It) (w : World) (hX : R = X ++ R') (hR : R.length < 4096) (hZ : 0 ≤ Z) (hZ2 : Z ≤ 1000000) (h : Its w a R) (h1 : ∀ y ∈ X, y.lt ⟨t, Z + 1, x⟩) (h2 : ∀ y R'', R' = y :: R'' → ¬ y.lt ⟨t, Z + 1, x⟩) :
    Calls Try.prog 20 #[.agg #[.slice a R.length c, .int .i64 Z], .int .i64 t, .int .i64 x] w fun e w' => ∃ v, e = .returned (.tuple #[.agg #[v, .int .i64 (Z + 1)], .int .i64 (Z + 1), .int .i64 0]) ∧ w'.ownsRow w.heap.size 60 3 v (R.length + 1) (cells (X ++ ⟨t, Z + 1, x⟩ :: R')) ∧ Below w.heap.size w w' := by
  have H := Lib.hid h
  obtain ⟨i60, hi, hz0, hz1, hz2⟩ := info_parts info60
  have H1 : Hid (∀ (k : Nat) (y : It), R[k]? = some y → k < X.length → decide (y.lt ⟨t, Z + 1, x⟩) = true) := Lib.hid (fun k y h hk => by
    rw [hX, List.getElem?_append_left hk] at h
    exact decide_eq_true (h1 _ (List.mem_of_getElem? h)))
  have H2 : Hid (∀ (k : Nat) (y : It), R[k]? = some y → k = X.length → decide (y.lt ⟨t, Z + 1, x⟩) = false) := Lib.hid (fun k y h hk => by
    rw [hX, List.getElem?_append_right (by omega), hk, Nat.sub_self] at h
    cases R' with
    | nil => simp at h
    | cons z R'' => simp at h; subst h; exact decide_eq_false (h2 _ _ rfl))
  have hl : R.length = X.length + R'.length := by rw [hX, List.length_append]
  have HXR := Lib.hid hX
  have HTX : Hid (cells (R.take X.length) = cells X) := Lib.hid (by rw [hX, List.take_left])
  clear h h1 h2 hX
  generalize hn : R.length = n at *
  generalize hm : X.length = m at *
  have HN := Lib.hid hn
  have HM := Lib.hid hm
  clear hn hm
  have HL := Lib.hid hl
  have hmn : m ≤ n := by omega
  have hN : (n : Int) < 4096 := by omega
  clear hl
  obtain ⟨w1, hw1⟩ : ∃ w1 : World, w1 = ((w.alloc (Obj.cells #[.slice a n c, .int .i64 Z] 27)).alloc (Obj.cells #[.slice none 0 0, .int .i64 0] 27)).alloc (Obj.cells #[.int .i64 t, .int .i64 (Z + 1), .int .i64 x] 60) := ⟨_, rfl⟩
  have b1 : Below w.heap.size w w1 := by rw [hw1]; exact (((Below.refl w.heap.size w).alloc (Nat.le_refl _) _).alloc (by simp) _).alloc (by simp; omega) _
  have k0 : w1.cell? ⟨w.heap.size, 0, none⟩ = some (.slice a n c) := by rw [hw1]; go_simp
  have k1 : w1.cell? ⟨w.heap.size, 1, none⟩ = some (.int .i64 Z) := by rw [hw1]; go_simp
  have x0 : w1.cell? ⟨w.heap.size + 1 + 1, 0, none⟩ = some (.int .i64 t) := by rw [hw1]; go_simp
  have x1 : w1.cell? ⟨w.heap.size + 1 + 1, 1, none⟩ = some (.int .i64 (Z + 1)) := by rw [hw1]; go_simp
  have x2 : w1.cell? ⟨w.heap.size + 1 + 1, 2, none⟩ = some (.int .i64 x) := by rw [hw1]; go_simp
  have kb : w1.heap[w.heap.size + 1]? = some (.cells #[.slice none 0 0, .int .i64 0] 27 (0, 0)) := by
    have e := heap_alloc_new (w.alloc (Obj.cells #[.slice a n c, .int .i64 Z] 27)) (Obj.cells #[.slice none 0 0, .int .i64 0] 27)
    rw [show (w.alloc (Obj.cells #[.slice a n c, .int .i64 Z] 27)).heap.size = w.heap.size + 1 by simp] at e
    rw [hw1, Below.heap_alloc _ _ _ (by simp)]
    exact e
  have KB := Lib.hid kb
  clear kb
  have K0 := Lib.hid k0
  have K1 := Lib.hid k1
  have X0 := Lib.hid x0
  have X1 := Lib.hid x1
  have X2 := Lib.hid x2
  have W1 := Lib.hid hw1
  have B1 := Lib.hid b1
  have H1C : Hid (∀ t i v, ∀ u ∈ [Value.int .i64 t, .int .i64 i, .int .i64 v], u.oneCell' = true) := Lib.hid (by
    intro t i v u hu
    simp at hu
    rcases hu with rfl | rfl | rfl <;> rfl)
  clear b1 k0 k1 x0 x1 x2
  go_enter Try.func20, Try.ntmps20
  go_wp2_with fail
  rw [← W1.out]
  clear W1 hw1
  have hlt : w.heap.size < w1.heap.size := World.block_lt_of_cell? _ _ K0.out
  have hlt2 : w.heap.size + 1 + 1 < w1.heap.size := World.block_lt_of_cell? _ _ X0.out
  go_loopw [10, 11] (fun v i wq => ∃ (k : Nat), i = .int .i64 k ∧ k ≤ m ∧ wq.ownsRow w1.heap.size 60 3 v k (cells (R.take k)) ∧ Below w1.heap.size w1 wq) (fun _ i _ => n - (intOf i).toNat)
  case atStart => exact ⟨0, rfl, Nat.zero_le _, World.ownsRow_nil _ _ _ _, Below.refl _ _⟩
  case round =>
    obtain ⟨k, rfl, hk, hO, hB⟩ := hrel
    have HB := Lib.hid hB
    have HO := Lib.hid hO
    have HBW := Lib.hid (B1.out.trans (hB.mono B1.out.size))
    have q0 : wr.cell? ⟨w.heap.size, 0, none⟩ = some (.slice a n c) := by rw [hB.cell (p := ⟨w.heap.size, _, none⟩) hlt]; exact K0.out
    have q1 : wr.cell? ⟨w.heap.size, 1, none⟩ = some (.int .i64 Z) := by rw [hB.cell (p := ⟨w.heap.size, _, none⟩) hlt]; exact K1.out
    have p0 : wr.cell? ⟨w.heap.size + 1 + 1, 0, none⟩ = some (.int .i64 t) := by rw [hB.cell (p := ⟨w.heap.size + 1 + 1, _, none⟩) hlt2]; exact X0.out
    have p1 : wr.cell? ⟨w.heap.size + 1 + 1, 1, none⟩ = some (.int .i64 (Z + 1)) := by rw [hB.cell (p := ⟨w.heap.size + 1 + 1, _, none⟩) hlt2]; exact X1.out
    have p2 : wr.cell? ⟨w.heap.size + 1 + 1, 2, none⟩ = some (.int .i64 x) := by rw [hB.cell (p := ⟨w.heap.size + 1 + 1, _, none⟩) hlt2]; exact X2.out
    have z0 := fun d os => cell_regrown q0 d os
    have z2 := fun d os => cell_regrown p0 d os
    have z3 := fun d os => cell_regrown p1 d os
    have z4 := fun d os => cell_regrown p2 d os
    by_cases hkm : k < m
    · have hkn : k < n := by omega
      have hg := List.getElem?_eq_getElem (l := R) (i := k) (by rw [HN.out]; exact hkn)
      obtain ⟨g, o, rfl, hgl, c1, c2, c3⟩ := its_at H.out (k := k) (by rw [HN.out]; exact hkn) hg
      rw [← HBW.out.cell (p := ⟨g, _, none⟩) hgl] at c1 c2 c3
      have TK := Lib.hid (take_cells (R := R) (k := k) (by rw [HN.out]; exact hkn))
      have hd := H1.out k _ hg hkm
      generalize R[k]'(by rw [HN.out]; exact hkn) = y at *
      obtain ⟨t', i', x'⟩ := y
      simp only at c1 c2 c3
      have CF := Lib.hid (fun d os => Calls.regrown_of (d := d) (os := os) (rahead_any ⟨t', i', x'⟩ ⟨t, Z + 1, x⟩ (Go.Sort.grow (redrawn wr d) os)))
      rw [hd] at CF
      unfold agg60 at CF
      simp only at CF
      have y1 := fun d os => cell_regrown c1 d os
      have y2 := fun d os => cell_regrown c2 d os
      have y3 := fun d os => cell_regrown c3 d os
      clear hB hO hd hg q0 q1 p0 p1 p2 c1 c2 c3
      go_wp2_with fail
      refine wp_region_quiet_below mixed (by kernel_rfl) ?_
      repeat (first | go_big_quiet_step (exact CF.out _ _) | quiet_step (exact CF.out _ _))
      refine wpQuiet_nil ?_
      intro _ hw'
      obtain ⟨⟨dq, osq⟩, hw''⟩ := hw'
      subst hw''
      have B5 := Lib.hid (HB.out.trans ((below_regrown wr dq osq).mono HB.out.size))
      have O5 := Lib.hid (own_below HO.out (below_regrown wr dq osq))
      have s0 := z0 dq osq
      have s1 := y1 dq osq
      have s2 := y2 dq osq
      have s3 := y3 dq osq
      generalize Go.Sort.grow (redrawn wr dq) osq = w5 at *
      clear z0 z2 z3 z4 y1 y2 y3 CF HB HBW HO
      go_wp2_with (at_builtin; refine wpList_append_lies _ rfl (.tmp 37) (.tmp 43) 25 rfl w1.heap.size 60 i60 (.agg #[.int .i64 0, .int .i64 0, .int .i64 0]) 3 24 Try.underlying25 hi hz0 hz1 hz2 rfl (by decide) u10 k (cells (R.take k)) rfl (World.ownsRow.alloc O5.out _) ⟨w5.heap.size, 0, none⟩ 1 1 [.int .i64 t', .int .i64 i', .int .i64 x'] rfl rfl (World.news_of_block (cs := #[.int .i64 t', .int .i64 i', .int .i64 x']) (heap_alloc_new w5 _)) (H1C.out _ _ _) (by decide) (by unfold maxLen; omega) (by omega) (by have := B5.out.size; simp; omega) _ rfl ?_; intro g4 cap w4 ho4 hg4 _ _)
      have B4 : Hid (Below w1.heap.size w1 w4) := Lib.hid (by
        have b3 := B5.out.alloc B5.out.size (Obj.cells #[Value.int IntKind.i64 t', Value.int IntKind.i64 i', Value.int IntKind.i64 x'] 60)
        exact b3.trans ⟨hg4.os, hg4.tape, hg4.output, hg4.size, fun q hq => hg4.block q (Nat.lt_of_lt_of_le hq b3.size) (fun e => by have := (O5.out.lt q e.symm).1; omega)⟩)
      have O4 : Hid (w4.ownsRow w1.heap.size 60 3 (.slice (some ⟨g4, 0, none⟩) (k + 1) cap) (k + 1) (cells (R.take (k + 1)))) := Lib.hid (by rw [TK.out]; exact ho4)
      clear ho4 hg4 s0 s1 s2 s3 O5 B5
      go_wp2_with fail
      go_roundw
      case rel => exact ⟨k + 1, by go_num, by omega, O4.out, B4.out⟩
      case measure => simp [intOf]; omega
    · obtain rfl : k = m := by omega
      clear hB hO
      rcases Nat.lt_or_ge k n with hkn | hkn
      case' inl =>
        have hg := List.getElem?_eq_getElem (l := R) (i := k) (by rw [HN.out]; exact hkn)
        obtain ⟨g, o, rfl, hgl, c1, c2, c3⟩ := its_at H.out (k := k) (by rw [HN.out]; exact hkn) hg
        rw [← HBW.out.cell (p := ⟨g, _, none⟩) hgl] at c1 c2 c3
        have hd := H2.out k _ hg rfl
        generalize R[k]'(by rw [HN.out]; exact hkn) = y at *
        obtain ⟨t', i', x'⟩ := y
        simp only at c1 c2 c3
        have CF := Lib.hid (fun d os => Calls.regrown_of (d := d) (os := os) (rahead_any ⟨t', i', x'⟩ ⟨t, Z + 1, x⟩ (Go.Sort.grow (redrawn wr d) os)))
        rw [hd] at CF
        unfold agg60 at CF
        simp only at CF
        have y1 := fun d os => cell_regrown c1 d os
        have y2 := fun d os => cell_regrown c2 d os
        have y3 := fun d os => cell_regrown c3 d os
        clear hd hg q0 q1 p0 p1 p2 c1 c2 c3
        go_wp2_with fail
        refine wp_region_quiet_below mixed (by kernel_rfl) ?_
        repeat (first | go_big_quiet_step (exact CF.out _ _) | quiet_step (exact CF.out _ _))
        refine wpQuiet_nil ?_
        intro _ hw'
        obtain ⟨⟨dq, osq⟩, hw''⟩ := hw'
        subst hw''
        have B5 := Lib.hid (HB.out.trans ((below_regrown wr dq osq).mono HB.out.size))
        have O5 := Lib.hid (own_below HO.out (below_regrown wr dq osq))
        clear y1 y2 y3 CF z0 z2 z3 z4
        generalize Go.Sort.grow (redrawn wr dq) osq = w5 at *
      case' inr =>
        have hkf : decide (k < n) = false := by simp; omega
        clear z0 z2 z3 z4 p0 p1 p2 q1
        go_wp2_with fail
        go_quiet (fail)
        have B5 := Lib.hid (HB.out.trans ((below_drewN (Below.refl wr.heap.size wr) nq).mono HB.out.size))
        have O5 := Lib.hid (own_below HO.out (below_drewN (Below.refl wr.heap.size wr) nq))
        clear hkf
        generalize wr.drewN nq = w5 at *
      all_goals
        clear HB HBW HO hkn hkm
        have p0 : w5.cell? ⟨w.heap.size + 1 + 1, 0, none⟩ = some (.int .i64 t) := by rw [B5.out.cell (p := ⟨w.heap.size + 1 + 1, _, none⟩) hlt2]; exact X0.out
        have p1 : w5.cell? ⟨w.heap.size + 1 + 1, 1, none⟩ = some (.int .i64 (Z + 1)) := by rw [B5.out.cell (p := ⟨w.heap.size + 1 + 1, _, none⟩) hlt2]; exact X1.out
        have p2 : w5.cell? ⟨w.heap.size + 1 + 1, 2, none⟩ = some (.int .i64 x) := by rw [B5.out.cell (p := ⟨w.heap.size + 1 + 1, _, none⟩) hlt2]; exact X2.out
        go_wp2_with (at_builtin; refine wpList_append_lies _ rfl (.tmp 47) (.tmp 49) 25 rfl w1.heap.size 60 i60 (.agg #[.int .i64 0, .int .i64 0, .int .i64 0]) 3 24 Try.underlying25 hi hz0 hz1 hz2 rfl (by decide) u10 k (cells (R.take k)) rfl (World.ownsRow.alloc O5.out _) ⟨w5.heap.size, 0, none⟩ 1 1 [.int .i64 t, .int .i64 (Z + 1), .int .i64 x] rfl rfl (World.news_of_block (cs := #[.int .i64 t, .int .i64 (Z + 1), .int .i64 x]) (heap_alloc_new w5 _)) (H1C.out _ _ _) (by decide) (by unfold maxLen; omega) (by omega) (by have := B5.out.size; simp; omega) _ rfl ?_; intro g6 cap6 w6 ho6 hg6 _ _)
        have B6 : Hid (Below w1.heap.size w1 w6) := Lib.hid (by
          have b3 := B5.out.alloc B5.out.size (Obj.cells #[Value.int IntKind.i64 t, Value.int IntKind.i64 (Z + 1), Value.int IntKind.i64 x] 60)
          exact b3.trans ⟨hg6.os, hg6.tape, hg6.output, hg6.size, fun q hq => hg6.block q (Nat.lt_of_lt_of_le hq b3.size) (fun e => by have := (O5.out.lt q e.symm).1; omega)⟩)
        have O6 : Hid (w6.ownsRow w1.heap.size 60 3 (.slice (some ⟨g6, 0, none⟩) (k + 1) cap6) (k + 1) (cells (bhd X ⟨t, Z + 1, x⟩ R k k))) := Lib.hid (by rw [bhd_start, ← HTX.out]; exact ho6)
        clear ho6 hg6 p0 p1 p2 O5 B5
        go_wp2_with fail
        go_loopw [10, 11] (fun v i wq => ∃ (j : Nat), i = .int .i64 j ∧ k ≤ j ∧ j ≤ n ∧ wq.ownsRow w1.heap.size 60 3 v (j + 1) (cells (bhd X ⟨t, Z + 1, x⟩ R k j)) ∧ Below w1.heap.size w1 wq) (fun _ i _ => n - (intOf i).toNat)
        case atStart => exact ⟨k, rfl, Nat.le_refl _, hmn, O6.out, B6.out⟩
        case round =>
          obtain ⟨j, rfl, hkj, hj, hO, hB⟩ := hrel
          have HB := Lib.hid hB
          have HO := Lib.hid hO
          have HBW := Lib.hid (B1.out.trans (hB.mono B1.out.size))
          have q0 := (hB.cell (p := ⟨w.heap.size, 0, none⟩) hlt).trans K0.out
          have q1 : wr.cell? ⟨w.heap.size, 1, none⟩ = some (.int .i64 Z) := by rw [hB.cell (p := ⟨w.heap.size, _, none⟩) hlt]; exact K1.out
          have p1 : wr.cell? ⟨w.heap.size + 1 + 1, 1, none⟩ = some (.int .i64 (Z + 1)) := by rw [hB.cell (p := ⟨w.heap.size + 1 + 1, _, none⟩) hlt2]; exact X1.out
          by_cases hjn : j < n
          · have hg := List.getElem?_eq_getElem (l := R) (i := j) (by rw [HN.out]; exact hjn)
            obtain ⟨g2, o2, ha2, hgl, c1, c2, c3⟩ := its_at H.out (k := j) (by rw [HN.out]; exact hjn) hg
            cases ha2
            rw [← HBW.out.cell (p := ⟨_, _, none⟩) hgl] at c1 c2 c3
            have TK := Lib.hid (bhd_next (X := X) (x := ⟨t, Z + 1, x⟩) (R := R) hkj (by rw [HN.out]; exact hjn))
            generalize R[j]'(by rw [HN.out]; exact hjn) = y at *
            obtain ⟨t', i', x'⟩ := y
            simp only at c1 c2 c3 TK
            clear hB hO hg p1
            go_wp2_with (at_builtin; refine wpList_append_lies _ rfl (.tmp 56) (.tmp 62) 25 rfl w1.heap.size 60 i60 (.agg #[.int .i64 0, .int .i64 0, .int .i64 0]) 3 24 Try.underlying25 hi hz0 hz1 hz2 rfl (by decide) u10 (j + 1) (cells (bhd X ⟨t, Z + 1, x⟩ R k j)) rfl (World.ownsRow.alloc HO.out _) ⟨wr.heap.size, 0, none⟩ 1 1 [.int .i64 t', .int .i64 i', .int .i64 x'] rfl rfl (World.news_of_block (cs := #[.int .i64 t', .int .i64 i', .int .i64 x']) (heap_alloc_new wr _)) (H1C.out _ _ _) (by decide) (by unfold maxLen; omega) (by omega) (by have := HB.out.size; simp; omega) _ rfl ?_; intro g4 cap w4 ho4 hg4 _ _)
            have B4 : Hid (Below w1.heap.size w1 w4) := Lib.hid (by
              have b3 := HB.out.alloc HB.out.size (Obj.cells #[Value.int IntKind.i64 t', Value.int IntKind.i64 i', Value.int IntKind.i64 x'] 60)
              exact b3.trans ⟨hg4.os, hg4.tape, hg4.output, hg4.size, fun q hq => hg4.block q (Nat.lt_of_lt_of_le hq b3.size) (fun e => by have := (HO.out.lt q e.symm).1; omega)⟩)
            have O4 : Hid (w4.ownsRow w1.heap.size 60 3 (.slice (some ⟨g4, 0, none⟩) (j + 1 + 1) cap) (j + 1 + 1) (cells (bhd X ⟨t, Z + 1, x⟩ R k (j + 1)))) := Lib.hid (by rw [TK.out]; exact ho4)
            clear ho4 hg4 c1 c2 c3 HO q0 q1
            go_wp2_with fail
            go_roundw
            case rel => exact ⟨j + 1, by go_num, by omega, by omega, O4.out, B4.out⟩
            case measure => simp [intOf]; omega
          · obtain rfl : j = n := by omega
            obtain ⟨va, vc, hv⟩ : ∃ a c, u10 = .slice a (j + 1) c := by
              rcases hO.2 with ⟨rfl, e⟩ | ⟨g, cap, cur, rfl, _⟩
              · omega
              · exact ⟨_, _, rfl⟩
            subst hv
            have yb : wr.heap[w.heap.size + 1]? = some (.cells #[.slice none 0 0, .int .i64 0] 27 (0, 0)) := by rw [hB.block _ (Array.getElem?_eq_some_iff.1 KB.out).1]; exact KB.out
            have y0 : wr.cell? ⟨w.heap.size + 1, 0, none⟩ = some (.slice none 0 0) := by simp [World.cell?, yb]
            have y1 : wr.cell? ⟨w.heap.size + 1, 1, none⟩ = some (.int .i64 0) := by simp [World.cell?, yb]
            have yf0 : wr.frozen? ⟨w.heap.size + 1, 0, none⟩ = false := by simp [World.frozen?, yb]
            have yf1 : wr.frozen? ⟨w.heap.size + 1, 1, none⟩ = false := by simp [World.frozen?, yb]
            clear hB hO yb
            go_wp2_with fail
            go_region
            obtain ⟨W5, hW5, z0, z1, B5, O5⟩ : ∃ W5 : World, W5 = ((wr.setCell ⟨w.heap.size + 1, 0, none⟩ (.slice va (j + 1) vc)).setCell ⟨w.heap.size + 1, 1, none⟩ (.int .i64 (Z + 1))).drew ∧ W5.cell? ⟨w.heap.size + 1, 0, none⟩ = some (.slice va (j + 1) vc) ∧ W5.cell? ⟨w.heap.size + 1, 1, none⟩ = some (.int .i64 (Z + 1)) ∧ Below w.heap.size w W5 ∧ W5.ownsRow w1.heap.size 60 3 (.slice va (j + 1) vc) (j + 1) (cells (bhd X ⟨t, Z + 1, x⟩ R k j)) := by
              refine ⟨_, rfl, ?_, ?_, ((HBW.out.setCell (p := ⟨w.heap.size + 1, 0, none⟩) (by simp) _).setCell (p := ⟨w.heap.size + 1, 1, none⟩) (by simp) _).drew, ?_⟩
              · go_simp
              · go_simp
              · refine World.ownsRow.kept (ownsRow_setCell_other (ownsRow_setCell_other HO.out ?_ _) ?_ _) (grown_below ((Below.refl _ _).drew) none) (by cases va <;> simp [Value.ownBlock])
                · intro e; have := (HO.out.lt _ (by first | exact e | exact e.symm)).1; simp at this; omega
                · intro e; have := (HO.out.lt _ (by first | exact e | exact e.symm)).1; simp at this; omega
            rw [← hW5]
            clear hW5 y0 y1 yf0 yf1 q0 q1 p1
            go_wp2_with fail
            refine bodyPost_ret (by simp [results, Try.results20, go_sem, z0, z1]; try rfl) rfl ?_
            exact ⟨.slice va (j + 1) vc, rfl, by rw [bhd_end HXR.out HM.out HN.out] at O5; exact O5.mono B1.out.size, B5⟩
/-- the document's Add: where there is room the item goes to its place -/
theorem radd_any (a : Option Addr) (c : Nat) (Z t x : Int) (R : List It) (w : World) (hR : R.length < 4096) (hZ : 0 ≤ Z) (hZ2 : Z ≤ 1000000) (h : Its w a R) :
    Calls Try.prog 20 #[.agg #[.slice a R.length c, .int .i64 Z], .int .i64 t, .int .i64 x] w fun e w' => ∃ v, e = .returned (.tuple #[.agg #[v, .int .i64 (Z + 1)], .int .i64 (Z + 1), .int .i64 0]) ∧ w'.ownsRow w.heap.size 60 3 v (R.length + 1) (cells (ins ⟨t, Z + 1, x⟩ R)) ∧ Below w.heap.size w w' := by
  obtain ⟨X, R', e1, e2, h1, h2⟩ := ins_split ⟨t, Z + 1, x⟩ R
  rw [e2]
  exact radd_room a c Z t x R X R' w e1 hR hZ hZ2 h h1 h2
end Go.Proofs.Ytiklaaganiafjab
