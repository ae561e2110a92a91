/-
  WHAT THE ROWS REST ON, part 9: Sme Dwr Dak Dlm Evr Ltl Lts Ltm.
-/
import Derived.Deep.CutBlock
import Derived.Deep.DeepCutAuto
import Derived.Deep.RegionLaw
import Derived.Deep.CutRange
import Derived.Laws.Tables
import Derived.Test.YtbghjcfepjbppaaPart8
/-
  THE DOCUMENT's Same: of an event and itself; of events of two sessions.
-/
namespace Go.Proofs.Ytbghjcfepjbppaa
open Go.RowKit
set_option maxHeartbeats 2000000 in
set_option maxRecDepth 100000 in
theorem same_value (v : Val) (w : World) : Calls Try.prog 75 #[v.val, v.val] w fun e w' => e = .returned (.bool true) ∧ Below w.heap.size w w' := by
  obtain ⟨X, hX, BX, KA, KB, hsX⟩ : ∃ X, X = (w.alloc (.cells #[.int .i64 v.k, .int .i64 v.n, .float .f64 v.f, .string v.s] 106)).alloc (.cells #[.int .i64 v.k, .int .i64 v.n, .float .f64 v.f, .string v.s] 106) ∧ Below w.heap.size w X ∧
      Blk X w.heap.size 106 #[.int .i64 v.k, .int .i64 v.n, .float .f64 v.f, .string v.s] ∧ Blk X (w.heap.size + 1) 106 #[.int .i64 v.k, .int .i64 v.n, .float .f64 v.f, .string v.s] ∧ X.heap.size = w.heap.size + 1 + 1 :=
    ⟨_, rfl, ((Below.refl w.heap.size w).alloc (Nat.le_refl _) _).alloc (by simp) _, (Blk.new w 106 _).below ((Below.refl _ _).alloc (Nat.le_refl _) _), by have := Blk.new (w.alloc (.cells #[.int .i64 v.k, .int .i64 v.n, .float .f64 v.f, .string v.s] 106)) 106 #[.int .i64 v.k, .int .i64 v.n, .float .f64 v.f, .string v.s]; simpa using this, by simp⟩
  have HX := Lib.hid hX
  have x0 := fun d os => cell_regrown (KA.cell 0 : X.cell? ⟨w.heap.size, 0, none⟩ = some (.int .i64 v.k)) d os
  have x1 := fun d os => cell_regrown (KA.cell 1 : X.cell? ⟨w.heap.size, 1, none⟩ = some (.int .i64 v.n)) d os
  have x2 := fun d os => cell_regrown (KA.cell 2 : X.cell? ⟨w.heap.size, 2, none⟩ = some (.float .f64 v.f)) d os
  have x3 := fun d os => cell_regrown (KA.cell 3 : X.cell? ⟨w.heap.size, 3, none⟩ = some (.string v.s)) d os
  have y0 := fun d os => cell_regrown (KB.cell 0 : X.cell? ⟨w.heap.size + 1, 0, none⟩ = some (.int .i64 v.k)) d os
  have y1 := fun d os => cell_regrown (KB.cell 1 : X.cell? ⟨w.heap.size + 1, 1, none⟩ = some (.int .i64 v.n)) d os
  have y2 := fun d os => cell_regrown (KB.cell 2 : X.cell? ⟨w.heap.size + 1, 2, none⟩ = some (.float .f64 v.f)) d os
  have y3 := fun d os => cell_regrown (KB.cell 3 : X.cell? ⟨w.heap.size + 1, 3, none⟩ = some (.string v.s)) d os
  have C1 := Lib.hid (fun d os => Calls.regrown_of (d := d) (os := os) ((Bt.rbits_any v.f (Go.Sort.grow (redrawn X d) os)).mono (fun e w' ⟨he, hw⟩ => (⟨he, hw ▸ Below.refl _ _⟩ : e = Ending.returned (.int .u64 (Bt.codeN v.f)) ∧ Below _ _ w'))))
  have BX := Lib.hid BX
  clear hX KA KB
  unfold Val.val
  obtain ⟨vk, vn, vf, vs⟩ := v
  simp only at *
  generalize Bt.codeN vf = C at *
  go_enter Try.func75, Try.ntmps75
  go_wp2_with fail
  rw [← HX.out]
  refine wp_region_quiet_below mixedE (by kernel_rfl) ?_
  repeat (quiet_step (first | (with_reducible exact C1.out _ _)))
  refine wpQuiet_nil ?_
  intro _ hw'
  obtain ⟨⟨dq, osq⟩, hw''⟩ := hw'
  subst hw''
  have b9 := below_regrown X dq osq
  have B9 := Lib.hid (BX.out.trans (b9.mono BX.out.size))
  clear x0 x1 x2 x3 y0 y1 y2 y3 C1 b9
  go_wp2_with fail
  go_ret
  exact ⟨rfl, B9.out⟩
set_option maxHeartbeats 4000000 in
set_option maxRecDepth 100000 in
theorem same_any (a b c : Int) (k : ByteArray) (p q : Option Addr) (cp cq : Nat) (L : List Fld) (w : World) (hp : Flds w p L) (hq : Flds w q L) (hl : L.length ≤ 1000) :
    Calls Try.prog 51 #[evV a b c k (.slice p L.length cp), evV a b c k (.slice q L.length cq)] w fun e w' => e = .returned (.bool true) ∧ Below w.heap.size w w' := by
  obtain ⟨X, hX, BX, KA, KB, hsX⟩ : ∃ X, X = (w.alloc (.cells #[.int .i64 a, .int .i64 b, .int .i64 c, .string k, .slice p L.length cp] 42)).alloc (.cells #[.int .i64 a, .int .i64 b, .int .i64 c, .string k, .slice q L.length cq] 42) ∧ Below w.heap.size w X ∧
      Blk X w.heap.size 42 #[.int .i64 a, .int .i64 b, .int .i64 c, .string k, .slice p L.length cp] ∧ Blk X (w.heap.size + 1) 42 #[.int .i64 a, .int .i64 b, .int .i64 c, .string k, .slice q L.length cq] ∧ X.heap.size = w.heap.size + 1 + 1 :=
    ⟨_, rfl, ((Below.refl w.heap.size w).alloc (Nat.le_refl _) _).alloc (by simp) _, (Blk.new w 42 _).below ((Below.refl _ _).alloc (Nat.le_refl _) _), by have := Blk.new (w.alloc (.cells #[.int .i64 a, .int .i64 b, .int .i64 c, .string k, .slice p L.length cp] 42)) 42 #[.int .i64 a, .int .i64 b, .int .i64 c, .string k, .slice q L.length cq]; simpa using this, by simp⟩
  have HX := Lib.hid hX
  have HP := Lib.hid hp
  have HQ := Lib.hid hq
  have R0 : Hid (Below w.heap.size w X ∧ Below X.heap.size X X) := Lib.hid ⟨BX, Below.refl _ _⟩
  have KAh := Lib.hid KA
  have KBh := Lib.hid KB
  have hlI : (L.length : Int) ≤ 1000 := by omega
  obtain ⟨n, hn⟩ : ∃ n, n = L.length := ⟨_, rfl⟩
  have HN := Lib.hid hn
  rw [← hn] at hlI KAh KBh KA KB HX ⊢
  have a0 : X.cell? ⟨w.heap.size, 0, none⟩ = some (.int .i64 a) := KA.cell 0
  have a1 : X.cell? ⟨w.heap.size, 1, none⟩ = some (.int .i64 b) := KA.cell 1
  have a2 : X.cell? ⟨w.heap.size, 2, none⟩ = some (.int .i64 c) := KA.cell 2
  have a3 : X.cell? ⟨w.heap.size, 3, none⟩ = some (.string k) := KA.cell 3
  have a4 : X.cell? ⟨w.heap.size, 4, none⟩ = some (.slice p n cp) := KA.cell 4
  have b0 : X.cell? ⟨w.heap.size + 1, 0, none⟩ = some (.int .i64 a) := KB.cell 0
  have b1 : X.cell? ⟨w.heap.size + 1, 1, none⟩ = some (.int .i64 b) := KB.cell 1
  have b2 : X.cell? ⟨w.heap.size + 1, 2, none⟩ = some (.int .i64 c) := KB.cell 2
  have b3 : X.cell? ⟨w.heap.size + 1, 3, none⟩ = some (.string k) := KB.cell 3
  have b4 : X.cell? ⟨w.heap.size + 1, 4, none⟩ = some (.slice q n cq) := KB.cell 4
  clear hX hp hq hl hn BX KA KB
  unfold evV
  go_enter Try.func51, Try.ntmps51
  go_wp2_with fail
  rw [← HX.out]
  go_wp2_with fail
  clear a0 a1 a2 a3 a4 b0 b1 b2 b3 b4 HX
  go_loopw [5] (fun i wr => ∃ (j : Nat), i = .int .i64 j ∧ j ≤ n ∧ Hid (Below w.heap.size w wr ∧ Below X.heap.size X wr)) (fun i wr => n - (intOf i).toNat)
  case atStart => exact ⟨0, rfl, Nat.zero_le _, R0⟩
  case round =>
    obtain ⟨j, rfl, hj, hB⟩ := hrel
    clear R0
    have a4 : wr.cell? ⟨w.heap.size, 4, none⟩ = some (.slice p n cp) := (KAh.out.below hB.out.2).cell 4
    have b4 : wr.cell? ⟨w.heap.size + 1, 4, none⟩ = some (.slice q n cq) := (KBh.out.below hB.out.2).cell 4
    by_cases hjn : j < n
    · have jI : (j : Int) < (n : Int) := by omega
      have jB := decide_eq_true jI
      have hjL : j < L.length := by rw [← HN.out]; exact hjn
      obtain ⟨ga, oa, rfl, hga, p0, p1, p2, p3, p4⟩ := HP.out j hjL
      obtain ⟨gb, ob, rfl, hgb, q0, q1, q2, q3, q4⟩ := HQ.out j hjL
      obtain ⟨x, hx⟩ : ∃ x, x = L[j]'hjL := ⟨_, rfl⟩
      rw [← hx] at p0 p1 p2 p3 p4 q0 q1 q2 q3 q4
      have upa : ∀ {i : Nat} {v : Value}, w.cell? ⟨ga, i, none⟩ = some v → wr.cell? ⟨ga, i, none⟩ = some v := fun {i v} hc => (hB.out.1.cell (p := ⟨ga, i, none⟩) hga).trans hc
      have upb : ∀ {i : Nat} {v : Value}, w.cell? ⟨gb, i, none⟩ = some v → wr.cell? ⟨gb, i, none⟩ = some v := fun {i v} hc => (hB.out.1.cell (p := ⟨gb, i, none⟩) hgb).trans hc
      have r0 := fun d os => cell_regrown (upa p0) d os
      have r1 := fun d os => cell_regrown (upa p1) d os
      have r2 := fun d os => cell_regrown (upa p2) d os
      have r3 := fun d os => cell_regrown (upa p3) d os
      have r4 := fun d os => cell_regrown (upa p4) d os
      have s0 := fun d os => cell_regrown (upb q0) d os
      have s1 := fun d os => cell_regrown (upb q1) d os
      have s2 := fun d os => cell_regrown (upb q2) d os
      have s3 := fun d os => cell_regrown (upb q3) d os
      have s4 := fun d os => cell_regrown (upb q4) d os
      have t4 := fun d os => cell_regrown a4 d os
      have u4 := fun d os => cell_regrown b4 d os
      have C1 := Lib.hid (fun d os => Calls.regrown_of (d := d) (os := os) (same_value x.v (Go.Sort.grow (redrawn wr d) os)))
      clear p0 p1 p2 p3 p4 q0 q1 q2 q3 q4 upa upb hx
      unfold Val.val at C1
      obtain ⟨xn, xk, xm, xf, xs⟩ := x
      simp only at *
      go_upto_region 29 with fail
      clear a4 b4
      refine wp_region_quiet_below mixedE (by kernel_rfl) ?_
      repeat (quiet_step (first | (with_reducible exact C1.out _ _)))
      refine wpQuiet_nil ?_
      intro _ hw'
      obtain ⟨⟨dq, osq⟩, hw''⟩ := hw'
      subst hw''
      have b9 := below_regrown wr dq osq
      have B9 : Hid (Below w.heap.size w (Go.Sort.grow (redrawn wr dq) osq) ∧ Below X.heap.size X (Go.Sort.grow (redrawn wr dq) osq)) := Lib.hid ⟨hB.out.1.trans (b9.mono hB.out.1.size), hB.out.2.trans (b9.mono hB.out.2.size)⟩
      clear r0 r1 r2 r3 r4 s0 s1 s2 s3 s4 t4 u4 C1 hB b9
      go_wp2_with fail
      go_roundw
      case rel => exact ⟨j + 1, by go_num, by omega, B9⟩
      case measure => simp [intOf]; omega
    · obtain rfl : j = n := by omega
      have jI : ¬ (j : Int) < (j : Int) := by omega
      have jB := decide_eq_false jI
      go_wp2_with fail
      go_ret
      exact ⟨rfl, hB.out.1⟩
set_option maxHeartbeats 2000000 in
set_option maxRecDepth 100000 in
theorem same_off (a b c a' b' c' : Int) (k k' : ByteArray) (f f' : Value) (h : a ≠ a') (w : World) :
    Calls Try.prog 51 #[evV a b c k f, evV a' b' c' k' f'] w fun e w' => e = .returned (.bool false) ∧ Below w.heap.size w w' := by
  have hx : (a != a') = true := bne_iff_ne.2 h
  have hx2 : (a == a') = false := beq_eq_false_iff_ne.2 h
  have B1 := Lib.hid (fun o o' => ((Below.refl w.heap.size w).alloc (Nat.le_refl _) o).alloc (by simp) o')
  unfold evV
  go_enter Try.func51, Try.ntmps51
  go_wp2_with fail
  go_ret
  exact ⟨rfl, B1.out _ _⟩
end Go.Proofs.Ytbghjcfepjbppaa
/-
  THE DOCUMENT's COMMANDS: what may be, what is written.
-/
namespace Go.Proofs.Ytbghjcfepjbppaa
open Go.RowKit
theorem dnum_any (n : Int) (h0 : 0 ≤ n) (h : n < 9223372036854775808) (w : World) : Calls Try.prog 91 #[.int .i64 n] w fun e w' => e = .returned (.string (Bt.numS n)) ∧ Below w.heap.size w w' := by
  have RN := Lib.hid (fun W => Bt.rnum_any n h0 (by omega) W)
  have u1 : IntKind.u64.wrap n = n := IntWalk.u64_in _ (by omega)
  go_enter Try.func91, Try.ntmps91
  go_wp2_with fail
  refine (RN.out _).mono ?_
  rintro e w1 ⟨rfl, b1⟩
  go_wp2_with fail
  go_ret
  exact ⟨rfl, b1⟩
/-- a command's block -/
theorem cmd_start (w : World) (k a b c : Int) (s : ByteArray) (f : Value) :
    ∃ X, X = w.alloc (.cells #[.int .i64 k, .int .i64 a, .int .i64 b, .int .i64 c, .string s, f, .int .i64 0, .string ⟨#[]⟩, .string ⟨#[]⟩, .int .i64 0] 149) ∧ Blk X w.heap.size 149 #[.int .i64 k, .int .i64 a, .int .i64 b, .int .i64 c, .string s, f, .int .i64 0, .string ⟨#[]⟩, .string ⟨#[]⟩, .int .i64 0] ∧ Below w.heap.size w X ∧ X.heap.size = w.heap.size + 1 :=
  ⟨_, rfl, heap_alloc_new w _, (Below.refl w.heap.size w).alloc (Nat.le_refl _) _, by simp⟩
set_option maxHeartbeats 2000000 in
set_option maxRecDepth 100000 in
theorem dcheck_open (w : World) : Calls Try.prog 90 #[cmdV 1 0 0 0 ⟨#[]⟩ (.slice none 0 0)] w fun e w' => e = .returned (.bool true) ∧ Below w.heap.size w w' := by
  obtain ⟨w1, hw1, K1, B1, hs1⟩ := cmd_start w 1 0 0 0 ⟨#[]⟩ (.slice none 0 0)
  have SA := Lib.hid (same_any 0 0 0 ⟨#[]⟩ none none 0 0 [] w1 (fun i hi => by simp at hi) (fun i hi => by simp at hi) (by simp))
  simp only [List.length_nil] at SA
  unfold evV at SA
  unfold cmdV
  have W1 := Lib.hid hw1
  have B1h := Lib.hid B1
  have K1h := Lib.hid K1
  have e0 : w1.cell? ⟨w.heap.size, 0, none⟩ = some (.int .i64 1) := K1.cell 0
  have e1 : w1.cell? ⟨w.heap.size, 1, none⟩ = some (.int .i64 0) := K1.cell 1
  have e2 : w1.cell? ⟨w.heap.size, 2, none⟩ = some (.int .i64 0) := K1.cell 2
  have e3 : w1.cell? ⟨w.heap.size, 3, none⟩ = some (.int .i64 0) := K1.cell 3
  have e4 : w1.cell? ⟨w.heap.size, 4, none⟩ = some (.string ⟨#[]⟩) := K1.cell 4
  have e5 : w1.cell? ⟨w.heap.size, 5, none⟩ = some (.slice none 0 0) := K1.cell 5
  clear hw1 K1 B1
  go_enter Try.func90, Try.ntmps90
  go_wp2_with fail
  rw [← W1.out]
  go_wp2_with fail
  refine SA.out.mono ?_
  rintro e w2 ⟨rfl, b2⟩
  have K2 := K1h.out.below b2
  have d0 : w2.cell? ⟨w.heap.size, 0, none⟩ = some (.int .i64 1) := K2.cell 0
  have d6 : w2.cell? ⟨w.heap.size, 6, none⟩ = some (.int .i64 0) := K2.cell 6
  have d7 : w2.cell? ⟨w.heap.size, 7, none⟩ = some (.string ⟨#[]⟩) := K2.cell 7
  have d8 : w2.cell? ⟨w.heap.size, 8, none⟩ = some (.string ⟨#[]⟩) := K2.cell 8
  have d9 : w2.cell? ⟨w.heap.size, 9, none⟩ = some (.int .i64 0) := K2.cell 9
  have B2 := Lib.hid (B1h.out.trans (b2.mono (by omega)))
  clear e0 e1 e2 e3 e4 e5 K2 b2 SA W1 B1h K1h
  go_wp2_with fail
  go_ret
  exact ⟨rfl, B2.out⟩
set_option maxHeartbeats 2000000 in
set_option maxRecDepth 100000 in
theorem dcheck_event (a b c : Int) (k : ByteArray) (p : Option Addr) (cp : Nat) (L : List Fld) (w : World) (hl : L.length ≤ 100) (hk : k.size ≤ 9223372036854775807) (hx : Flds w p L) (hS : ∀ x ∈ L, x.nm.size ≤ 9223372036854775807 ∧ x.v.s.size ≤ 9223372036854775807)
    (ha : 1 ≤ a) (hb : 1 ≤ b) (hC : chkB a b c k L = true) :
    Calls Try.prog 90 #[cmdV 2 a b c k (.slice p L.length cp)] w fun e w' => e = .returned (.bool true) ∧ Below w.heap.size w w' := by
  obtain ⟨w1, hw1, K1, B1, hs1⟩ := cmd_start w 2 a b c k (.slice p L.length cp)
  have SA := Lib.hid (same_off a b c 0 0 0 k ⟨#[]⟩ (.slice p L.length cp) (.slice none 0 0) (by omega) w1)
  have CH := Lib.hid (fun W (b' : Below w1.heap.size w1 W) => rcheck_any a b c k p cp L W hl hk ((hx.below B1).below b') hS)
  rw [hC] at CH
  have hE : errI true = 0 := rfl
  rw [hE] at CH
  have a1 : decide (0 < a) = true := by simp; omega
  have b1 : decide (0 < b) = true := by simp; omega
  unfold evV at SA CH
  unfold cmdV
  have W1 := Lib.hid hw1
  have B1h := Lib.hid B1
  have K1h := Lib.hid K1
  have e0 : w1.cell? ⟨w.heap.size, 0, none⟩ = some (.int .i64 2) := K1.cell 0
  have e1 : w1.cell? ⟨w.heap.size, 1, none⟩ = some (.int .i64 a) := K1.cell 1
  have e2 : w1.cell? ⟨w.heap.size, 2, none⟩ = some (.int .i64 b) := K1.cell 2
  have e3 : w1.cell? ⟨w.heap.size, 3, none⟩ = some (.int .i64 c) := K1.cell 3
  have e4 : w1.cell? ⟨w.heap.size, 4, none⟩ = some (.string k) := K1.cell 4
  have e5 : w1.cell? ⟨w.heap.size, 5, none⟩ = some (.slice p L.length cp) := K1.cell 5
  generalize L.length = n at *
  clear hw1 K1 B1 hx hS hC
  go_enter Try.func90, Try.ntmps90
  go_wp2_with fail
  rw [← W1.out]
  go_wp2_with fail
  refine SA.out.mono ?_
  rintro e w2 ⟨rfl, b2⟩
  have K2 := K1h.out.below b2
  have d0 : w2.cell? ⟨w.heap.size, 0, none⟩ = some (.int .i64 2) := K2.cell 0
  have d1 : w2.cell? ⟨w.heap.size, 1, none⟩ = some (.int .i64 a) := K2.cell 1
  have d2 : w2.cell? ⟨w.heap.size, 2, none⟩ = some (.int .i64 b) := K2.cell 2
  have d3 : w2.cell? ⟨w.heap.size, 3, none⟩ = some (.int .i64 c) := K2.cell 3
  have d4 : w2.cell? ⟨w.heap.size, 4, none⟩ = some (.string k) := K2.cell 4
  have d5 : w2.cell? ⟨w.heap.size, 5, none⟩ = some (.slice p n cp) := K2.cell 5
  have B2 := Lib.hid (B1h.out.trans (b2.mono (by omega)))
  have K2h := Lib.hid K2
  have CH2 := Lib.hid (CH.out w2 b2)
  clear e0 e1 e2 e3 e4 e5 K2 b2 SA W1 B1h K1h CH
  go_wp2_with fail
  refine CH2.out.mono ?_
  rintro e w3 ⟨rfl, b3⟩
  have K3 := K2h.out.below b3
  have d1 : w3.cell? ⟨w.heap.size, 1, none⟩ = some (.int .i64 a) := K3.cell 1
  have d2 : w3.cell? ⟨w.heap.size, 2, none⟩ = some (.int .i64 b) := K3.cell 2
  have d6 : w3.cell? ⟨w.heap.size, 6, none⟩ = some (.int .i64 0) := K3.cell 6
  have d7 : w3.cell? ⟨w.heap.size, 7, none⟩ = some (.string ⟨#[]⟩) := K3.cell 7
  have d8 : w3.cell? ⟨w.heap.size, 8, none⟩ = some (.string ⟨#[]⟩) := K3.cell 8
  have d9 : w3.cell? ⟨w.heap.size, 9, none⟩ = some (.int .i64 0) := K3.cell 9
  have B3 := Lib.hid (B2.out.trans (b3.mono B2.out.size))
  clear K3 b3 CH2 K2h B2 d0
  go_wp2_with fail
  go_ret
  exact ⟨rfl, B3.out⟩
set_option maxHeartbeats 2000000 in
set_option maxRecDepth 100000 in
theorem dwrite_open (w : World) : Calls Try.prog 74 #[cmdV 1 0 0 0 ⟨#[]⟩ (.slice none 0 0)] w fun e w' => e = .returned (.tuple #[.string ⟨#[1]⟩, .int .i64 0]) ∧ Below w.heap.size w w' := by
  obtain ⟨w1, hw1, K1, B1, hs1⟩ := cmd_start w 1 0 0 0 ⟨#[]⟩ (.slice none 0 0)
  have MO := Lib.hid (dcheck_open w1)
  have NM := Lib.hid (fun W => dnum_any 1 (by decide) (by decide) W)
  rw [num_one] at NM
  unfold cmdV at MO ⊢
  have W1 := Lib.hid hw1
  have B1h := Lib.hid B1
  have K1h := Lib.hid K1
  have e0 : w1.cell? ⟨w.heap.size, 0, none⟩ = some (.int .i64 1) := K1.cell 0
  have e1 : w1.cell? ⟨w.heap.size, 1, none⟩ = some (.int .i64 0) := K1.cell 1
  have e2 : w1.cell? ⟨w.heap.size, 2, none⟩ = some (.int .i64 0) := K1.cell 2
  have e3 : w1.cell? ⟨w.heap.size, 3, none⟩ = some (.int .i64 0) := K1.cell 3
  have e4 : w1.cell? ⟨w.heap.size, 4, none⟩ = some (.string ⟨#[]⟩) := K1.cell 4
  have e5 : w1.cell? ⟨w.heap.size, 5, none⟩ = some (.slice none 0 0) := K1.cell 5
  have e6 : w1.cell? ⟨w.heap.size, 6, none⟩ = some (.int .i64 0) := K1.cell 6
  have e7 : w1.cell? ⟨w.heap.size, 7, none⟩ = some (.string ⟨#[]⟩) := K1.cell 7
  have e8 : w1.cell? ⟨w.heap.size, 8, none⟩ = some (.string ⟨#[]⟩) := K1.cell 8
  have e9 : w1.cell? ⟨w.heap.size, 9, none⟩ = some (.int .i64 0) := K1.cell 9
  clear hw1 K1 B1
  go_enter Try.func74, Try.ntmps74
  go_wp2_with fail
  rw [← W1.out]
  go_wp2_with fail
  refine MO.out.mono ?_
  rintro e w2 ⟨rfl, b2⟩
  have d0 : w2.cell? ⟨w.heap.size, 0, none⟩ = some (.int .i64 1) := (K1h.out.below b2).cell 0
  have B2 := Lib.hid (B1h.out.trans (b2.mono (by omega)))
  have K2h := Lib.hid (K1h.out.below b2)
  clear e0 e1 e2 e3 e4 e5 e6 e7 e8 e9 b2 MO W1 B1h K1h
  go_wp2_with fail
  refine (NM.out _).mono ?_
  rintro e w3 ⟨rfl, b3⟩
  have d0 : w3.cell? ⟨w.heap.size, 0, none⟩ = some (.int .i64 1) := (K2h.out.below b3).cell 0
  have B3 := Lib.hid (B2.out.trans (b3.mono B2.out.size))
  clear b3 B2 K2h
  go_wp2_with fail
  go_ret2
  exact ⟨rfl, B3.out⟩
set_option maxHeartbeats 2000000 in
set_option maxRecDepth 100000 in
theorem dwrite_event (a b c : Int) (k : ByteArray) (p : Option Addr) (cp : Nat) (L : List Fld) (w : World) (hl : L.length ≤ 100) (hk : k.size ≤ 9223372036854775807) (hx : Flds w p L) (hS : ∀ x ∈ L, x.nm.size ≤ 9223372036854775807 ∧ x.v.s.size ≤ 281474976710656)
    (hW : ∀ x ∈ L, x.v.Wf) (ha : 1 ≤ a) (hb : 1 ≤ b) (hC : chkB a b c k L = true) (hB : (evS a b c k L).size ≤ 100000) :
    Calls Try.prog 74 #[cmdV 2 a b c k (.slice p L.length cp)] w fun e w' => e = .returned (.tuple #[.string (askS a b c k L), .int .i64 0]) ∧ Below w.heap.size w w' := by
  obtain ⟨w1, hw1, K1, B1, hs1⟩ := cmd_start w 2 a b c k (.slice p L.length cp)
  have MO := Lib.hid (dcheck_event a b c k p cp L w1 hl hk (hx.below B1) (fun x hx => by have := hS x hx; omega) ha hb hC)
  have EN : Hid (∀ w2, Below w1.heap.size w1 w2 → Calls Try.prog 92 #[evV a b c k (.slice p L.length cp)] w2 fun e w' => e = .returned (.tuple #[.string (evS a b c k L), .int .i64 0]) ∧ Below w2.heap.size w2 w') := Lib.hid (by
    intro w2 b2
    have h := rencode_any a b c k p cp L w2 hl hk ((hx.below B1).below b2) hS hW
    rw [hC] at h
    exact h)
  have NM := Lib.hid (fun W => dnum_any 2 (by decide) (by decide) W)
  rw [num_two] at NM
  unfold cmdV at MO ⊢
  unfold evV at EN
  unfold askS
  have W1 := Lib.hid hw1
  have B1h := Lib.hid B1
  have K1h := Lib.hid K1
  have e0 : w1.cell? ⟨w.heap.size, 0, none⟩ = some (.int .i64 2) := K1.cell 0
  have e1 : w1.cell? ⟨w.heap.size, 1, none⟩ = some (.int .i64 a) := K1.cell 1
  have e2 : w1.cell? ⟨w.heap.size, 2, none⟩ = some (.int .i64 b) := K1.cell 2
  have e3 : w1.cell? ⟨w.heap.size, 3, none⟩ = some (.int .i64 c) := K1.cell 3
  have e4 : w1.cell? ⟨w.heap.size, 4, none⟩ = some (.string k) := K1.cell 4
  have e5 : w1.cell? ⟨w.heap.size, 5, none⟩ = some (.slice p L.length cp) := K1.cell 5
  have e6 : w1.cell? ⟨w.heap.size, 6, none⟩ = some (.int .i64 0) := K1.cell 6
  have e7 : w1.cell? ⟨w.heap.size, 7, none⟩ = some (.string ⟨#[]⟩) := K1.cell 7
  have e8 : w1.cell? ⟨w.heap.size, 8, none⟩ = some (.string ⟨#[]⟩) := K1.cell 8
  have e9 : w1.cell? ⟨w.heap.size, 9, none⟩ = some (.int .i64 0) := K1.cell 9
  clear hw1 K1 B1 hx hS hW hl hk ha hb hC
  generalize evS a b c k L = E at *
  generalize L.length = n at *
  go_enter Try.func74, Try.ntmps74
  go_wp2_with fail
  rw [← W1.out]
  go_wp2_with fail
  refine MO.out.mono ?_
  rintro e w2 ⟨rfl, b2⟩
  have d0 : w2.cell? ⟨w.heap.size, 0, none⟩ = some (.int .i64 2) := (K1h.out.below b2).cell 0
  have B2 := Lib.hid b2
  clear e0 e1 e2 e3 e4 e5 e6 e7 e8 e9 b2 MO W1
  go_wp2_with fail
  refine (NM.out _).mono ?_
  rintro e w3 ⟨rfl, b3⟩
  have b13 : Below w1.heap.size w1 w3 := B2.out.trans (b3.mono B2.out.size)
  have K3 := K1h.out.below b13
  have e0 : w3.cell? ⟨w.heap.size, 0, none⟩ = some (.int .i64 2) := K3.cell 0
  have e1 : w3.cell? ⟨w.heap.size, 1, none⟩ = some (.int .i64 a) := K3.cell 1
  have e2 : w3.cell? ⟨w.heap.size, 2, none⟩ = some (.int .i64 b) := K3.cell 2
  have e3 : w3.cell? ⟨w.heap.size, 3, none⟩ = some (.int .i64 c) := K3.cell 3
  have e4 : w3.cell? ⟨w.heap.size, 4, none⟩ = some (.string k) := K3.cell 4
  have e5 : w3.cell? ⟨w.heap.size, 5, none⟩ = some (.slice p n cp) := K3.cell 5
  have EN3 := Lib.hid (EN.out w3 b13)
  have B3 := Lib.hid (B1h.out.trans (b13.mono (by omega)))
  have K3h := Lib.hid K3
  clear b3 b13 K3 K1h EN B2 d0 B1h
  go_wp2_with fail
  refine (EN3.out).mono ?_
  rintro e w4 ⟨rfl, b4⟩
  have B4 := Lib.hid (B3.out.trans (b4.mono B3.out.size))
  have d0 : w4.cell? ⟨w.heap.size, 0, none⟩ = some (.int .i64 2) := (K3h.out.below b4).cell 0
  clear b4 B3 e0 e1 e2 e3 e4 e5 EN3 K3h
  go_wp2_with fail
  all_goals (go_ret2; exact ⟨rfl, B4.out⟩)
end Go.Proofs.Ytbghjcfepjbppaa
/-
  THE DOCUMENT's TELLER: Ask.
-/
namespace Go.Proofs.Ytbghjcfepjbppaa
open Go.RowKit
section
variable (nodes tn id sq : Int) (wa ra : Option Addr) (wn wc rn rc : Nat) (w : World)
set_option maxHeartbeats 1000000 in
set_option maxRecDepth 100000 in
theorem dask_zero : Calls Try.prog 50 #[dtel nodes tn id sq (.slice wa 0 wc) (.slice ra rn rc)] w fun e w' => e = .returned (.tuple #[.string ⟨#[]⟩, .bool false]) ∧ Below w.heap.size w w' := by
  have B1 := Lib.hid (fun o => (Below.refl w.heap.size w).alloc (Nat.le_refl _) o)
  unfold dtel
  go_enter Try.func50, Try.ntmps50
  go_wp2_with fail
  go_ret2
  exact ⟨rfl, B1.out _⟩
set_option maxHeartbeats 1000000 in
set_option maxRecDepth 100000 in
theorem dask_open (hn : 0 < wn) : Calls Try.prog 50 #[dtel nodes tn 0 sq (.slice wa wn wc) (.slice ra rn rc)] w fun e w' => e = .returned (.tuple #[.string ⟨#[1]⟩, .bool true]) ∧ Below w.heap.size w w' := by
  have hn1 : ((wn : Int) == 0) = false := by rw [beq_eq_false_iff_ne]; omega
  have B1 := Lib.hid (fun o => (Below.refl w.heap.size w).alloc (Nat.le_refl _) o)
  have DW := Lib.hid (fun W => dwrite_open W)
  have hz : ∀ o, w.heap.size ≤ (w.alloc o).heap.size := fun o => by simp
  unfold cmdV at DW
  unfold dtel
  go_enter Try.func50, Try.ntmps50
  go_wp2_with fail
  refine (DW.out _).mono ?_
  rintro e w2 ⟨rfl, b2⟩
  have B2 := Lib.hid ((B1.out _).trans (b2.mono (hz _)))
  clear b2
  go_wp2_with fail
  go_ret2
  exact ⟨rfl, B2.out⟩
end
set_option maxHeartbeats 4000000 in
set_option maxRecDepth 100000 in
theorem dask_event (nodes tn id sq : Int) (ra : Option Addr) (g o n wc rn rc : Nat) (a b c : Int) (k : ByteArray) (p : Option Addr) (m cp : Nat) (S : ByteArray) (w : World) (hid : id ≠ 0) (hsq : -9223372036854775808 ≤ sq + 1 ∧ sq + 1 ≤ 9223372036854775807) (hg : g < w.heap.size) 
    (c0 : w.cell? ⟨g, o, none⟩ = some (.int .i64 a)) (c1 : w.cell? ⟨g, o + 1, none⟩ = some (.int .i64 b)) (c2 : w.cell? ⟨g, o + 2, none⟩ = some (.int .i64 c)) (c3 : w.cell? ⟨g, o + 3, none⟩ = some (.string k)) (c4 : w.cell? ⟨g, o + 4, none⟩ = some (.slice p m cp))
    (WR : ∀ W, Below w.heap.size w W → Calls Try.prog 74 #[cmdV 2 id (sq + 1) c k (.slice p m cp)] W fun e w' => e = .returned (.tuple #[.string S, .int .i64 0]) ∧ Below W.heap.size W w') :
    Calls Try.prog 50 #[dtel nodes tn id sq (.slice (some ⟨g, o, none⟩) (n + 1) wc) (.slice ra rn rc)] w fun e w' => e = .returned (.tuple #[.string S, .bool true]) ∧ Below w.heap.size w w' := by
  have hi : (id == 0) = false := beq_eq_false_iff_ne.2 hid
  have hn1 : ((n : Int) + 1 == 0) = false := by rw [beq_eq_false_iff_ne]; omega
  have hn2 : (0 : Int) < (n : Int) + 1 := by omega
  have hw1 : IntKind.i64.wrap (sq + 1) = sq + 1 := by rw [IntKind.wrap_i64]; omega
  obtain ⟨X, hX, BX, KX, hsX⟩ : ∃ X, X = w.alloc (.cells #[.int .i64 nodes, .int .i64 tn, .int .i64 id, .int .i64 sq, .slice (some ⟨g, o, none⟩) (n + 1) wc, .slice ra rn rc] 28) ∧ Below w.heap.size w X ∧
      Blk X w.heap.size 28 #[.int .i64 nodes, .int .i64 tn, .int .i64 id, .int .i64 sq, .slice (some ⟨g, o, none⟩) (n + 1) wc, .slice ra rn rc] ∧ X.heap.size = w.heap.size + 1 := ⟨_, rfl, (Below.refl _ _).alloc (Nat.le_refl _) _, Blk.new _ _ _, by simp⟩
  have HX := Lib.hid hX
  have up : ∀ {i : Nat} {v : Value}, w.cell? ⟨g, i, none⟩ = some v → X.cell? ⟨g, i, none⟩ = some v := fun {i v} hc => (BX.cell (p := ⟨g, i, none⟩) hg).trans hc
  have d0 : X.cell? ⟨g, o, none⟩ = some (.int .i64 a) := up c0
  have d1 : X.cell? ⟨g, o + 1, none⟩ = some (.int .i64 b) := up c1
  have d2 : X.cell? ⟨g, o + 2, none⟩ = some (.int .i64 c) := up c2
  have d3 : X.cell? ⟨g, o + 3, none⟩ = some (.string k) := up c3
  have d4 : X.cell? ⟨g, o + 4, none⟩ = some (.slice p m cp) := up c4
  have t2 : X.cell? ⟨w.heap.size, 2, none⟩ = some (.int .i64 id) := KX.cell 2
  have t3 : X.cell? ⟨w.heap.size, 3, none⟩ = some (.int .i64 sq) := KX.cell 3
  have t4 : X.cell? ⟨w.heap.size, 4, none⟩ = some (.slice (some ⟨g, o, none⟩) (n + 1) wc) := KX.cell 4
  obtain ⟨V, hV, BV⟩ : ∃ V, V = X.alloc (.cells #[.int .i64 id, .int .i64 (sq + 1), .int .i64 c, .string k, .slice p m cp] 42) ∧ Below w.heap.size w V := ⟨_, rfl, BX.alloc (by omega) _⟩
  have HV := Lib.hid hV
  have WRh := Lib.hid (WR V BV)
  have BVh := Lib.hid BV
  unfold cmdV at WRh
  clear up c0 c1 c2 c3 c4 BX KX hV BV WR HX hsX
  subst hX
  unfold dtel
  go_enter Try.func50, Try.ntmps50
  go_wp2_with fail
  rw [← HV.out]
  refine WRh.out.mono ?_
  rintro e w2 ⟨rfl, b2⟩
  have B2 := Lib.hid (BVh.out.trans (b2.mono BVh.out.size))
  clear b2
  go_wp2_with fail
  go_ret2
  exact ⟨rfl, B2.out⟩
end Go.Proofs.Ytbghjcfepjbppaa
/-
  THE DOCUMENT's TELLER IN MEMORY.
-/
namespace Go.Proofs.Ytbghjcfepjbppaa
open Go.RowKit
/-- events that can be read, in blocks of a set -/
def RowQ (w : World) (V : Nat → Prop) (a : Option Addr) (E : List E6) : Prop := ∀ i (h : i < E.length), ∃ g o, a = some ⟨g, o, none⟩ ∧ g < w.heap.size ∧ V g ∧ ∀ j, j < 5 → w.cell? ⟨g, o + i * 5 + j, none⟩ = (E[i].cells)[j]?
theorem RowQ.row {w : World} {V : Nat → Prop} {a : Option Addr} {E : List E6} (h : RowQ w V a E) : Row6 w a E := fun i hi => by
  obtain ⟨g, o, e, hg, _, c⟩ := h i hi
  exact ⟨g, o, e, hg, c⟩
theorem rowQ_nil (w : World) (V : Nat → Prop) (a : Option Addr) : RowQ w V a [] := fun i hi => by simp at hi
theorem RowQ.fr {w w' : World} {V P : Nat → Prop} {a : Option Addr} {E : List E6} (h : RowQ w V a E) (f : Fr w w' P) (hP : ∀ q, P q → ¬ V q) : RowQ w' V a E := fun i hi => by
  obtain ⟨g, o, e, hg, hv, c⟩ := h i hi
  refine ⟨g, o, e, Nat.lt_of_lt_of_le hg f.size, hv, fun j hj => ?_⟩
  rw [← c j hj]
  simp only [World.cell?, f.block g hg (fun hp => hP g hp hv)]
theorem RowQ.mono {w : World} {V V' : Nat → Prop} {a : Option Addr} {E : List E6} (h : RowQ w V a E) (hV : ∀ q, V q → V' q) : RowQ w V' a E := fun i hi => by
  obtain ⟨g, o, e, hg, hv, c⟩ := h i hi
  exact ⟨g, o, e, hg, hV _ hv, c⟩
/-- the document's event is that one -/
structure Smx (w : World) (V : Nat → Prop) (x : E6) (y : EvD) : Prop where
  a : x.a = y.a
  b : x.b = y.b
  c : x.c = y.c
  k : x.k = y.k
  m : x.m = y.L.length
  f : Flds w x.q y.L
  v : ∀ ad, x.q = some ad → y.L ≠ [] → V ad.block
theorem Smx.fr {w w' : World} {V P : Nat → Prop} {x : E6} {y : EvD} (h : Smx w V x y) (f : Fr w w' P) (hP : ∀ q, P q → ¬ V q) : Smx w' V x y := by
  refine ⟨h.a, h.b, h.c, h.k, h.m, ?_, h.v⟩
  by_cases hl : y.L = []
  · rw [hl]; exact fun i hi => by simp at hi
  · exact h.f.fr f (fun ad e hp => hP _ hp (h.v ad e hl))
theorem Smx.mono {w : World} {V V' : Nat → Prop} {x : E6} {y : EvD} (h : Smx w V x y) (hV : ∀ q, V q → V' q) : Smx w V' x y := ⟨h.a, h.b, h.c, h.k, h.m, h.f, fun ad e hl => hV _ (h.v ad e hl)⟩
def Sam (w : World) (V : Nat → Prop) : List E6 → List EvD → Prop
  | [], [] => True
  | x :: E, y :: l => Smx w V x y ∧ Sam w V E l
  | _, _ => False
theorem Sam.len {w : World} {V : Nat → Prop} : ∀ {E : List E6} {l : List EvD}, Sam w V E l → E.length = l.length
  | [], [], _ => rfl
  | _ :: _, _ :: _, h => by simp only [List.length_cons, Sam.len h.2]
theorem Sam.fr {w w' : World} {V P : Nat → Prop} (f : Fr w w' P) (hP : ∀ q, P q → ¬ V q) : ∀ {E : List E6} {l : List EvD}, Sam w V E l → Sam w' V E l
  | [], [], _ => trivial
  | _ :: _, _ :: _, h => ⟨h.1.fr f hP, Sam.fr f hP h.2⟩
theorem Sam.mono {w : World} {V V' : Nat → Prop} (hV : ∀ q, V q → V' q) : ∀ {E : List E6} {l : List EvD}, Sam w V E l → Sam w V' E l
  | [], [], _ => trivial
  | _ :: _, _ :: _, h => ⟨h.1.mono hV, Sam.mono hV h.2⟩
theorem Sam.snoc {w : World} {V : Nat → Prop} {x : E6} {y : EvD} (hx : Smx w V x y) : ∀ {E : List E6} {l : List EvD}, Sam w V E l → Sam w V (E ++ [x]) (l ++ [y])
  | [], [], _ => ⟨hx, trivial⟩
  | _ :: _, _ :: _, h => ⟨h.1, Sam.snoc hx h.2⟩
theorem Sam.at {w : World} {V : Nat → Prop} : ∀ {E : List E6} {l : List EvD}, Sam w V E l → ∀ i (h1 : i < E.length) (h2 : i < l.length), Smx w V E[i] l[i]
  | _ :: _, _ :: _, h, 0, _, _ => h.1
  | _ :: _, _ :: _, h, i + 1, h1, h2 => Sam.at h.2 i (by simpa using h1) (by simpa using h2)
theorem cells6_get : ∀ {E : List E6} {i : Nat} (h : i < E.length) (j : Nat), j < 5 → (cells6 E)[i * 5 + j]? = (E[i].cells)[j]?
  | x :: E, 0, _, j, hj => by
    show (x.cells ++ cells6 E)[0 * 5 + j]? = _
    rw [List.getElem?_append_left (by simpa [E6.cells, encE] using hj)]
    simp
  | x :: E, i + 1, h, j, hj => by
    show (x.cells ++ cells6 E)[(i + 1) * 5 + j]? = _
    rw [List.getElem?_append_right (by simp [E6.cells, encE]; omega), show (i + 1) * 5 + j - x.cells.length = i * 5 + j by simp [E6.cells, encE]; omega, cells6_get (by simpa using h) j hj]
    simp
theorem cells6_len : ∀ (E : List E6), (cells6 E).length = E.length * 5
  | [] => rfl
  | x :: E => by
    show (x.cells ++ cells6 E).length = _
    rw [List.length_append, cells6_len E]
    simp [E6.cells, encE]; omega
/-- a row that was put -/
theorem row_own {w' : World} {B : Nat} {a : Option Addr} {c : Nat} {E : List E6} (h : w'.ownsRow B 42 5 (.slice a E.length c) E.length (cells6 E)) : RowQ w' (fun q => B ≤ q ∧ q < w'.heap.size) a E ∧ E.length ≤ c ∧ c ≤ maxLen := by
  have h0 := h
  rcases h.2 with ⟨h1, h2⟩ | ⟨g, cap, cur, h1, hb, hg, hc, hm, _⟩
  · have h3 : a = none ∧ E.length = 0 ∧ c = 0 := by simpa using h1
    refine ⟨fun i hi => by omega, by omega, by rw [h3.2.2]; exact Nat.zero_le _⟩
  · have h3 := Value.slice.inj h1
    obtain ⟨rfl, _, rfl⟩ := h3
    have hlt := World.ownsRow.lt h0 g rfl
    refine ⟨fun i hi => ⟨g, 0, rfl, hlt.2, hlt, fun j hj => ?_⟩, hc, hm⟩
    rw [Nat.zero_add, h0.cellAt _ (by rw [Nat.mul_comm]; omega)]
    exact cells6_get hi j hj
structure DcA (w : World) (V : Nat → Prop) (s : TS) (wa : Option Addr) (wc : Nat) (ra : Option Addr) (rc : Nat) (EW ER : List E6) : Prop where
  we : RowQ w V wa EW
  ws : Sam w V EW s.W
  wl : s.W.length ≤ wc ∧ wc ≤ maxLen
  re : RowQ w V ra ER
  rs : Sam w V ER s.R
theorem DcA.fr {w w' : World} {V P : Nat → Prop} {s : TS} {wa : Option Addr} {wc : Nat} {ra : Option Addr} {rc : Nat} {EW ER : List E6} (h : DcA w V s wa wc ra rc EW ER) (f : Fr w w' P) (hP : ∀ q, P q → ¬ V q) : DcA w' V s wa wc ra rc EW ER :=
  ⟨RowQ.fr h.we f hP, Sam.fr f hP h.ws, h.wl, h.re.fr f hP, h.rs.fr f hP⟩
theorem DcA.next {w w' : World} {V : Nat → Prop} {s : TS} {wa : Option Addr} {wc : Nat} {ra : Option Addr} {rc : Nat} {EW ER : List E6} (h : DcA w V s wa wc ra rc EW ER) (b : Below w.heap.size w w') : DcA w' V s wa wc ra rc EW ER :=
  h.fr (Fr.of_below b (fun _ => False)) (fun _ h => h.elim)
theorem DcA.mono {w : World} {V V' : Nat → Prop} {s : TS} {wa : Option Addr} {wc : Nat} {ra : Option Addr} {rc : Nat} {EW ER : List E6} (h : DcA w V s wa wc ra rc EW ER) (hV : ∀ q, V q → V' q) : DcA w V' s wa wc ra rc EW ER :=
  ⟨RowQ.mono h.we hV, Sam.mono hV h.ws, h.wl, h.re.mono hV, h.rs.mono hV⟩
/-- what a call of the document's answers -/
def DcR (w : World) (V : Nat → Prop) (nodes : Int) (s' : TS) (v : Value) (w' : World) : Prop :=
  ∃ wa wc ra rc EW ER, v = dtel nodes s'.tn s'.id s'.sq (.slice wa s'.W.length wc) (.slice ra s'.R.length rc) ∧ DcA w' (fun q => V q ∨ (w.heap.size ≤ q ∧ q < w'.heap.size)) s' wa wc ra rc EW ER ∧ Below w.heap.size w w'
section
variable {w : World} {V : Nat → Prop} {s : TS} {wa : Option Addr} {wc : Nat} {ra : Option Addr} {rc : Nat} {EW ER : List E6} {nodes : Int}
theorem DcA.same {w' : World} {tn id sq : Int} (h : DcA w V s wa wc ra rc EW ER) (b : Below w.heap.size w w') : DcR w V nodes ⟨tn, id, sq, s.W, s.R⟩ (dtel nodes tn id sq (.slice wa s.W.length wc) (.slice ra s.R.length rc)) w' :=
  ⟨wa, wc, ra, rc, EW, ER, rfl, ⟨RowQ.mono (h.next b).we (fun _ h => .inl h), Sam.mono (fun _ h => .inl h) (h.next b).ws, h.wl, (h.next b).re.mono (fun _ h => .inl h), (h.next b).rs.mono (fun _ h => .inl h)⟩, b⟩
theorem DcA.head {x : EvD} {l : List EvD} (h : DcA w V s wa wc ra rc EW ER) (hW : s.W = x :: l) :
    ∃ g o y E, EW = y :: E ∧ wa = some ⟨g, o, none⟩ ∧ g < w.heap.size ∧ Smx w V y x ∧ Sam w V E l ∧ (∀ j, j < 5 → w.cell? ⟨g, o + j, none⟩ = (y.cells)[j]?) ∧ RowQ w V (if wc = 1 then some ⟨g, o, none⟩ else some ⟨g, o + 5, none⟩) E ∧ l.length + 1 ≤ wc := by
  have hs := h.ws
  have hl := h.wl.1
  rw [hW] at hs hl
  simp only [List.length_cons] at hl
  cases EW with
  | nil => exact absurd hs (by simp [Sam])
  | cons y E =>
    obtain ⟨g, o, e, hg, hv, c⟩ := h.we 0 (by simp)
    refine ⟨g, o, y, E, rfl, e, hg, hs.1, hs.2, fun j hj => by simpa using c j hj, fun i hi => ?_, hl⟩
    obtain ⟨g', o', e', hg', hv', c'⟩ := h.we (i + 1) (by simpa using hi)
    rw [e] at e'
    cases e'
    have hle := Sam.len hs.2
    rw [if_neg (by omega)]
    refine ⟨g, o + 5, rfl, hg, hv, fun j hj => ?_⟩
    have := c' j hj
    rw [show o + (i + 1) * 5 + j = o + 5 + i * 5 + j by omega] at this
    simpa using this
set_option maxHeartbeats 1000000 in
theorem ddtold {m : Nat} (h : DcA w V s wa wc ra rc EW ER) (ok : s.Ok m) (hm : m ≤ 900) (e n lead : Int) :
    Calls Try.prog 12 #[dtel nodes s.tn s.id s.sq (.slice wa s.W.length wc) (.slice ra s.R.length rc), .int .i64 e, .int .i64 n, .int .i64 lead] w fun r w' => ∃ v, r = .returned v ∧ DcR w V nodes (s.told nodes e n lead) v w' := by
  have hsq := ok.sq
  have htn := ok.tn
  have hrl := ok.r
  have H := h
  have hel := Sam.len h.rs
  obtain ⟨tn, id, sq, W, R⟩ := s
  simp only at hsq htn hrl hel ⊢
  unfold TS.told
  cases W with
  | nil =>
    exact (dtold_zero nodes tn id sq e n lead wa ra wc R.length rc w).mono fun r w' ⟨he, b⟩ => ⟨_, he, H.same b⟩
  | cons x l =>
    have hn : 0 < (x :: l).length := by simp
    obtain ⟨g, o, y, E, rfl, rfl, hg, hxy, hEl, hc, hrow, hwc⟩ := h.head rfl
    by_cases h0 : e = 0
    · subst h0
      simp only [if_true]
      by_cases hi : id = 0
      · subst hi
        simp only [if_true]
        by_cases hr : 1 ≤ n ∧ n ≤ 549755813888
        · rw [if_pos hr]
          exact (dtold_opens nodes tn sq n lead _ ra _ wc R.length rc w hn hr).mono fun r w' ⟨he, b⟩ => ⟨_, he, H.same b⟩
        · rw [if_neg hr]
          exact (dtold_opens_no nodes tn sq n lead _ ra _ wc R.length rc w hn hr).mono fun r w' ⟨he, b⟩ => ⟨_, he, H.same b⟩
      · simp only [if_neg hi]
        by_cases hs : n = sq + 1
        · subst hs
          simp only [if_true]
          refine (dtold_next nodes tn id sq lead g o ra _ l.length wc R.length rc w hi (by omega) hwc h.wl.2 rfl).mono fun r w' ⟨he, b⟩ => ⟨_, he, _, wc - 1, ra, rc, E, ER, rfl, ⟨?_, ?_, ?_, ?_, ?_⟩, b⟩
          · exact RowQ.mono (RowQ.fr hrow (Fr.of_below b (fun _ => False)) (fun _ h => h.elim)) (fun _ h => .inl h)
          · exact Sam.mono (fun _ h => .inl h) (Sam.fr (Fr.of_below b (fun _ => False)) (fun _ h => h.elim) hEl)
          · exact ⟨by show l.length ≤ wc - 1; omega, by have := h.wl.2; omega⟩
          · exact RowQ.mono (h.next b).re (fun _ h => .inl h)
          · exact Sam.mono (fun _ h => .inl h) (h.next b).rs
        · rw [if_neg hs]
          exact (dtold_old nodes tn id sq n lead _ ra _ wc R.length rc w hn hi (by omega) hs).mono fun r w' ⟨he, b⟩ => ⟨_, he, H.same b⟩
    · simp only [if_neg h0]
      by_cases h4 : e = 4 ∧ id ≠ 0
      · obtain ⟨rfl, hi⟩ := h4
        rw [if_pos ⟨rfl, hi⟩]
        exact (dtold_none nodes tn id sq n lead _ ra _ wc R.length rc w hn hi).mono fun r w' ⟨he, b⟩ => ⟨_, he, H.same b⟩
      · rw [if_neg h4]
        by_cases h130 : e = 130 ∧ id ≠ 0
        · obtain ⟨rfl, hi⟩ := h130
          rw [if_pos ⟨rfl, hi⟩]
          have hR6 := h.re.row
          have hW6 := h.we.row
          have hdr := dtold_refuse nodes tn id sq n lead g o ra _ l.length wc rc y ER E w hi hwc h.wl.2 rfl hW6 hR6 (by omega)
          rw [hel] at hdr
          refine hdr.mono fun r w' ⟨a', c', he, ho, b⟩ => ⟨_, he, (if wc = 1 then some ⟨g, o, none⟩ else some ⟨g, o + 5, none⟩), wc - 1, a', c', E, ER ++ [y], ?_, ⟨?_, ?_, ?_, ?_, ?_⟩, b⟩
          · simp only [List.length_append, List.length_cons, List.length_nil, hel]
          · exact RowQ.mono (RowQ.fr hrow (Fr.of_below b (fun _ => False)) (fun _ h => h.elim)) (fun _ h => .inl h)
          · exact Sam.mono (fun _ h => .inl h) (Sam.fr (Fr.of_below b (fun _ => False)) (fun _ h => h.elim) hEl)
          · exact ⟨by show l.length ≤ wc - 1; omega, by have := h.wl.2; omega⟩
          · exact (row_own ho).1.mono (fun _ h => .inr h)
          · refine Sam.mono (fun _ h => .inl h) (Sam.snoc ?_ (h.next b).rs)
            exact hxy.fr (Fr.of_below b (fun _ => False)) (fun _ h => h.elim)
        · rw [if_neg h130]
          by_cases hl : 0 ≤ lead ∧ lead < nodes
          · rw [show turnN lead tn nodes = lead by unfold turnN; rw [if_pos hl]]
            exact (dtold_lead nodes tn id sq e n lead _ ra _ wc R.length rc w hn h0 h4 h130 hl).mono fun r w' ⟨he, b⟩ => ⟨_, he, H.same b⟩
          · rw [show turnN lead tn nodes = nextN tn nodes by unfold turnN; rw [if_neg hl]]
            exact (dtold_late nodes tn id sq e n lead _ ra _ wc R.length rc w hn (by omega) h0 h4 h130 hl).mono fun r w' ⟨he, b⟩ => ⟨_, he, H.same b⟩
theorem ddlate {m : Nat} (h : DcA w V s wa wc ra rc EW ER) (ok : s.Ok m) :
    Calls Try.prog 14 #[dtel nodes s.tn s.id s.sq (.slice wa s.W.length wc) (.slice ra s.R.length rc)] w fun r w' => ∃ v, r = .returned v ∧ DcR w V nodes ⟨nextN s.tn nodes, s.id, s.sq, s.W, s.R⟩ v w' := by
  have htn := ok.tn
  exact (dlate_any nodes s.tn s.id s.sq wa ra _ wc _ rc w (by omega)).mono fun r w' ⟨he, b⟩ => ⟨_, he, h.same b⟩
/-- the document's Add -/
theorem ddadd (h : DcA w V s wa wc ra rc EW ER) (a b c : Int) (k : ByteArray) (p : Option Addr) (cp : Nat) (L : List Fld) (hF : Flds w p L) (hp : ∀ ad, p = some ad → V ad.block) (hl : L.length ≤ 20) (hk : k.size ≤ 9223372036854775807) (hL : FldOk L) :
    Calls Try.prog 9 #[dtel nodes s.tn s.id s.sq (.slice wa s.W.length wc) (.slice ra s.R.length rc), evV a b c k (.slice p L.length cp)] w fun r w' => ∃ v, r = .returned (.tuple #[v, .int .i64 (s.addE c k L)]) ∧ DcR w V nodes (s.add c k L) v w' := by
  have CK : ∀ W, Below w.heap.size w W → Calls Try.prog 39 #[evV 1 1 c k (.slice p L.length cp)] W fun e w' => e = .returned (.int .i64 (errI (chkB 1 1 c k L))) ∧ Below W.heap.size W w' :=
    fun W b' => rcheck_any 1 1 c k p cp L W (by omega) hk (hF.below b') (fun x hx => ⟨(hL x hx).2.1, by have := (hL x hx).2.2; omega⟩)
  have hel := Sam.len h.ws
  by_cases hb : chkB 1 1 c k L = true
  · rw [hb] at CK
    by_cases hn : s.W.length < 256
    · have he : s.addE c k L = 0 := by unfold TS.addE; rw [if_pos hb, if_pos hn]
      have hs : s.add c k L = ⟨s.tn, s.id, s.sq, s.W ++ [⟨0, 0, c, k, L⟩], s.R⟩ := by unfold TS.add TS.addB; simp [hb, hn]
      rw [he, hs]
      have hd := dadd_ok nodes s.tn s.id s.sq wa ra wc s.R.length rc a b c k p L.length cp w h.we.row (by omega) CK
      rw [hel] at hd
      refine hd.mono fun r w' ⟨a', c', he, ho, b⟩ => ?_
      obtain ⟨hro, hcl, hcm⟩ := row_own ho
      have hll : (EW ++ [(⟨0, 0, c, k, p, L.length, cp⟩ : E6)]).length = (s.W ++ [(⟨0, 0, c, k, L⟩ : EvD)]).length := by simp [hel]
      refine ⟨_, he, a', c', ra, rc, EW ++ [⟨0, 0, c, k, p, L.length, cp⟩], ER, by rw [hll], ⟨hro.mono (fun _ h => .inr h), ?_, ⟨by rw [← hll]; exact hcl, hcm⟩, RowQ.mono (h.next b).re (fun _ h => .inl h), Sam.mono (fun _ h => .inl h) (h.next b).rs⟩, b⟩
      refine Sam.mono (fun _ h => .inl h) (Sam.snoc ?_ (h.next b).ws)
      exact ⟨rfl, rfl, rfl, rfl, rfl, hF.below b, fun ad e _ => hp ad e⟩
    · have he : s.addE c k L = 7 := by unfold TS.addE; rw [if_pos hb, if_neg hn]
      have hs : s.add c k L = s := by unfold TS.add TS.addB; simp [hn]
      rw [he, hs]
      exact (dadd_full nodes s.tn s.id s.sq wa ra s.W.length wc s.R.length rc a b c k p L.length cp w (by omega) CK).mono fun r w' ⟨he, b⟩ => ⟨_, he, h.same b⟩
  · have hb' : chkB 1 1 c k L = false := by simpa using hb
    rw [hb'] at CK
    have he : s.addE c k L = 1 := by unfold TS.addE; rw [if_neg hb]
    have hs : s.add c k L = s := by unfold TS.add TS.addB; simp [hb']
    rw [he, hs]
    exact (dadd_bad nodes s.tn s.id s.sq wa ra s.W.length wc s.R.length rc a b c k p L.length cp w CK).mono fun r w' ⟨he, b⟩ => ⟨_, he, h.same b⟩
theorem ddask {m : Nat} (h : DcA w V s wa wc ra rc EW ER) (ok : s.Ok m) (hm : m ≤ 900) :
    Calls Try.prog 50 #[dtel nodes s.tn s.id s.sq (.slice wa s.W.length wc) (.slice ra s.R.length rc)] w fun r w' => r = .returned (.tuple #[.string s.ask.1, .bool s.ask.2]) ∧ Below w.heap.size w w' := by
  have hsq := ok.sq
  have hid' := ok.id
  have hwe := ok.we
  obtain ⟨tn, id, sq, W, R⟩ := s
  simp only at hsq hid' hwe ⊢
  unfold TS.ask
  cases W with
  | nil => exact dask_zero nodes tn id sq wa ra wc R.length rc w
  | cons x l =>
    obtain ⟨g, o, y, E, rfl, rfl, hg, hxy, hEl, hc, hrow, hwc⟩ := h.head rfl
    by_cases hi : id = 0
    · subst hi
      exact dask_open nodes tn sq _ ra _ wc R.length rc w (by simp)
    · simp only [if_neg hi]
      have hx := hwe x List.mem_cons_self
      obtain ⟨_, hk16, hl8, hnm⟩ := EvK.sizes hx.c
      have hC : chkB id (sq + 1) x.c x.k x.L = true := chk_at hx.c (by omega) (by omega)
      have hyf := hxy.f
      have hya := hxy.c
      have hyk := hxy.k
      have hym := hxy.m
      obtain ⟨ya, yb, yc, yk, yq, ym, yp⟩ := y
      simp only at hyf hya hyk hym
      subst hya hyk hym
      exact dask_event nodes tn id sq ra g o l.length wc R.length rc ya yb x.c x.k yq x.L.length yp _ w hi (by omega) hg (hc 0 (by decide)) (hc 1 (by decide)) (hc 2 (by decide)) (hc 3 (by decide)) (hc 4 (by decide))
        (fun W b' => dwrite_event id (sq + 1) x.c x.k yq yp x.L W (by omega) (by omega) (hyf.below b') (fun f hf => ⟨by have := hnm f hf; omega, (hx.f f hf).2⟩) (fun f hf => (hx.f f hf).1) (by omega) (by omega) hC (ev_size hC))
end
end Go.Proofs.Ytbghjcfepjbppaa
/-
  THE WALK OF Ref: fields appended one by one, in a region that draws its order: 36 ways, met by a cut.
-/
namespace Go.Proofs.Ytbghjcfepjbppaa
open Go.RowKit
/-- what Ref answers: its fields lie in new memory -/
def RefdN (w : World) (a b c : Int) (k : ByteArray) (L : List Fld) (e : Ending) (w' : World) : Prop := ∃ p cp, e = .returned (evV a b c k (.slice p (List.length L) cp)) ∧ Flds w' p L ∧ (∀ ad, p = some ad → w.heap.size ≤ ad.block ∧ ad.block < w'.heap.size) ∧ Below w.heap.size w w'
set_option maxHeartbeats 2000000 in
set_option maxRecDepth 100000 in
theorem ref_any (a b c : Int) (k : ByteArray) (p : Option Addr) (cp : Nat) (L : List Fld) (w : World) (hl : L.length ≤ 100) (hx : Flds w p L) :
    Calls Try.prog 10 #[evV a b c k (.slice p L.length cp)] w (RefdN w a b c k L) := by
  have HX := Lib.hid hx
  clear hx
  obtain ⟨w3, hw3, I0, B3, hs3⟩ : ∃ w3, w3 = ((w.alloc (.cells #[.int .i64 a, .int .i64 b, .int .i64 c, .string k, .slice p L.length cp] 31)).alloc (.cells #[.int .i64 0, .int .i64 0, .int .i64 0, .string ⟨#[]⟩, .slice none 0 0] 42)).alloc (.cells #[.int .i64 a, .int .i64 b, .int .i64 c, .string k, .slice none 0 0] 42) ∧
      RefI w w3 w.heap.size (w.heap.size + 3) a b c k (.slice p L.length cp) L 0 (.slice none 0 0) ∧ Below w.heap.size w w3 ∧ w3.heap.size = w.heap.size + 3 := by
    have B1 := (Below.refl w.heap.size w).alloc (Nat.le_refl _) (.cells #[.int .i64 a, .int .i64 b, .int .i64 c, .string k, .slice p L.length cp] 31)
    have e1 : Blk (w.alloc (.cells #[.int .i64 a, .int .i64 b, .int .i64 c, .string k, .slice p L.length cp] 31)) w.heap.size 31 #[.int .i64 a, .int .i64 b, .int .i64 c, .string k, .slice p L.length cp] := heap_alloc_new w _
    have h1 : (w.alloc (.cells #[.int .i64 a, .int .i64 b, .int .i64 c, .string k, .slice p L.length cp] 31)).heap.size = w.heap.size + 1 := by simp
    generalize w.alloc (.cells #[.int .i64 a, .int .i64 b, .int .i64 c, .string k, .slice p L.length cp] 31) = w1 at *
    have b2 := (Below.refl w1.heap.size w1).alloc (Nat.le_refl _) (.cells #[.int .i64 0, .int .i64 0, .int .i64 0, .string ⟨#[]⟩, .slice none 0 0] 42)
    have e2 : Blk (w1.alloc (.cells #[.int .i64 0, .int .i64 0, .int .i64 0, .string ⟨#[]⟩, .slice none 0 0] 42)) w1.heap.size 42 #[.int .i64 0, .int .i64 0, .int .i64 0, .string ⟨#[]⟩, .slice none 0 0] := heap_alloc_new w1 _
    have h2 : (w1.alloc (.cells #[.int .i64 0, .int .i64 0, .int .i64 0, .string ⟨#[]⟩, .slice none 0 0] 42)).heap.size = w1.heap.size + 1 := by simp
    have e1' := e1.below b2
    have B2 := B1.trans (b2.mono (by omega))
    generalize w1.alloc (.cells #[.int .i64 0, .int .i64 0, .int .i64 0, .string ⟨#[]⟩, .slice none 0 0] 42) = w2 at *
    have b3 := (Below.refl w2.heap.size w2).alloc (Nat.le_refl _) (.cells #[.int .i64 a, .int .i64 b, .int .i64 c, .string k, .slice none 0 0] 42)
    have e3 : Blk (w2.alloc (.cells #[.int .i64 a, .int .i64 b, .int .i64 c, .string k, .slice none 0 0] 42)) w2.heap.size 42 #[.int .i64 a, .int .i64 b, .int .i64 c, .string k, .slice none 0 0] := heap_alloc_new w2 _
    refine ⟨_, rfl, ⟨e1'.below b3, ?_, ?_, World.ownsRow_nil _ _ _ _, B2.trans (b3.mono (by omega))⟩, B2.trans (b3.mono (by omega)), by simp; omega⟩
    · have := e2.below b3; rw [h1] at this; exact this
    · rw [h2, h1] at e3; exact e3
  generalize hn : L.length = n at *
  have HN := Lib.hid hn
  have W3 := Lib.hid hw3
  have I0h := Lib.hid I0
  have B3h := Lib.hid B3
  clear hn hw3 I0 B3
  generalize hy : w.heap.size = Y at *
  obtain ⟨i62, hi, hz0, hz1, hz2⟩ := info_parts info62
  unfold evV
  go_enter Try.func10, Try.ntmps10
  go_wp2_with fail
  rw [← W3.out]
  go_loopw [4] (fun i wq => ∃ (j : Nat) (u : Value), i = .int .i64 j ∧ j ≤ n ∧ RefI w wq Y (Y + 3) a b c k (.slice p n cp) L j u ∧ Y + 3 ≤ wq.heap.size) (fun i _ => n - (intOf i).toNat)
  case atStart => exact ⟨0, .slice none 0 0, rfl, Nat.zero_le _, I0h.out, by omega⟩
  case round =>
    obtain ⟨j, u, rfl, hj, hI, hsz⟩ := hrel
    have HI := Lib.hid hI
    obtain ⟨ua, uc, hu⟩ := fld_form hI.o
    subst hu
    have e0 : wr.cell? ⟨Y, 0, none⟩ = some (.int .i64 a) := hI.e.cell 0
    have e4 : wr.cell? ⟨Y, 4, none⟩ = some (.slice p n cp) := hI.e.cell 4
    have x0 : wr.cell? ⟨Y + 1 + 1, 0, none⟩ = some (.int .i64 a) := hI.x.cell 0
    have x1 : wr.cell? ⟨Y + 1 + 1, 1, none⟩ = some (.int .i64 b) := hI.x.cell 1
    have x2 : wr.cell? ⟨Y + 1 + 1, 2, none⟩ = some (.int .i64 c) := hI.x.cell 2
    have x3 : wr.cell? ⟨Y + 1 + 1, 3, none⟩ = some (.string k) := hI.x.cell 3
    have x4 : wr.cell? ⟨Y + 1 + 1, 4, none⟩ = some (.slice ua j uc) := hI.x.cell 4
    clear hI
    by_cases hjn : j < n
    · have hjL : j < L.length := by rw [HN.out]; exact hjn
      obtain ⟨g0, o, rfl, hg0, c0, c1, c2, c3, c4⟩ := HX.out j hjL
      have hgb : g0 < Y := by rw [← hy]; exact hg0
      rw [← HI.out.b.cell (p := ⟨g0, _, none⟩) hgb] at c0 c1 c2 c3 c4
      have PU := Lib.hid (fun W0 w4 g cap => HI.out.push (W0 := W0) (w4 := w4) (g := g) (cap := cap) (by omega) hjL)
      unfold encF at PU
      generalize L[j] = x at *
      obtain ⟨xn, xk, xm, xf, xs⟩ := x
      simp only at c0 c1 c2 c3 c4 PU
      have H1C : Hid (∀ u ∈ [Value.string xn, .int .i64 xk, .int .i64 xm, .float .f64 xf, .string xs], u.oneCell' = true) := Lib.hid (by
        intro u hu
        simp at hu
        rcases hu with rfl | rfl | rfl | rfl | rfl <;> rfl)
      have lx : Y + 1 + 1 < wr.heap.size := by omega
      have y4 : ∀ o, (wr.alloc o).cell? ⟨Y + 1 + 1, 4, none⟩ = some (.slice ua j uc) := fun o => by rw [World.cell?_alloc_lt _ _ _ lx]; exact x4
      clear e0 x0 x1 x2 x3
      go_upto_block 1 with fail
      go_cut [21] (fun s21 wx => ∃ v5, RefI w wx Y (Y + 3) a b c k (.slice (some ⟨g0, o, none⟩) n cp) L (j + 1) v5 ∧ Y + 3 ≤ wx.heap.size)
      case first =>
        go_upto_region 5 with fail
        go_region_law
          ((refine step_append_lies _ rfl (.tmp 22) (.tmp 36) 40 rfl (Y + 3) 108 i62 (.agg #[.string ⟨#[]⟩, .int .i64 0, .int .i64 0, .float .f64 0, .string ⟨#[]⟩]) 5 56 Try.underlying40 hi hz0 hz1 hz2 rfl (by decide) (.slice ua j uc) j (cellsF (L.take j)) rfl (World.ownsRow.alloc HI.out.o _) ⟨wr.heap.size, 0, none⟩ 1 1 [.string xn, .int .i64 xk, .int .i64 xm, .float .f64 xf, .string xs] rfl rfl (World.news_of_block (cs := #[.string xn, .int .i64 xk, .int .i64 xm, .float .f64 xf, .string xs]) (heap_alloc_new wr _)) H1C.out (by decide) (by unfold maxLen; omega) (by omega) (by show Y + 3 ≤ (wr.alloc _).heap.size; simp; omega) _ rfl ?_; intro g4 cap4 w4 ho4 hg4 hat4 _; obtain ⟨I4, f4, q4⟩ := PU.out _ w4 g4 cap4 (((Below.refl _ wr).drew).alloc (Nat.le_refl _) _) ho4 hg4; have G5 := World.ownsRow.lt I4.o g4 rfl; have I4h := Lib.hid I4; have hzz : Y + 3 ≤ (w4.setCell ⟨Y + 1 + 1, 4, none⟩ (.slice (some ⟨g4, 0, none⟩) (j + 1) cap4)).heap.size := Nat.le_trans G5.1 (Nat.le_of_lt G5.2); clear I4 ho4 hg4 hat4 G5))
        all_goals (go_wp2_with fail; go_meet; exact ⟨_, I4h.out, hzz⟩)
      case rest =>
        obtain ⟨v5, I5, hz5⟩ := hcut
        have I5h := Lib.hid I5
        clear I5 H1C PU c0 c1 c2 c3 c4 e4 x4 y4 HI I0h W3 HX B3h
        go_wp2_with fail
        go_roundw
        case rel => exact ⟨j + 1, _, by go_num, by omega, I5h.out, hz5⟩
        case measure => simp [intOf]; omega
    · obtain rfl : j = n := by omega
      have z0 : wr.cell? ⟨Y + 1, 0, none⟩ = some (.int .i64 0) := HI.out.z.cell 0
      have z1 : wr.cell? ⟨Y + 1, 1, none⟩ = some (.int .i64 0) := HI.out.z.cell 1
      have z2 : wr.cell? ⟨Y + 1, 2, none⟩ = some (.int .i64 0) := HI.out.z.cell 2
      have z3 : wr.cell? ⟨Y + 1, 3, none⟩ = some (.string ⟨#[]⟩) := HI.out.z.cell 3
      have z4 : wr.cell? ⟨Y + 1, 4, none⟩ = some (.slice none 0 0) := HI.out.z.cell 4
      have f0 := HI.out.z.free 0
      have f1 := HI.out.z.free 1
      have f2 := HI.out.z.free 2
      have f3 := HI.out.z.free 3
      have f4 := HI.out.z.free 4
      obtain ⟨W5, hW5, R5, B5, L5⟩ := ref_end HI.out HN.out.symm
      have R5h := Lib.hid R5
      have B5h := Lib.hid B5
      have L5h := Lib.hid L5
      have W5h := Lib.hid hW5
      clear hW5 R5 B5 L5
      go_wp2_with fail
      rw [← W5h.out]
      have q0 : W5.cell? ⟨Y + 1, 0, none⟩ = some (.int .i64 a) := R5h.out.cell 0
      have q1 : W5.cell? ⟨Y + 1, 1, none⟩ = some (.int .i64 b) := R5h.out.cell 1
      have q2 : W5.cell? ⟨Y + 1, 2, none⟩ = some (.int .i64 c) := R5h.out.cell 2
      have q3 : W5.cell? ⟨Y + 1, 3, none⟩ = some (.string k) := R5h.out.cell 3
      have q4 : W5.cell? ⟨Y + 1, 4, none⟩ = some (.slice ua j uc) := R5h.out.cell 4
      refine bodyPost_ret (by simp [results, Try.results10, go_sem, q0, q1, q2, q3, q4]; try rfl) rfl ?_
      have hs5 : W5.heap.size = wr.heap.size := by rw [W5h.out]; simp
      have LO := HI.out.o
      refine ⟨ua, uc, by rw [HN.out]; rfl, L5h.out, fun ad e => ?_, hy ▸ B5h.out⟩
      subst e
      obtain ⟨ab, ao, ax⟩ := ad
      rcases LO.2 with ⟨h', _⟩ | ⟨g, cap, cur, h', _⟩
      · cases h'
      · have := World.ownsRow.lt LO ab (by cases h'; rfl)
        rw [hy]
        exact ⟨by show Y ≤ ab; omega, by show ab < _; omega⟩
end Go.Proofs.Ytbghjcfepjbppaa
/-
  THE LAW's told: a teller tells what the document's does.
-/
namespace Go.Proofs.Ytbghjcfepjbppaa
open Go.RowKit
set_option linter.unusedSimpArgs false in
set_option maxHeartbeats 8000000 in
set_option maxRecDepth 100000 in
theorem told_core {w : World} {V : Nat → Prop} {t : Nat} {nodes tn id sq T : Int} {S : ByteArray} {is : Bool} {n : Nat} {wa ra : Option Addr} {wc rc : Nat} {LR : List EvD} {ER : List E6}
    (hT : is = true → T = tn) (hn : n ≤ 1000) (hr : LR.length ≤ 1000) (hE : ∀ y ∈ LR, EvK y)
    (PA : ∀ W, Below w.heap.size w W → Calls Try.prog 34 #[.pointer (some ⟨t, 0, none⟩)] W fun r w' => r = .returned (.tuple #[askV T S ⟨#[]⟩ 0 0, .bool is]) ∧ Below W.heap.size W w')
    (DA : ∀ W, Below w.heap.size w W → Calls Try.prog 50 #[dtel nodes tn id sq (.slice wa n wc) (.slice ra LR.length rc)] W fun r w' => r = .returned (.tuple #[.string S, .bool is]) ∧ Below W.heap.size W w')
    (SE : ∀ W, Below w.heap.size w W → Calls Try.prog 35 #[.pointer (some ⟨t, 0, none⟩)] W fun r w' => r = .returned (.tuple #[.int .i64 id, .int .i64 sq]) ∧ Below W.heap.size W w')
    (LE : ∀ W, Below w.heap.size w W → Calls Try.prog 36 #[.pointer (some ⟨t, 0, none⟩)] W fun r w' => r = .returned (.int .i64 (n : Int)) ∧ Below W.heap.size W w')
    (RF : ∀ W, Below w.heap.size w W → Calls Try.prog 37 #[.pointer (some ⟨t, 0, none⟩)] W (Elst W LR))
    (hR : RowQ w V ra ER) (hs : Sam w V ER LR) :
    Calls Try.prog 16 #[.pointer (some ⟨t, 0, none⟩), dtel nodes tn id sq (.slice wa n wc) (.slice ra LR.length rc)] w fun r w' => r = .returned (.bool true) ∧ Below w.heap.size w w' := by
  obtain ⟨X0, hX0, K0, B0, hs0⟩ : ∃ X, X = w.alloc (.cells #[.int .i64 nodes, .int .i64 tn, .int .i64 id, .int .i64 sq, .slice wa n wc, .slice ra LR.length rc] 28) ∧ Blk X w.heap.size 28 #[.int .i64 nodes, .int .i64 tn, .int .i64 id, .int .i64 sq, .slice wa n wc, .slice ra LR.length rc] ∧ Below w.heap.size w X ∧ X.heap.size = w.heap.size + 1 :=
    ⟨_, rfl, heap_alloc_new w _, (Below.refl w.heap.size w).alloc (Nat.le_refl _) _, by simp⟩
  have PA0 := Lib.hid (PA X0 B0)
  have HS := Lib.hid (fun W (b : Below w.heap.size w W) => (⟨RowQ.fr hR (Fr.of_below b (fun _ => False)) (fun _ h => h.elim), Sam.fr (Fr.of_below b (fun _ => False)) (fun _ h => h.elim) hs⟩ : RowQ W V ra ER ∧ Sam W V ER LR))
  have HL := Lib.hid (Sam.len hs)
  have HE := Lib.hid hE
  have DAh := Lib.hid DA
  have SEh := Lib.hid SE
  have LEh := Lib.hid LE
  have RFh := Lib.hid RF
  have W0 := Lib.hid hX0
  have K0h := Lib.hid K0
  have B0h := Lib.hid B0
  have hnI : (n : Int) ≤ 1000 := by omega
  have hrI : (LR.length : Int) ≤ 1000 := by omega
  obtain ⟨m, hm⟩ : ∃ m, m = LR.length := ⟨_, rfl⟩
  have HM := Lib.hid hm
  rw [← hm] at W0 K0h DAh hrI hr ⊢
  clear hm PA DA SE LE RF hR hs hX0 K0 B0 hE
  unfold askV at PA0
  unfold dtel at DAh ⊢
  go_enter Try.func16, Try.ntmps16
  go_wp2_with fail
  rw [← W0.out]
  refine PA0.out.mono ?_
  rintro e w1 ⟨rfl, b1⟩
  have KA := K0h.out.below b1
  have BA := Lib.hid (B0h.out.trans (b1.mono (by omega)))
  have hw1 : w.heap.size < w1.heap.size := by have := b1.size; omega
  clear b1 PA0 W0 K0h B0h
  obtain ⟨X1, hX1, A1, B1, K1, hs1⟩ : ∃ X, X = w1.alloc (.cells #[.int .i64 T, .string S, .string ⟨#[]⟩, .int .i64 0, .int .i64 0] 63) ∧ Blk X w1.heap.size 63 #[.int .i64 T, .string S, .string ⟨#[]⟩, .int .i64 0, .int .i64 0] ∧ Below w.heap.size w X ∧ Blk X w.heap.size 28 #[.int .i64 nodes, .int .i64 tn, .int .i64 id, .int .i64 sq, .slice wa n wc, .slice ra m rc] ∧ X.heap.size = w1.heap.size + 1 :=
    ⟨_, rfl, heap_alloc_new w1 _, BA.out.alloc (by omega) _, KA.below ((Below.refl _ _).alloc (Nat.le_refl _) _), by simp⟩
  have W1 := Lib.hid hX1
  have DA1 := Lib.hid (DAh.out X1 B1)
  have k0 : ∀ o, (w1.alloc o).cell? ⟨w.heap.size, 0, none⟩ = some (.int .i64 nodes) := fun o => (KA.below ((Below.refl _ _).alloc (Nat.le_refl _) o)).cell 0
  have k1 : ∀ o, (w1.alloc o).cell? ⟨w.heap.size, 1, none⟩ = some (.int .i64 tn) := fun o => (KA.below ((Below.refl _ _).alloc (Nat.le_refl _) o)).cell 1
  have k2 : ∀ o, (w1.alloc o).cell? ⟨w.heap.size, 2, none⟩ = some (.int .i64 id) := fun o => (KA.below ((Below.refl _ _).alloc (Nat.le_refl _) o)).cell 2
  have k3 : ∀ o, (w1.alloc o).cell? ⟨w.heap.size, 3, none⟩ = some (.int .i64 sq) := fun o => (KA.below ((Below.refl _ _).alloc (Nat.le_refl _) o)).cell 3
  have k4 : ∀ o, (w1.alloc o).cell? ⟨w.heap.size, 4, none⟩ = some (.slice wa n wc) := fun o => (KA.below ((Below.refl _ _).alloc (Nat.le_refl _) o)).cell 4
  have k5 : ∀ o, (w1.alloc o).cell? ⟨w.heap.size, 5, none⟩ = some (.slice ra m rc) := fun o => (KA.below ((Below.refl _ _).alloc (Nat.le_refl _) o)).cell 5
  have A1h := Lib.hid A1
  have K1h := Lib.hid K1
  have B1h := Lib.hid B1
  clear KA BA hX1 A1 K1 B1 DAh
  go_wp2_with fail
  rw [← W1.out]
  refine DA1.out.mono ?_
  rintro e w2 ⟨rfl, b2⟩
  have A2 := Lib.hid (A1h.out.below b2)
  have K2 := Lib.hid (K1h.out.below b2)
  have B2 := Lib.hid (B1h.out.trans (b2.mono B1h.out.size))
  have SE2 := Lib.hid (SEh.out w2 B2.out)
  clear b2 DA1 A1h K1h B1h W1 k0 k1 k2 k3 k4 k5 SEh
  go_wp2_with fail
  refine SE2.out.mono ?_
  rintro e w3 ⟨rfl, b3⟩
  have A3 := A2.out.below b3
  have K3 := K2.out.below b3
  have B3 := Lib.hid (B2.out.trans (b3.mono B2.out.size))
  clear b3 SE2 A2 K2 B2
  generalize w1.heap.size = y1 at *
  have x0 := fun d os => cell_regrown (A3.cell 0 : w3.cell? ⟨y1, 0, none⟩ = some (.int .i64 T)) d os
  have x1 := fun d os => cell_regrown (A3.cell 1 : w3.cell? ⟨y1, 1, none⟩ = some (.string S)) d os
  have x2 := fun d os => cell_regrown (A3.cell 2 : w3.cell? ⟨y1, 2, none⟩ = some (.string ⟨#[]⟩)) d os
  have x3 := fun d os => cell_regrown (A3.cell 3 : w3.cell? ⟨y1, 3, none⟩ = some (.int .i64 0)) d os
  have x4 := fun d os => cell_regrown (A3.cell 4 : w3.cell? ⟨y1, 4, none⟩ = some (.int .i64 0)) d os
  have r1 := fun d os => cell_regrown (K3.cell 1 : w3.cell? ⟨w.heap.size, 1, none⟩ = some (.int .i64 tn)) d os
  have r2 := fun d os => cell_regrown (K3.cell 2 : w3.cell? ⟨w.heap.size, 2, none⟩ = some (.int .i64 id)) d os
  have r3 := fun d os => cell_regrown (K3.cell 3 : w3.cell? ⟨w.heap.size, 3, none⟩ = some (.int .i64 sq)) d os
  have r4 := fun d os => cell_regrown (K3.cell 4 : w3.cell? ⟨w.heap.size, 4, none⟩ = some (.slice wa n wc)) d os
  have C1 := Lib.hid (fun d os => Calls.regrown_of (d := d) (os := os) (LEh.out (Go.Sort.grow (redrawn w3 d) os) (B3.out.trans ((below_regrown w3 d os).mono B3.out.size))))
  have K3h := Lib.hid K3
  clear A3 K3 LEh
  have hcase : is = false ∨ (is = true ∧ tn = T) := by
    cases is
    · exact .inl rfl
    · exact .inr ⟨rfl, (hT rfl).symm⟩
  clear hT
  rcases hcase with rfl | ⟨rfl, rfl⟩
  all_goals (
    go_wp2_with fail
    refine wp_region_quiet_below mixedE (by kernel_rfl) ?_
    repeat (go_big_quiet_step ((with_reducible exact C1.out _ _)))
    refine wpQuiet_nil ?_
    intro _ hw'
    obtain ⟨⟨dq, osq⟩, hw''⟩ := hw'
    subst hw''
    have b9 := below_regrown w3 dq osq
    have K4 := Lib.hid (K3h.out.below b9)
    have B4 := Lib.hid (B3.out.trans (b9.mono B3.out.size))
    clear x0 x1 x2 x3 x4 r1 r2 r3 r4 C1 K3h B3 b9
    generalize Go.Sort.grow (redrawn w3 dq) osq = w4 at *
    have RF4 := Lib.hid (RFh.out w4 B4.out)
    unfold Elst at RF4
    rw [← HM.out] at RF4
    clear RFh
    go_wp2_with fail
    refine RF4.out.mono ?_
    rintro e w5 ⟨a7, c7, rfl, E5, b5⟩
    have K5 := Lib.hid (K4.out.below b5)
    have B5 := B4.out.trans (b5.mono B4.out.size)
    have l5 : w5.cell? ⟨w.heap.size, 5, none⟩ = some (.slice ra m rc) := K5.out.cell 5
    have I0 : Hid (Below w.heap.size w w5 ∧ Evs w5 a7 LR ∧ Blk w5 w.heap.size 28 #[.int .i64 nodes, .int .i64 tn, .int .i64 id, .int .i64 sq, .slice wa n wc, .slice ra m rc]) := Lib.hid ⟨B5, E5, K5.out⟩
    clear b5 RF4 K4 B4 E5 K5 B5
    go_wp2_with fail
    clear l5
    go_loopw [12] (fun i wr => ∃ (k : Nat), i = .int .i64 k ∧ k ≤ m ∧ Hid (Below w.heap.size w wr ∧ Evs wr a7 LR ∧ Blk wr w.heap.size 28 #[.int .i64 nodes, .int .i64 tn, .int .i64 id, .int .i64 sq, .slice wa n wc, .slice ra m rc])) (fun i wr => m - (intOf i).toNat)
    case atStart => exact ⟨0, rfl, Nat.zero_le _, I0⟩
    case round =>
      obtain ⟨k, rfl, hk, hI⟩ := hrel
      clear I0
      by_cases hkm : k < m
      · have kI : (k : Int) < (m : Int) := by omega
        have kB := decide_eq_true kI
        have hkL : k < LR.length := by rw [← HM.out]; exact hkm
        have hkE : k < ER.length := by rw [HL.out]; exact hkL
        obtain ⟨g7, q7, cq7, rfl, hg7, p7, n7⟩ := hI.out.2.1 k hkL
        obtain ⟨R9, S9⟩ := HS.out wr hI.out.1
        obtain ⟨g2, o2, rfl, hg2, hv2, d7⟩ := R9 k hkE
        have sx := S9.at k hkE hkL
        have hyk := HE.out _ (List.getElem_mem hkL)
        generalize LR[k]'hkL = y at *
        generalize ER[k]'hkE = x at *
        obtain ⟨_, hk16, hl8, hnm⟩ := EvK.sizes hyk.c
        obtain ⟨xa, xb, xc, xk, xq, xm, xp⟩ := x
        obtain ⟨sa, sb, sc, sk, sm, sf, _⟩ := sx
        simp only at sa sb sc sk sm sf
        subst sa sb sc sk sm
        have p0 : wr.cell? ⟨g7, k * 5, none⟩ = some (.int .i64 y.a) := p7 0 (by decide)
        have p1 : wr.cell? ⟨g7, k * 5 + 1, none⟩ = some (.int .i64 y.b) := p7 1 (by decide)
        have p2 : wr.cell? ⟨g7, k * 5 + 2, none⟩ = some (.int .i64 y.c) := p7 2 (by decide)
        have p3 : wr.cell? ⟨g7, k * 5 + 3, none⟩ = some (.string y.k) := p7 3 (by decide)
        have p4 : wr.cell? ⟨g7, k * 5 + 4, none⟩ = some (.slice q7 y.L.length cq7) := p7 4 (by decide)
        have d0 : wr.cell? ⟨g2, o2 + k * 5, none⟩ = some (.int .i64 y.a) := d7 0 (by decide)
        have d1 : wr.cell? ⟨g2, o2 + k * 5 + 1, none⟩ = some (.int .i64 y.b) := d7 1 (by decide)
        have d2 : wr.cell? ⟨g2, o2 + k * 5 + 2, none⟩ = some (.int .i64 y.c) := d7 2 (by decide)
        have d3 : wr.cell? ⟨g2, o2 + k * 5 + 3, none⟩ = some (.string y.k) := d7 3 (by decide)
        have d4 : wr.cell? ⟨g2, o2 + k * 5 + 4, none⟩ = some (.slice xq y.L.length xp) := d7 4 (by decide)
        have k5 : wr.cell? ⟨w.heap.size, 5, none⟩ = some (.slice (some ⟨g2, o2, none⟩) m rc) := hI.out.2.2.cell 5
        have BD : Below wr.heap.size wr wr.drew := (Below.refl wr.heap.size wr).drew
        have RE := Lib.hid (ref_any y.a y.b y.c y.k q7 cq7 y.L wr.drew (by omega) (n7.below BD))
        have SF := Lib.hid (sf.below BD)
        have UP : Hid (∀ v, Below wr.drew.heap.size wr.drew v → v.cell? ⟨w.heap.size, 5, none⟩ = some (.slice (some ⟨g2, o2, none⟩) m rc) ∧ v.cell? ⟨g2, o2 + k * 5, none⟩ = some (.int .i64 y.a) ∧ v.cell? ⟨g2, o2 + k * 5 + 1, none⟩ = some (.int .i64 y.b) ∧ v.cell? ⟨g2, o2 + k * 5 + 2, none⟩ = some (.int .i64 y.c) ∧ v.cell? ⟨g2, o2 + k * 5 + 3, none⟩ = some (.string y.k) ∧ v.cell? ⟨g2, o2 + k * 5 + 4, none⟩ = some (.slice xq y.L.length xp)) := Lib.hid (by
          intro v b
          have b' : Below wr.heap.size wr v := BD.trans b
          have up : ∀ {i : Nat} {u : Value}, wr.cell? ⟨g2, i, none⟩ = some u → v.cell? ⟨g2, i, none⟩ = some u := fun {i u} hc => (b'.cell (p := ⟨g2, i, none⟩) hg2).trans hc
          exact ⟨(b'.cell (p := ⟨w.heap.size, 5, none⟩) hI.out.2.2.lt).trans k5, up d0, up d1, up d2, up d3, up d4⟩)
        have FN : Hid (∀ v, Below wr.drew.heap.size wr.drew v → Hid (Below w.heap.size w v ∧ Evs v (some ⟨g7, 0, none⟩) LR ∧ Blk v w.heap.size 28 #[.int .i64 nodes, .int .i64 tn, .int .i64 id, .int .i64 sq, .slice wa n wc, .slice (some ⟨g2, o2, none⟩) m rc])) := Lib.hid (by
          intro v b
          have b' : Below wr.heap.size wr v := BD.trans b
          exact Lib.hid ⟨hI.out.1.trans (b'.mono hI.out.1.size), hI.out.2.1.next b', hI.out.2.2.below b'⟩)
        have SA := Lib.hid (fun (v : World) (b : Below wr.drew.heap.size wr.drew v) (p : Option Addr) (cp : Nat) (hF : Flds v p y.L) => same_any y.a y.b y.c y.k p xq cp xp y.L v hF (SF.out.below b) (by omega))
        unfold RefdN at RE
        clear p7 d7 n7 sf R9 S9 hyk hnm SF hI hv2 hg2 hg7
        unfold evV at RE SA
        generalize y.L.length = ny at *
        go_wp2_with fail
        go_region_law
          (first
            | (go_simp; go_at_call 51; refine (SA.out _ B7.out _ _ F7.out).mono ?_; rintro r9 v8 ⟨rfl, b8⟩; have I8 := Lib.hid (FN.out v8 (B7.out.trans (b8.mono B7.out.size))).out; clear b8)
            | (go_simp; go_at_call 10; refine RE.out.mono ?_; rintro r9 v7 ⟨pp, cpp, rfl, F7, _, b7⟩; obtain ⟨t5, t0, t1, t2, t3, t4⟩ := UP.out v7 b7; have F7 := Lib.hid F7; have B7 := Lib.hid b7; clear b7))
        all_goals (
          go_wp2_with fail
          go_roundw
          case rel => exact ⟨k + 1, by go_num, by omega, I8⟩
          case measure => simp [intOf]; omega)
      · obtain rfl : k = m := by omega
        have kI : ¬ (k : Int) < (k : Int) := by omega
        have kB := decide_eq_false kI
        have F9 := Lib.hid hI.out.1
        clear hI
        go_wp2_with fail
        go_ret
        exact ⟨rfl, F9.out⟩)
end Go.Proofs.Ytbghjcfepjbppaa
/-
  BOTH TELLERS SIDE BY SIDE.
-/
namespace Go.Proofs.Ytbghjcfepjbppaa
open Go.RowKit
structure LTa (W0 w : World) (t bx : Nat) (nodes : Int) (U V : Nat → Prop) (s s2 : TS) (wa : Option Addr) (wc : Nat) (ra : Option Addr) (rc : Nat) (EW ER : List E6) : Prop where
  tl : TlS w U t nodes s
  bk : Blk w bx 28 #[.int .i64 nodes, .int .i64 s2.tn, .int .i64 s2.id, .int .i64 s2.sq, .slice wa s2.W.length wc, .slice ra s2.R.length rc]
  dc : DcA w V s2 wa wc ra rc EW ER
  vl : ∀ q, V q → q < w.heap.size ∧ ¬ U q ∧ q ≠ bx
  ub : ¬ U bx
  ul : ∀ q, U q → W0.heap.size ≤ q
  bb : W0.heap.size ≤ bx
  b : Below W0.heap.size W0 w
def LT (W0 : World) (t bx : Nat) (nodes : Int) (s s2 : TS) (w : World) : Prop := ∃ U V wa wc ra rc EW ER, LTa W0 w t bx nodes U V s s2 wa wc ra rc EW ER
section
variable {W0 w w' : World} {t bx : Nat} {nodes : Int} {U V : Nat → Prop} {s s2 s' : TS} {wa : Option Addr} {wc : Nat} {ra : Option Addr} {rc : Nat} {EW ER : List E6}
theorem LTa.next (h : LTa W0 w t bx nodes U V s s2 wa wc ra rc EW ER) (b : Below w.heap.size w w') : LTa W0 w' t bx nodes U V s s2 wa wc ra rc EW ER where
  tl := TlM.next h.tl b
  bk := h.bk.below b
  dc := h.dc.next b
  vl := fun q hq => ⟨Nat.lt_of_lt_of_le (h.vl q hq).1 b.size, (h.vl q hq).2⟩
  ub := h.ub
  ul := h.ul
  bb := h.bb
  b := h.b.trans (b.mono h.b.size)
theorem LT.next (h : LT W0 t bx nodes s s2 w) (b : Below w.heap.size w w') : LT W0 t bx nodes s s2 w' := by
  obtain ⟨U, V, wa, wc, ra, rc, EW, ER, k⟩ := h
  exact ⟨U, V, wa, wc, ra, rc, EW, ER, k.next b⟩
/-- the program's teller changes -/
theorem LTa.teller (h : LTa W0 w t bx nodes U V s s2 wa wc ra rc EW ER) (k : TcS w U t nodes s' w') : LT W0 t bx nodes s' s2 w' := by
  obtain ⟨U', k, f, u⟩ := k
  have hlt := h.bk.lt
  refine ⟨U', V, wa, wc, ra, rc, EW, ER, k, h.bk.fr f h.ub, h.dc.fr f (fun q hq hv => (h.vl q hv).2.1 hq), fun q hq => ⟨Nat.lt_of_lt_of_le (h.vl q hq).1 f.size, fun hu => ?_, (h.vl q hq).2.2⟩, fun hu => ?_, fun q hq => ?_, h.bb, h.b.trans (f.below h.ul h.b.size)⟩
  · rcases u q hu with h1 | h1
    · exact (h.vl q hq).2.1 h1
    · have := (h.vl q hq).1; omega
  · rcases u bx hu with h1 | h1
    · exact h.ub h1
    · omega
  · rcases u q hq with h1 | h1
    · exact h.ul q h1
    · exact Nat.le_trans h.b.size h1
/-- the document's answer is stored -/
theorem LTa.stored {v3 : World} {wa' : Option Addr} {wc' : Nat} {ra' : Option Addr} {rc' : Nat} {EW' ER' : List E6} (h : LTa W0 w t bx nodes U V s s2 wa wc ra rc EW ER) (b : Below w.heap.size w v3)
    (D : DcA v3 (fun q => V q ∨ (w.heap.size ≤ q ∧ q < v3.heap.size)) s' wa' wc' ra' rc' EW' ER') :
    ∃ w4, w4 = ((((((v3.setCell ⟨bx, 0, none⟩ (.int .i64 nodes)).setCell ⟨bx, 1, none⟩ (.int .i64 s'.tn)).setCell ⟨bx, 2, none⟩ (.int .i64 s'.id)).setCell ⟨bx, 3, none⟩ (.int .i64 s'.sq)).setCell ⟨bx, 4, none⟩ (.slice wa' s'.W.length wc')).setCell ⟨bx, 5, none⟩ (.slice ra' s'.R.length rc')) ∧
      LT W0 t bx nodes s s' w4 ∧ Fr v3 w4 (fun q => q = bx) := by
  have K := h.bk.below b
  have hlt := h.bk.lt
  have f : Fr v3 ((((((v3.setCell ⟨bx, 0, none⟩ (.int .i64 nodes)).setCell ⟨bx, 1, none⟩ (.int .i64 s'.tn)).setCell ⟨bx, 2, none⟩ (.int .i64 s'.id)).setCell ⟨bx, 3, none⟩ (.int .i64 s'.sq)).setCell ⟨bx, 4, none⟩ (.slice wa' s'.W.length wc')).setCell ⟨bx, 5, none⟩ (.slice ra' s'.R.length rc')) (fun q => q = bx) :=
    (((((((Fr.refl v3 (fun q => q = bx)).set bx 0 _ (.inl rfl)).set bx 1 _ (.inl rfl)).set bx 2 _ (.inl rfl)).set bx 3 _ (.inl rfl)).set bx 4 _ (.inl rfl)).set bx 5 _ (.inl rfl))
  have k0 := K.set 0 (.int .i64 nodes)
  have k1 := k0.set 1 (.int .i64 s'.tn)
  have k2 := k1.set 2 (.int .i64 s'.id)
  have k3 := k2.set 3 (.int .i64 s'.sq)
  have k4 := k3.set 4 (.slice wa' s'.W.length wc')
  have k5 := k4.set 5 (.slice ra' s'.R.length rc')
  refine ⟨_, rfl, ⟨U, _, wa', wc', ra', rc', EW', ER', TlM.off (TlM.next h.tl b) f (fun q hq hu => h.ub (hq ▸ hu)), k5, D.fr f (fun q hq hv => ?_), fun q hq => ?_, h.ub, h.ul, h.bb, (h.b.trans (b.mono h.b.size)).trans (f.below (fun q hq => hq ▸ h.bb) (Nat.le_trans h.b.size b.size))⟩, f⟩
  · subst hq
    rcases hv with h1 | h1
    · exact (h.vl _ h1).2.2 rfl
    · omega
  · rcases hq with h1 | h1
    · exact ⟨Nat.lt_of_lt_of_le (h.vl q h1).1 (Nat.le_trans b.size f.size), (h.vl q h1).2⟩
    · refine ⟨Nat.lt_of_lt_of_le h1.2 f.size, fun hu => ?_, by omega⟩
      have := TlM.ul h.tl q hu
      omega
/-- in any state, the law's told -/
theorem LTa.same {m : Nat} (h : LTa W0 w t bx nodes U V s s wa wc ra rc EW ER) (ok : s.Ok m) (hm : m ≤ 900) :
    Calls Try.prog 16 #[.pointer (some ⟨t, 0, none⟩), dtel nodes s.tn s.id s.sq (.slice wa s.W.length wc) (.slice ra s.R.length rc)] w fun r w' => r = .returned (.bool true) ∧ Below w.heap.size w w' := by
  have hw := ok.w
  have hr := ok.r
  refine told_core (V := V) (T := s.askT) (S := s.ask.1) (is := s.ask.2) (n := s.W.length) (LR := s.R) (ER := ER) ?_ (by omega) (by omega) ok.re (fun W b => pask (TlM.next h.tl b) ok hm) (fun W b => ddask (h.dc.next b) ok hm) (fun W b => ?_) (fun W b => ?_) (fun W b => ?_) h.dc.re h.dc.rs
  · intro hi
    unfold TS.ask at hi
    unfold TS.askT
    cases hW : s.W with
    | nil => rw [hW] at hi; simp at hi
    | cons x l => simp
  · obtain ⟨wv, rv, cs, rs, A⟩ := TlM.next h.tl b
    exact sess_any A.blk
  · obtain ⟨wv, rv, cs, rs, A⟩ := TlM.next h.tl b
    obtain ⟨a', c', rfl⟩ := wv_slice A.we.own
    exact (left_any A.blk).mono fun r w' ⟨he, hw⟩ => ⟨he, hw ▸ Below.refl _ _⟩
  · obtain ⟨wv, rv, cs, rs, A⟩ := TlM.next h.tl b
    obtain ⟨a', c', rfl⟩ := wv_slice A.re.own
    exact refused_any A.blk A.re.evs (fun x hx => (ok.re x hx).sm) (by omega)
/-- what the document's reads of an event -/
theorem DcR.up {v2 v3 : World} {wa' : Option Addr} {wc' : Nat} {ra' : Option Addr} {rc' : Nat} {EW' ER' : List E6} (b : Below w.heap.size w v2) (b3 : Below v2.heap.size v2 v3) (D : DcA v3 (fun q => (V q ∨ (w.heap.size ≤ q ∧ q < v2.heap.size)) ∨ (v2.heap.size ≤ q ∧ q < v3.heap.size)) s' wa' wc' ra' rc' EW' ER') : DcA v3 (fun q => V q ∨ (w.heap.size ≤ q ∧ q < v3.heap.size)) s' wa' wc' ra' rc' EW' ER' := by
  have h1 := b.size
  have h2 := b3.size
  refine D.mono (fun q hq => ?_)
  rcases hq with (hq | hq) | hq
  · exact .inl hq
  · exact .inr ⟨hq.1, by omega⟩
  · exact .inr ⟨by omega, hq.2⟩
end
end Go.Proofs.Ytbghjcfepjbppaa
/-
  THE LAW OF ClientTells AS A WALK.
-/
namespace Go.Proofs.Ytbghjcfepjbppaa
open Go.RowKit
/-- behind j acts -/
def LK (W0 : World) (t bx : Nat) (nodes : Int) (j : Nat) (w : World) : Prop := ∃ s, TS.Ok s j ∧ LT W0 t bx nodes s s w
theorem lk_start {W w1 : World} {t : Nat} {nodes : Int} (ht : W.heap.size ≤ t) (T : Blk w1 t 98 (tel nodes 0 0 0 (.slice none 0 0) (.slice none 0 0))) (b : Below W.heap.size W w1) :
    LK W t w1.heap.size nodes 0 (w1.alloc (.cells #[.int .i64 nodes, .int .i64 0, .int .i64 0, .int .i64 0, .slice none 0 0, .slice none 0 0] 28)) := by
  have htl := T.lt
  have B1 : Below w1.heap.size w1 (w1.alloc (.cells #[.int .i64 nodes, .int .i64 0, .int .i64 0, .int .i64 0, .slice none 0 0, .slice none 0 0] 28)) := (Below.refl _ _).alloc (Nat.le_refl _) _
  have hs : (w1.alloc (.cells #[.int .i64 nodes, .int .i64 0, .int .i64 0, .int .i64 0, .slice none 0 0, .slice none 0 0] 28)).heap.size = w1.heap.size + 1 := by simp
  have no : ∀ q, (Value.slice none 0 0).ownBlock = some q → False := fun q hq => by simp [Value.ownBlock] at hq
  have nf : ∀ P, FOff [] [] P := fun P i hi => by simp at hi
  refine ⟨⟨0, 0, 0, [], []⟩, ⟨⟨by decide, by decide⟩, ⟨by decide, by decide⟩, ⟨by decide, by decide⟩, by decide, by decide, fun y hy => by simp at hy, fun y hy => by simp at hy⟩, fun q => q = t, fun _ => False, none, 0, none, 0, [], [], ?_⟩
  refine ⟨⟨.slice none 0 0, .slice none 0 0, [], [], ⟨T.below B1, evA_nil _ _, evA_nil _ _, fun q hq => (no q hq).elim, nf _, nf _, rfl, fun q hq => (no q hq).elim, fun q hq => (no q hq).elim, nf _, nf _, fun q hq => by subst hq; omega⟩⟩, Blk.new _ _ _, ⟨rowQ_nil _ _ _, trivial, ⟨Nat.le_refl _, Nat.zero_le _⟩, rowQ_nil _ _ _, trivial⟩, fun q hq => hq.elim, fun e => by omega, fun q hq => by subst hq; exact ht, b.size, b.trans (B1.mono b.size)⟩
theorem LK.next {W0 w w' : World} {t bx j : Nat} {nodes : Int} (h : LK W0 t bx nodes j w) (b : Below w.heap.size w w') : LK W0 t bx nodes j w' := by
  obtain ⟨s, ok, k⟩ := h
  exact ⟨s, ok, k.next b⟩
theorem LK.more {W0 w : World} {t bx j : Nat} {nodes : Int} (h : LK W0 t bx nodes j w) : LK W0 t bx nodes (j + 1) w := by
  obtain ⟨s, ok, k⟩ := h
  exact ⟨s, ok.mono (by omega), k⟩
/-- both are told -/
theorem LT.told {W0 w : World} {t bx : Nat} {nodes : Int} {s s2 : TS} {m : Nat} (h : LT W0 t bx nodes s s2 w) (ok : s.Ok m) (hm : m ≤ 900) (hN : nodes ≤ 7) (e n lead : Int) :
    Calls Try.prog 13 #[.pointer (some ⟨t, 0, none⟩), .agg #[.int .i64 e, .int .i64 n], .int .i64 lead] w fun r w' => r = .returned (.tuple #[]) ∧ LT W0 t bx nodes (s.told nodes e n lead) s2 w' := by
  obtain ⟨U, V, wa, wc, ra, rc, EW, ER, h⟩ := h
  exact (ptold h.tl ok hm hN e n lead).mono fun r w' ⟨he, k⟩ => ⟨he, h.teller k⟩
theorem LT.late {W0 w : World} {t bx : Nat} {nodes : Int} {s s2 : TS} {m : Nat} (h : LT W0 t bx nodes s s2 w) (ok : s.Ok m) (hN : nodes ≤ 7) :
    Calls Try.prog 15 #[.pointer (some ⟨t, 0, none⟩)] w fun r w' => r = .returned (.tuple #[]) ∧ LT W0 t bx nodes ⟨nextN s.tn nodes, s.id, s.sq, s.W, s.R⟩ s2 w' := by
  obtain ⟨U, V, wa, wc, ra, rc, EW, ER, h⟩ := h
  exact (plate h.tl ok hN).mono fun r w' ⟨he, k⟩ => ⟨he, h.teller k⟩
theorem LT.add {W0 w : World} {t bx : Nat} {nodes : Int} {s s2 : TS} (h : LT W0 t bx nodes s s2 w) (hw : s.W.length ≤ 256) (a b c : Int) (k : ByteArray) (p : Option Addr) (cp : Nat) (L : List Fld) (hF : Flds W0 p L) (hl : L.length ≤ 20) (hk : k.size ≤ 9223372036854775807) (hL : FldOk L) :
    Calls Try.prog 11 #[.pointer (some ⟨t, 0, none⟩), evV a b c k (.slice p L.length cp)] w fun r w' => r = .returned (.int .i64 (s.addE c k L)) ∧ LT W0 t bx nodes (s.add c k L) s2 w' := by
  obtain ⟨U, V, wa, wc, ra, rc, EW, ER, h⟩ := h
  exact (padd h.tl hw a b c k p cp L (hF.below h.b) hl hk hL).mono fun r w' ⟨he, k⟩ => ⟨he, h.teller k⟩
theorem TS.Ok.late {s : TS} {m : Nat} (h : s.Ok m) {nodes : Int} (hN : nodes ≤ 7) : TS.Ok ⟨nextN s.tn nodes, s.id, s.sq, s.W, s.R⟩ (m + 1) := by
  have h1 := h.mono (Nat.le_succ m)
  have := h.tn
  exact ⟨by show 0 ≤ nextN s.tn nodes ∧ nextN s.tn nodes ≤ 7; unfold nextN; split <;> omega, h.id, h1.sq, h.w, h1.r, h.we, h.re⟩
set_option maxHeartbeats 4000000 in
set_option maxRecDepth 100000 in
theorem tells_no (nodes : Int) (l : Value) (h : manyB nodes = false) (w : World) :
    Calls Try.prog 3 #[.int .i64 nodes, l] w fun e w' => e = .returned (.bool true) ∧ Below w.heap.size w w' := by
  have NR := Lib.hid (fun W => tel_newN nodes h W)
  unfold manyB at h
  by_cases h1 : nodes < 1
  · have g1 : decide (nodes < 1) = true := decide_eq_true h1
    go_enter Try.func3, Try.ntmps3
    go_wp2_with fail
    refine (NR.out _).mono ?_
    rintro e w1 ⟨rfl, rfl⟩
    go_wp2_with fail
    refine (awake_any _).mono ?_
    rintro e w2 ⟨rfl, b2⟩
    go_wp2_with fail
    go_ret
    exact ⟨rfl, b2⟩
  · have g1 : decide (nodes < 1) = false := decide_eq_false h1
    have g1' : decide (1 ≤ nodes) = true := decide_eq_true (by omega)
    rw [g1', Bool.true_and] at h
    have h2 : 7 < nodes := by simpa using h
    have g2 : decide (7 < nodes) = true := decide_eq_true h2
    go_enter Try.func3, Try.ntmps3
    go_wp2_with fail
    refine (NR.out _).mono ?_
    rintro e w1 ⟨rfl, rfl⟩
    go_wp2_with fail
    refine (awake_any _).mono ?_
    rintro e w2 ⟨rfl, b2⟩
    go_wp2_with fail
    go_ret
    exact ⟨rfl, b2⟩
end Go.Proofs.Ytbghjcfepjbppaa
