/-
  A TRACK's TEXT: Write.
-/
import Derived.Test.YtifdljdnpdefgaaNms
import Derived.Deep.RegionHeld3
namespace Go.Proofs.Ytifdljdnpdefgaa
open Go.RowKit
theorem app_assoc (a b c : ByteArray) : a ++ b ++ c = a ++ (b ++ c) := ByteArray.append_assoc
theorem ints_of {w : World} {g : Nat} {P : List Int} (h : ∀ i (h : i < P.length), w.cell? ⟨g, i, none⟩ = some (.int .i64 P[i])) : Ints w (some ⟨g, 0, none⟩) P := fun i hi => by
  refine ⟨g, 0, rfl, World.block_lt_of_cell? _ _ (h i hi), ?_⟩
  rw [Nat.zero_add]
  exact h i hi
theorem nums1 (x : Int) (g : Nat) (w : World) (h : w.cell? ⟨g, 0, none⟩ = some (.int .i64 x)) (hx : 0 ≤ x ∧ x ≤ 9223372036854775807) : Calls Try.prog 15 #[.slice (some ⟨g, 0, none⟩) 1 1] w fun e w' => e = .returned (.string (catN [x])) ∧ Below w.heap.size w w' :=
  nums_any [x] _ 1 w (ints_of (fun i hi => by
    obtain rfl : i = 0 := by simpa using hi
    exact h)) (by simpa using hx) (by simp)
theorem nums3 (x y z : Int) (g : Nat) (w : World) (h0 : w.cell? ⟨g, 0, none⟩ = some (.int .i64 x)) (h1 : w.cell? ⟨g, 1, none⟩ = some (.int .i64 y)) (h2 : w.cell? ⟨g, 2, none⟩ = some (.int .i64 z)) (hx : 0 ≤ x ∧ x ≤ 9223372036854775807) (hy : 0 ≤ y ∧ y ≤ 9223372036854775807) (hz : 0 ≤ z ∧ z ≤ 9223372036854775807) : Calls Try.prog 15 #[.slice (some ⟨g, 0, none⟩) 3 3] w fun e w' => e = .returned (.string (catN [x, y, z])) ∧ Below w.heap.size w w' :=
  nums_any [x, y, z] _ 3 w (ints_of (fun i hi => by
    match i, hi with
    | 0, _ => exact h0
    | 1, _ => exact h1
    | 2, _ => exact h2
    | k + 3, hi => (simp at hi; omega))) (by
    intro v hv
    simp only [List.mem_cons, List.not_mem_nil, or_false] at hv
    rcases hv with rfl | rfl | rfl <;> assumption) (by simp)
theorem nums4 (x y z u : Int) (g : Nat) (w : World) (h0 : w.cell? ⟨g, 0, none⟩ = some (.int .i64 x)) (h1 : w.cell? ⟨g, 1, none⟩ = some (.int .i64 y)) (h2 : w.cell? ⟨g, 2, none⟩ = some (.int .i64 z)) (h3 : w.cell? ⟨g, 3, none⟩ = some (.int .i64 u)) (hx : 0 ≤ x ∧ x ≤ 9223372036854775807) (hy : 0 ≤ y ∧ y ≤ 9223372036854775807) (hz : 0 ≤ z ∧ z ≤ 9223372036854775807) (hu : 0 ≤ u ∧ u ≤ 9223372036854775807) : Calls Try.prog 15 #[.slice (some ⟨g, 0, none⟩) 4 4] w fun e w' => e = .returned (.string (catN [x, y, z, u])) ∧ Below w.heap.size w w' :=
  nums_any [x, y, z, u] _ 4 w (ints_of (fun i hi => by
    match i, hi with
    | 0, _ => exact h0
    | 1, _ => exact h1
    | 2, _ => exact h2
    | 3, _ => exact h3
    | k + 4, hi => (simp at hi; omega))) (by
    intro v hv
    simp only [List.mem_cons, List.not_mem_nil, or_false] at hv
    rcases hv with rfl | rfl | rfl | rfl <;> assumption) (by simp)
/-- what stands ahead of a run's picks -/
def headS (r : Rn) : ByteArray := (catN [r.b, r.t, r.s] ++ Bt.numS r.n) ++ catN [(r.P.length : Int)]
/-- how much picks are above the ones ahead -/
def gaps (P : List Int) (k : Nat) : List Int := (List.range k).map fun i => P.getD (i + 1) 0 - P.getD i 0 - 1
theorem gaps_succ (P : List Int) (k : Nat) : gaps P (k + 1) = gaps P k ++ [P.getD (k + 1) 0 - P.getD k 0 - 1] := by
  unfold gaps
  rw [List.range_succ, List.map_append]
  rfl
def catS (l : List Int) : ByteArray := l.foldl (fun s n => s ++ catN [n]) ⟨#[]⟩
theorem catS_snoc (l : List Int) (n : Int) : catS (l ++ [n]) = catS l ++ catN [n] := by unfold catS; rw [List.foldl_append]; rfl
def runS (r : Rn) : ByteArray := headS r ++ catS (gaps r.P (r.P.length - 1))
def runsS (s : ByteArray) (L : List Rn) : ByteArray := L.foldl (fun s r => s ++ runS r) s
theorem runsS_snoc (s : ByteArray) (L : List Rn) (r : Rn) : runsS s (L ++ [r]) = runsS s L ++ runS r := by unfold runsS; rw [List.foldl_append]; rfl
def textS (c t l : Int) (L : List Rn) : ByteArray := runsS (catN [c, t, l, (L.length : Int)]) L
theorem catS_size (l : List Int) : (catS l).size ≤ 9 * l.length := by
  have aux : ∀ (l : List Int) (s : ByteArray), (l.foldl (fun s n => s ++ catN [n]) s).size ≤ s.size + 9 * l.length := by
    intro l
    induction l with
    | nil => intro s; exact Nat.le_add_right _ _
    | cons n l ih =>
      intro s
      have h1 := ih (s ++ catN [n])
      have h2 := catN_size [n]
      simp only [List.length_cons, List.length_nil] at h2
      rw [ByteArray.size_append] at h1
      rw [List.foldl_cons, List.length_cons]
      omega
  have h := aux l ⟨#[]⟩
  have e : (ByteArray.mk #[]).size = 0 := rfl
  unfold catS
  omega
theorem headS_size (r : Rn) : (headS r).size ≤ 45 := by
  have h1 := catN_size [r.b, r.t, r.s]
  have h2 := catN_size [(r.P.length : Int)]
  have h3 := Bt.numS_size r.n
  simp only [List.length_cons, List.length_nil] at h1 h2
  unfold headS
  rw [ByteArray.size_append, ByteArray.size_append]
  omega
theorem runS_size {r : Rn} (h : r.P.length < 16) : (runS r).size ≤ 200 := by
  have h1 := headS_size r
  have h2 := catS_size (gaps r.P (r.P.length - 1))
  have h3 : (gaps r.P (r.P.length - 1)).length = r.P.length - 1 := by unfold gaps; rw [List.length_map, List.length_range]
  unfold runS
  rw [ByteArray.size_append]
  omega
theorem runsS_size (L : List Rn) : ∀ s, (∀ r ∈ L, r.P.length < 16) → (runsS s L).size ≤ s.size + 200 * L.length := by
  induction L with
  | nil => intro s _; exact Nat.le_add_right _ _
  | cons r L ih =>
    intro s h
    have h1 := ih (s ++ runS r) (fun x hx => h x (List.mem_cons_of_mem _ hx))
    have h2 := runS_size (h r (List.mem_cons_self ..))
    rw [ByteArray.size_append] at h1
    unfold runsS at h1 ⊢
    rw [List.foldl_cons, List.length_cons]
    omega
set_option maxHeartbeats 16000000 in
set_option maxRecDepth 100000 in
theorem write_no {c t l : Int} {L : List Rn} (a : Option Addr) (cp : Nat) (w : World) (hR : Rns w a L) (hP : ∀ r ∈ L, r.P.length ≤ 140737488355328) (hk : keepB c t l L = false) : Calls Try.prog 8 #[trackV c t l (.slice a L.length cp)] w fun e w' => e = .returned (.tuple #[.string ⟨#[]⟩, .int .i64 1]) ∧ Below w.heap.size w w' := by
  have bA := (Below.refl _ w).alloc (Nat.le_refl _) (.cells #[.int .i64 c, .int .i64 t, .int .i64 l, .slice a L.length cp] 24)
  have TM := Lib.hid (tmay_any c t l L a cp _ (hR.below bA) hP)
  rw [hk] at TM
  have BA := Lib.hid bA
  clear hR hP bA hk
  unfold trackV at *
  go_enter Try.func8, Try.ntmps8
  go_wp2_with fail
  refine TM.out.mono ?_
  rintro e w1 ⟨rfl, b1⟩
  have B1 := Lib.hid (BA.out.trans (b1.mono BA.out.size))
  clear b1
  go_wp2_with fail
  go_ret2
  exact ⟨rfl, B1.out⟩
/-- what may be kept: its bounds -/
theorem keep_bd {c t l : Int} {L : List Rn} (h : keepB c t l L = true) : (0 ≤ c ∧ c ≤ 549755813888) ∧ 0 ≤ t ∧ (0 ≤ l ∧ l ≤ 549755813888) ∧ L.length ≤ 64 ∧ ∀ r ∈ L, 0 ≤ r.t ∧ (0 ≤ r.s ∧ r.s < 64) ∧ (0 ≤ r.b ∧ r.b ≤ 549755813888) ∧ 0 < r.P.length ∧ r.P.length < 16 ∧ (∀ i, i < r.P.length → okAt r.P i = true) := by
  unfold keepB idxB at h
  simp only [Bool.and_eq_true, decide_eq_true_eq] at h
  obtain ⟨h1, h2, h3, h4, h5⟩ := h
  refine ⟨h1, h2, h3, h4, fun r hr => ?_⟩
  rw [List.all_eq_true] at h5
  have h6 := h5 r hr
  unfold runB pickB at h6
  simp only [Bool.and_eq_true, decide_eq_true_eq, beq_iff_eq] at h6
  obtain ⟨k1, k2, k3, k4, k5, k6, k7⟩ := h6
  unfold riseB at k7
  rw [List.all_eq_true] at k7
  have k8 := fun i (hi : i < r.P.length) => k7 i (List.mem_range.2 hi)
  have k9 := k8 0 k4
  unfold okAt idxB at k9
  simp only [Bool.and_eq_true, decide_eq_true_eq] at k9
  rw [k6] at k9
  exact ⟨k1, ⟨k2, k3⟩, k9.1, k4, k5, k8⟩
end Go.Proofs.Ytifdljdnpdefgaa
