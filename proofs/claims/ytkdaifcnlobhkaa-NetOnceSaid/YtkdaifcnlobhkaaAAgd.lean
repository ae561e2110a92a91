/-
  AN AGENDA AS ITS ITEMS IN ORDER: New, Len, First, Add.
-/
import Derived.Test.YtkdaifcnlobhkaaARem
namespace Go.Proofs.Ytkdaifcnlobhkaa.Ag
open Go.RowKit
/-- an agenda whose items in order are R; Z is the last number; r is the block of its row -/
def Agd (w : World) (B A : Nat) (Z : Int) (r : Option Nat) (R : List It) : Prop :=
  ∃ v l, v.ownBlock = r ∧ AG w B A Z v l ∧ HeapOn l l.length ∧ l.Perm R ∧ Sorted R ∧ (∀ x ∈ R, 1 ≤ x.i ∧ x.i ≤ Z) ∧ R.Pairwise (fun x y => x.i ≠ y.i)
theorem Agd.below {w w' : World} {B A : Nat} {Z : Int} {r : Option Nat} {R : List It} (h : Agd w B A Z r R) (hb : Below w.heap.size w w') : Agd w' B A Z r R := by
  obtain ⟨v, l, h1, h2, h3⟩ := h
  exact ⟨v, l, h1, h2.below hb, h3⟩
theorem Agd.lt {w : World} {B A : Nat} {Z : Int} {r : Option Nat} {R : List It} (h : Agd w B A Z r R) : A < w.heap.size ∧ (∀ k, r = some k → B ≤ k ∧ k < w.heap.size) ∧ some A ≠ r := by
  obtain ⟨v, l, rfl, h2, _⟩ := h
  exact ⟨h2.lt, fun k hk => h2.own.lt k hk, h2.ne⟩
/-- where an item goes -/
def ins (x : It) : List It → List It
  | [] => [x]
  | y :: l => if y.lt x then y :: ins x l else x :: y :: l
theorem ins_perm (x : It) (l : List It) : (ins x l).Perm (x :: l) := by
  induction l with
  | nil => exact List.Perm.refl _
  | cons y l ih =>
    unfold ins
    split
    · exact ((List.Perm.cons y ih).trans (List.Perm.swap x y l))
    · exact List.Perm.refl _
theorem lt_total {a b : It} (h : ¬ a.lt b) (hi : a.i ≠ b.i) : b.lt a := by unfold It.lt at *; omega
theorem ins_sorted {x : It} {l : List It} (hs : Sorted l) (hi : ∀ y ∈ l, y.i ≠ x.i) : Sorted (ins x l) := by
  induction l with
  | nil => exact List.pairwise_singleton _ _
  | cons y l ih =>
    unfold ins
    split
    · rename_i h
      refine List.Pairwise.cons (fun z hz => ?_) (ih (List.Pairwise.of_cons hs) (fun z hz => hi z (List.mem_cons_of_mem _ hz)))
      rcases List.mem_cons.1 ((ins_perm x l).mem_iff.1 hz) with rfl | hz
      · exact h
      · exact List.rel_of_pairwise_cons hs hz
    · rename_i h
      have hxy := lt_total h (hi y (by simp))
      refine List.Pairwise.cons (fun z hz => ?_) hs
      rcases List.mem_cons.1 hz with rfl | hz
      · exact hxy
      · exact lt_trans hxy (List.rel_of_pairwise_cons hs hz)
theorem new_any (w : World) (B : Nat) : Calls Try.prog 18 #[] w fun e w' => e = .returned (.pointer (some ⟨w.heap.size, 0, none⟩)) ∧ Below w.heap.size w w' ∧ w'.heap.size = w.heap.size + 1 ∧ Agd w' B w.heap.size 0 none [] := by
  go_enter Try.func18, Try.ntmps18
  go_wp2_with fail
  go_ret
  refine ⟨rfl, (Below.refl _ _).alloc (Nat.le_refl _) _, by simp, .slice none 0 0, [], rfl, ⟨?_, World.ownsRow_nil _ _ _ _, by simp⟩, fun k _ h => by simp at h, List.Perm.refl _, List.Pairwise.nil, fun x hx => by simp at hx, List.Pairwise.nil⟩
  exact heap_alloc_new w _
theorem own_slice {w : World} {B : Nat} {v : Value} {l : List It} (h : w.ownsRow B 87 3 v l.length (cells l)) : ∃ a cap, v = .slice a l.length cap := by
  rcases h.2 with ⟨rfl, e⟩ | ⟨g, cap, cur, rfl, _⟩
  · exact ⟨none, 0, by rw [e]⟩
  · exact ⟨_, _, rfl⟩
theorem len_any (w : World) (B A : Nat) (Z : Int) (r : Option Nat) (R : List It) (h : Agd w B A Z r R) : Calls Try.prog 27 #[.pointer (some ⟨A, 0, none⟩)] w fun e w' => e = .returned (.int .i64 R.length) ∧ w = w' := by
  obtain ⟨v, l, _, h2, _, hp, _⟩ := h
  obtain ⟨a, cap, rfl⟩ := own_slice h2.own
  have hc := h2.cell
  have hl := Lib.hid hp.length_eq
  clear h2
  go_enter Try.func27, Try.ntmps27
  go_wp2_with fail
  go_ret
  exact ⟨by rw [hl.out]; rfl, rfl⟩
theorem len_nil (w : World) : Calls Try.prog 27 #[.pointer none] w fun e w' => e = .returned (.int .i64 0) ∧ w = w' := by
  go_enter Try.func27, Try.ntmps27
  go_wp2_with fail
  go_ret
  exact ⟨rfl, rfl⟩
/-- the first item, and whether there is one -/
def fstV : List It → Value
  | [] => .tuple #[agg ⟨0, 0, 0⟩, .bool false]
  | x :: _ => .tuple #[agg x, .bool true]
theorem first_nil (w : World) : Calls Try.prog 45 #[.pointer none] w fun e w' => e = .returned (fstV []) ∧ Below w.heap.size w w' := by
  unfold fstV agg
  go_enter Try.func45, Try.ntmps45
  go_wp2_with (go_at_call 27; refine (len_nil _).mono ?_; rintro r w1 ⟨rfl, rfl⟩)
  refine bodyPost_ret (by simp [results, Try.results45, go_sem]; try rfl) rfl ?_
  exact ⟨rfl, (Below.refl _ _).alloc (Nat.le_refl _) _⟩
theorem first_any (w : World) (B A : Nat) (Z : Int) (r : Option Nat) (R : List It) (h : Agd w B A Z r R) : Calls Try.prog 45 #[.pointer (some ⟨A, 0, none⟩)] w fun e w' => e = .returned (fstV R) ∧ Below w.heap.size w w' := by
  have L := fun w' hb => len_any w' B A Z r R (h.below hb)
  have HL := Lib.hid L
  have b0 := (Below.refl w.heap.size w).alloc (Nat.le_refl _) (Obj.cells #[.int .i64 0, .int .i64 0, .int .i64 0] 87)
  clear L
  cases R with
  | nil =>
    unfold fstV agg
    clear h
    go_enter Try.func45, Try.ntmps45
    go_wp2_with (go_at_call 27; refine (HL.out _ b0).mono ?_; rintro r w1 ⟨rfl, rfl⟩)
    refine bodyPost_ret (by simp [results, Try.results45, go_sem]; try rfl) rfl ?_
    exact ⟨rfl, b0⟩
  | cons x R =>
    obtain ⟨v, l, _, h2, h3, hp, hs, _⟩ := h
    have hl : 0 < l.length := by rw [hp.length_eq]; simp
    obtain ⟨g, cap, rfl, ha⟩ := h2.ha hl
    have hx := sorted_head h3 hp hs
    obtain ⟨c1, c2, c3⟩ := h2.own |> (fun h => RowG.cell (w := w) (B := B) (g := g) (cap := cap) (l := l) h hl)
    rw [at_get hl] at hx
    rw [hx] at c1 c2 c3
    have hc := h2.cell
    simp only [Nat.zero_mul, Nat.zero_add] at c1 c2 c3
    have lt := h2.lt
    have gt := ha.lt.2.1
    have H1 := Lib.hid hl
    have hN : ((R.length : Int) + 1 == 0) = false := by simp; omega
    have hl1 : (0 : Int) < (l.length : Int) := by omega
    clear h2 ha hx h3 hp hs
    unfold fstV agg
    go_enter Try.func45, Try.ntmps45
    go_wp2_with (go_at_call 27; refine (HL.out _ b0).mono ?_; rintro r w1 ⟨rfl, rfl⟩)
    refine bodyPost_ret (by simp [results, Try.results45, go_sem]; try rfl) rfl ?_
    exact ⟨rfl, (Below.refl _ _).alloc (Nat.le_refl _) _⟩
theorem ag_last {w : World} {B A : Nat} {Z : Int} {v : Value} {l : List It} (h : AG w B A Z v l) (Z' : Int) : AG (w.setCell ⟨A, 1, none⟩ (.int .i64 Z')) B A Z' v l ∧ Tch w (w.setCell ⟨A, 1, none⟩ (.int .i64 Z')) A v.ownBlock v.ownBlock := by
  have b := (Below.refl A w).setCell (p := ⟨A, 1, none⟩) (Nat.le_refl _) (.int .i64 Z')
  refine ⟨⟨heap_setCell_same w A 1 _ 92 _ h.blk, ownsRow_setCell_other h.own (fun e => h.ne e.symm) _, h.small⟩, ⟨b.os, b.tape, b.output, b.size, fun k _ hkA _ => Below.heap_setCell _ _ _ _ hkA, .inl rfl⟩⟩
theorem add_nil (at_ what : Int) (w : World) : Calls Try.prog 30 #[.pointer none, .int .i64 at_, .int .i64 what] w fun e w' => e = .returned (.tuple #[.int .i64 0, .int .i64 1]) ∧ w = w' := by
  go_enter Try.func30, Try.ntmps30
  go_wp2_with fail
  go_ret2
  exact ⟨rfl, rfl⟩
theorem add_full (w : World) (B A : Nat) (Z : Int) (r : Option Nat) (R : List It) (t x : Int) (h : Agd w B A Z r R) (hR : R.length = 4096) :
    Calls Try.prog 30 #[.pointer (some ⟨A, 0, none⟩), .int .i64 t, .int .i64 x] w fun e w' => e = .returned (.tuple #[.int .i64 0, .int .i64 7]) ∧ w = w' := by
  have L := len_any w B A Z r R h
  rw [hR] at L
  clear h hR
  go_enter Try.func30, Try.ntmps30
  go_wp2_with fail
  refine L.mono ?_
  rintro r w1 ⟨rfl, rfl⟩
  go_wp2_with fail
  go_ret2
  exact ⟨rfl, rfl⟩
/-- what Add leaves -/
def Added (w : World) (B A : Nat) (Z : Int) (r : Option Nat) (R : List It) (t x : Int) (e : Ending) (w' : World) : Prop :=
  ∃ r', e = .returned (.tuple #[.int .i64 (Z + 1), .int .i64 0]) ∧ Agd w' B A (Z + 1) r' (ins ⟨t, Z + 1, x⟩ R) ∧ Tch w w' A r r'
set_option maxHeartbeats 2000000 in
set_option maxRecDepth 100000 in
theorem add_any (w : World) (B A : Nat) (Z : Int) (r : Option Nat) (R : List It) (t x : Int) (h : Agd w B A Z r R) (hR : R.length < 4096) (h0 : 0 ≤ Z) (h1 : Z ≤ 1000000) (hB : B ≤ w.heap.size) :
    Calls Try.prog 30 #[.pointer (some ⟨A, 0, none⟩), .int .i64 t, .int .i64 x] w (Added w B A Z r R t x) := by
  have L := len_any w B A Z r R h
  have hR' : (R.length : Int) < 4096 := by omega
  obtain ⟨v, l, rfl, h2, h3, hp, hs, hi, hd⟩ := h
  have HR := Lib.hid (show l.length ≤ 4096 by rw [hp.length_eq]; omega)
  have c1 := h2.last
  have f1 := h2.free 1
  obtain ⟨a1, t1⟩ := ag_last h2 (Z + 1)
  have A1 := Lib.hid a1
  have T1 := Lib.hid t1
  have H3 := Lib.hid h3
  have hins := ins_perm ⟨t, Z + 1, x⟩ R
  have HP : Hid (∀ l2 : List It, l2.Perm ((⟨t, Z + 1, x⟩ : It) :: l) → l2.Perm (ins ⟨t, Z + 1, x⟩ R)) := Lib.hid (fun l2 h => h.trans ((List.Perm.cons _ hp).trans hins.symm))
  have HS : Hid (Sorted (ins ⟨t, Z + 1, x⟩ R)) := Lib.hid (ins_sorted hs (fun y hy => by have := (hi y hy).2; simp only; omega))
  have HI : Hid (∀ y ∈ ins ⟨t, Z + 1, x⟩ R, 1 ≤ y.i ∧ y.i ≤ Z + 1) := Lib.hid (fun y hy => by
    rcases List.mem_cons.1 (hins.mem_iff.1 hy) with rfl | hy
    · simp only; omega
    · have := hi y hy; omega)
  have HDD : Hid ((ins ⟨t, Z + 1, x⟩ R).Pairwise (fun x y => x.i ≠ y.i)) := Lib.hid ((List.Perm.pairwise_iff (fun h => Ne.symm h) hins).2 (List.Pairwise.cons (fun y hy => by have := (hi y hy).2; simp only; omega) hd))
  have lt := h2.lt
  have HB := Lib.hid hB
  clear h2 a1 t1 h3 hp hs hi hd hins hR hB
  go_enter Try.func30, Try.ntmps30
  go_wp2_with fail
  refine L.mono ?_
  rintro e w1 ⟨rfl, rfl⟩
  go_wp2_with fail
  clear c1 f1
  obtain ⟨w2, hw2⟩ : ∃ w2 : World, w2 = w.setCell ⟨A, 1, none⟩ (.int .i64 (Z + 1)) := ⟨_, rfl⟩
  rw [← hw2]
  rw [← hw2] at A1 T1
  have d1 := A1.out.last
  have hB2 : B ≤ w2.heap.size := Nat.le_trans HB.out T1.out.size
  have HB2 := Lib.hid hB2
  clear hw2 hB2
  refine wp_region_still_tail 12 (by kernel_rfl) (by kernel_rfl) ?_
  simp only [List.take_succ_cons, List.take_zero, List.drop_succ_cons, List.drop_zero]
  repeat still_step
  try refine wpStill_nil ?_
  change wpList _ _ _ _ _ w2.drew
  have A2 : Hid (AG w2.drew B A (Z + 1) v l) := Lib.hid (A1.out.below ((Below.refl _ w2).drew))
  have T2 : Hid (Tch w w2.drew A v.ownBlock v.ownBlock) := Lib.hid (T1.out.trans (Tch.of_below ((Below.refl _ w2).drew)))
  have HB3 : Hid (B ≤ w2.drew.heap.size) := HB2
  generalize w2.drew = w3 at *
  clear d1 A1 T1 HB2
  have P := hpush_any B A (Z + 1) v l ⟨t, Z + 1, x⟩ w3 A2.out H3.out HR.out HB3.out
  unfold agg at P
  go_wp2_with fail
  refine P.mono ?_
  rintro e w4 ⟨v2, l2, rfl, a4, hh4, p4, t4⟩
  have c4 := a4.last
  have A4 := Lib.hid a4
  have T4 := Lib.hid (T2.out.trans t4)
  have P4 := Lib.hid (HP.out l2 p4)
  clear a4 t4 p4 P
  go_wp2_with fail
  go_ret2
  exact ⟨_, rfl, ⟨v2, l2, rfl, A4.out, hh4, P4.out, HS.out, HI.out, HDD.out⟩, T4.out⟩
end Go.Proofs.Ytkdaifcnlobhkaa.Ag
