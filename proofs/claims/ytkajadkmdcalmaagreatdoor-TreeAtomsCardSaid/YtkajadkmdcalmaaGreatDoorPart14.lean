/-
  WHAT THE ROWS REST ON, part 14: Tco Get0 Tat Trl2.
-/
import Derived.Lib.Strings
import Derived.Lib.UnsafeStr
import Derived.Laws.MakeOwn
import Derived.IntWalk
import Derived.Test.YtkajadkmdcalmaaGreatDoorPart13
/-
  WHICH CONDITIONS MAY BE: condMay.
-/
namespace Go.Proofs.YtkajadkmdcalmaaGreatDoor
open Go.RowKit
theorem nan_test (f : Nat) (hf : f < 18446744073709551616) : (FloatKind.f64.format.order f f != some .eq) = isNan f := by
  rw [ord_order f f hf hf]
  cases h : isNan f
  · rw [ord_some h h]
    simp
  · rw [ord_none_left h]; rfl
theorem isnan_any (f : Nat) (hf : f < 18446744073709551616) (w : World) : Calls Tryz.prog 102 #[.float .f64 f] w fun e w' => e = .returned (.bool (isNan f)) ∧ w = w' := by
  have T := nan_test f hf
  generalize isNan f = b at *
  cases b
  · have T' : (FloatKind.f64.format.order f f != some .eq) = false := T
    clear T
    go_enter Tryz.func102, Tryz.ntmps102
    go_wp2_with fail
    go_ret
    exact ⟨rfl, rfl⟩
  · have T' : (FloatKind.f64.format.order f f != some .eq) = true := T
    clear T
    go_enter Tryz.func102, Tryz.ntmps102
    go_wp2_with fail
    go_ret
    exact ⟨rfl, rfl⟩
/-- the condition, as one value -/
def Cnd.val (c : Cnd) : Value := .agg #[.string c.nm, .int .i64 c.op, .int .i64 c.v.k, .int .i64 c.v.n, .float .f64 c.v.f, .string c.v.s]
theorem chk_one (nm : ByteArray) (v : Val) : chkB 0 0 0 ⟨#[97]⟩ [⟨nm, v⟩] = (wordB nm && mayB v) := by
  have h0 : okAt [⟨nm, v⟩] 0 = (wordB nm && mayB v) := okAt_zero (L := [⟨nm, v⟩]) (Nat.lt_add_one 0)
  unfold chkB
  rw [show numB 0 = true by decide, show wordB ⟨#[97]⟩ = true by decide +kernel]
  simp only [Bool.true_and]
  unfold fieldsB okTo
  rw [show ([⟨nm, v⟩] : List Fld).length = 1 from rfl, show List.range 1 = [0] from rfl, List.all_cons, List.all_nil, h0]
  simp
theorem errI_t : errI true = 0 := rfl
theorem errI_f : errI false = 1 := rfl
set_option maxHeartbeats 4000000 in
set_option maxRecDepth 100000 in
theorem cond_any (c : Cnd) (w : World) (hn : c.nm.size ≤ 9223372036854775807) (hs : c.v.s.size ≤ 9223372036854775807) (hf : c.v.f < 18446744073709551616)
    (CA : c.v.s.size ≤ 64 → ∀ w, Calls Tryz.prog 103 #[.string c.v.s, .string ⟨#[39, 10, 13]⟩] w fun e w' => e = .returned (.bool (!noQ c.v.s)) ∧ Below w.heap.size w w') :
    Calls Tryz.prog 84 #[c.val] w (Ruled w (condB c)) := by
  obtain ⟨nm, op, ⟨k, n, f, s⟩⟩ := c
  unfold Cnd.val
  obtain ⟨W, hW, K0, K1, K2, BW⟩ : ∃ W, W = ((w.alloc (.cells #[.string nm, .int .i64 op, .int .i64 k, .int .i64 n, .float .f64 f, .string s] 74)).alloc (.cells #[.string nm, .int .i64 k, .int .i64 n, .float .f64 f, .string s] 85)).alloc (.cells #[.int .i64 0, .int .i64 0, .int .i64 0, .string ⟨#[97]⟩, .slice (some ⟨w.heap.size + 1, 0, none⟩) 1 1] 46) ∧
      Blk W w.heap.size 74 #[.string nm, .int .i64 op, .int .i64 k, .int .i64 n, .float .f64 f, .string s] ∧ Blk W (w.heap.size + 1) 85 #[.string nm, .int .i64 k, .int .i64 n, .float .f64 f, .string s] ∧ Blk W (w.heap.size + 2) 46 #[.int .i64 0, .int .i64 0, .int .i64 0, .string ⟨#[97]⟩, .slice (some ⟨w.heap.size + 1, 0, none⟩) 1 1] ∧ Below w.heap.size w W := by
    refine ⟨_, rfl, ?_, ?_, ?_, ?_⟩
    · have h0 := heap_alloc_new w (.cells #[.string nm, .int .i64 op, .int .i64 k, .int .i64 n, .float .f64 f, .string s] 74)
      exact (Blk.below (Blk.below h0 ((Below.refl _ _).alloc (by simp) _)) ((Below.refl _ _).alloc (Nat.le_refl _) _))
    · have h0 := heap_alloc_new (w.alloc (.cells #[.string nm, .int .i64 op, .int .i64 k, .int .i64 n, .float .f64 f, .string s] 74)) (.cells #[.string nm, .int .i64 k, .int .i64 n, .float .f64 f, .string s] 85)
      rw [World.size_alloc] at h0
      exact Blk.below h0 ((Below.refl _ _).alloc (Nat.le_refl _) _)
    · have h0 := heap_alloc_new ((w.alloc (.cells #[.string nm, .int .i64 op, .int .i64 k, .int .i64 n, .float .f64 f, .string s] 74)).alloc (.cells #[.string nm, .int .i64 k, .int .i64 n, .float .f64 f, .string s] 85)) (.cells #[.int .i64 0, .int .i64 0, .int .i64 0, .string ⟨#[97]⟩, .slice (some ⟨w.heap.size + 1, 0, none⟩) 1 1] 46)
      rw [World.size_alloc, World.size_alloc] at h0
      exact h0
    · exact (((Below.refl w.heap.size w).alloc (Nat.le_refl _) _).alloc (by simp) _).alloc (by simp; omega) _
  have HF : Flds W (some ⟨w.heap.size + 1, 0, none⟩) [⟨nm, ⟨k, n, f, s⟩⟩] := by
    intro p hp
    obtain rfl : p = 0 := by simp at hp; exact hp
    exact ⟨w.heap.size + 1, 0, rfl, K1.lt, K1.cell 0, K1.cell 1, K1.cell 2, K1.cell 3, K1.cell 4⟩
  have CK := check_any 0 0 0 ⟨#[97]⟩ (some ⟨w.heap.size + 1, 0, none⟩) 1 [⟨nm, ⟨k, n, f, s⟩⟩] W (by simp) (by decide) HF (by intro x hx; simp at hx; subst hx; exact ⟨hn, hs⟩)
  rw [chk_one] at CK
  have CKh := Lib.hid CK
  have IN := Lib.hid (isnan_any f hf)
  have e1 : condB ⟨nm, op, ⟨k, n, f, s⟩⟩ = (decide (1 ≤ op ∧ op ≤ 6) && (wordB nm && mayB ⟨k, n, f, s⟩) && cvB ⟨k, n, f, s⟩) := rfl
  rw [e1]
  have CV : (wordB nm && mayB ⟨k, n, f, s⟩) = true → k = 1 ∨ k = 2 ∨ k = 3 ∧ s.size ≤ 64 := fun h => by
    rw [Bool.and_eq_true] at h
    have h := h.2
    unfold mayB at h
    simp only at h
    by_cases k1 : k = 1
    · exact .inl k1
    by_cases k2 : k = 2
    · exact .inr (.inl k2)
    by_cases k3 : k = 3
    · rw [if_neg k1, if_neg k2, if_pos k3] at h
      simp at h
      exact .inr (.inr ⟨k3, by omega⟩)
    · rw [if_neg k1, if_neg k2, if_neg k3] at h
      exact absurd h (by decide)
  unfold cvB
  simp only
  have CAh := Lib.hid CA
  have HW := Lib.hid hW
  have BWh := Lib.hid BW
  have KC := Lib.hid (fun (w1 : World) (b1 : Below W.heap.size W w1) => K0.below b1)
  have KB := Lib.hid (K2.cell)
  clear CK CA hW HF K1 e1
  unfold Ruled
  generalize hbo : (wordB nm && mayB ⟨k, n, f, s⟩) = bo at *
  have YL : w.heap.size < W.heap.size := K0.lt
  have c0 : W.cell? ⟨w.heap.size, 0, none⟩ = some (.string nm) := K0.cell 0
  have c1 : W.cell? ⟨w.heap.size, 1, none⟩ = some (.int .i64 op) := K0.cell 1
  have d0 : W.cell? ⟨w.heap.size + 2, 0, none⟩ = some (.int .i64 0) := K2.cell 0
  have d1 : W.cell? ⟨w.heap.size + 2, 1, none⟩ = some (.int .i64 0) := K2.cell 1
  have d2 : W.cell? ⟨w.heap.size + 2, 2, none⟩ = some (.int .i64 0) := K2.cell 2
  have d3 : W.cell? ⟨w.heap.size + 2, 3, none⟩ = some (.string ⟨#[97]⟩) := K2.cell 3
  have d4 : W.cell? ⟨w.heap.size + 2, 4, none⟩ = some (.slice (some ⟨w.heap.size + 1, 0, none⟩) 1 1) := K2.cell 4
  clear K0 K2 BW hbo
  generalize hY : w.heap.size = Y at *
  by_cases ho : 1 ≤ op ∧ op ≤ 6
  · obtain ⟨o1, o2⟩ := ho
    rw [decide_eq_true ⟨o1, o2⟩]
    cases bo
    · rw [errI_f] at CKh
      rw [Bool.and_false, Bool.false_and]
      clear CV c0 c1 d0 d1 d2 d3 d4
      go_enter Tryz.func84, Tryz.ntmps84
      go_wp2_with (go_at_call 101; rw [← HW.out]; refine CKh.out.mono ?_; rintro e w1 ⟨rfl, b1⟩)
      go_ret
      exact ⟨rfl, BWh.out.trans (b1.mono (by omega))⟩
    · rw [errI_t] at CKh
      have KT : ∀ w1, Below W.heap.size W w1 → w1.cell? ⟨Y, 2, none⟩ = some (.int .i64 k) ∧ w1.cell? ⟨Y, 3, none⟩ = some (.int .i64 n) ∧ w1.cell? ⟨Y, 4, none⟩ = some (.float .f64 f) ∧ w1.cell? ⟨Y, 5, none⟩ = some (.string s) := fun w1 b1 =>
        have K := KC.out w1 b1
        ⟨K.cell 2, K.cell 3, K.cell 4, K.cell 5⟩
      have KTh := Lib.hid KT
      clear c0 c1 d0 d1 d2 d3 d4 KT KC KB
      rcases CV rfl with rfl | rfl | ⟨rfl, hs64⟩
      · rw [if_pos rfl]
        clear CV CAh IN
        by_cases n1 : -1000000000000000000 < n
        · by_cases n2 : n < 1000000000000000000
          · rw [decide_eq_true ⟨n1, n2⟩]
            go_enter Tryz.func84, Tryz.ntmps84
            go_wp2_with (go_at_call 101; rw [← HW.out]; refine CKh.out.mono ?_; rintro e w1 ⟨rfl, b1⟩; obtain ⟨x2, x3, x4, x5⟩ := KTh.out w1 b1; clear CKh)
            go_ret
            exact ⟨rfl, BWh.out.trans (b1.mono (by omega))⟩
          · have n3 : decide (n < 1000000000000000000) = false := decide_eq_false n2
            rw [decide_eq_false (fun h : -1000000000000000000 < n ∧ n < 1000000000000000000 => n2 h.2)]
            go_enter Tryz.func84, Tryz.ntmps84
            go_wp2_with (go_at_call 101; rw [← HW.out]; refine CKh.out.mono ?_; rintro e w1 ⟨rfl, b1⟩; obtain ⟨x2, x3, x4, x5⟩ := KTh.out w1 b1; clear CKh)
            go_ret
            exact ⟨rfl, BWh.out.trans (b1.mono (by omega))⟩
        · have n3 : decide (-1000000000000000000 < n) = false := decide_eq_false n1
          rw [decide_eq_false (fun h : -1000000000000000000 < n ∧ n < 1000000000000000000 => n1 h.1)]
          go_enter Tryz.func84, Tryz.ntmps84
          go_wp2_with (go_at_call 101; rw [← HW.out]; refine CKh.out.mono ?_; rintro e w1 ⟨rfl, b1⟩; obtain ⟨x2, x3, x4, x5⟩ := KTh.out w1 b1; clear CKh)
          go_ret
          exact ⟨rfl, BWh.out.trans (b1.mono (by omega))⟩
      · rw [if_neg (by decide), if_pos rfl]
        clear CV CAh
        generalize isNan f = bn at *
        cases bn
        · go_enter Tryz.func84, Tryz.ntmps84
          go_wp2_with (first | (go_at_call 101; rw [← HW.out]; refine CKh.out.mono ?_; rintro e w1 ⟨rfl, b1⟩; obtain ⟨x2, x3, x4, x5⟩ := KTh.out w1 b1; clear CKh) | (go_at_call 102; refine (IN.out _).mono ?_; rintro e w2 ⟨rfl, rfl⟩))
          go_ret
          exact ⟨rfl, BWh.out.trans (b1.mono (by omega))⟩
        · by_cases hb : f = 9221120237041090561
          · subst hb
            have hr : ∀ w, (callFunc 78 #[.float .f64 9221120237041090561]).run Tryz.prog w = .ok (.value (.int .u64 9221120237041090561)) w := run_bits 9221120237041090561
            go_enter Tryz.func84, Tryz.ntmps84
            go_wp2_with (first | (go_at_call 101; rw [← HW.out]; refine CKh.out.mono ?_; rintro e w1 ⟨rfl, b1⟩; obtain ⟨x2, x3, x4, x5⟩ := KTh.out w1 b1; clear CKh) | (go_at_call 102; refine (IN.out _).mono ?_; rintro e w2 ⟨rfl, rfl⟩))
            go_ret
            exact ⟨rfl, BWh.out.trans (b1.mono (by omega))⟩
          · have hb1 : ((f : Int) == 9221120237041090561) = false := by simp; omega
            have hb2 : (f == 9221120237041090561) = false := by simpa using hb
            rw [hb2]
            clear hb
            have hr := run_bits f
            go_enter Tryz.func84, Tryz.ntmps84
            go_wp2_with (first | (go_at_call 101; rw [← HW.out]; refine CKh.out.mono ?_; rintro e w1 ⟨rfl, b1⟩; obtain ⟨x2, x3, x4, x5⟩ := KTh.out w1 b1; clear CKh) | (go_at_call 102; refine (IN.out _).mono ?_; rintro e w2 ⟨rfl, rfl⟩))
            go_ret
            exact ⟨rfl, BWh.out.trans (b1.mono (by omega))⟩
      · rw [if_neg (by decide), if_neg (by decide)]
        clear CV IN
        have CB := Lib.hid (CAh.out hs64)
        clear CAh
        generalize noQ s = bq at *
        go_enter Tryz.func84, Tryz.ntmps84
        go_wp2_with (first | (go_at_call 101; rw [← HW.out]; refine CKh.out.mono ?_; rintro e w1 ⟨rfl, b1⟩; obtain ⟨x2, x3, x4, x5⟩ := KTh.out w1 b1; clear CKh) | (go_at_call 103; refine (CB.out _).mono ?_; rintro e w2 ⟨rfl, b2⟩))
        go_ret
        exact ⟨by simp, BWh.out.trans ((b1.mono (by omega)).trans (b2.mono (Nat.le_trans (by omega) b1.size)))⟩
  · rw [decide_eq_false ho, Bool.false_and, Bool.false_and]
    clear CV c0 c1 d0 d1 d2 d3 d4
    by_cases o1 : op < 1
    · go_enter Tryz.func84, Tryz.ntmps84
      go_wp2_with fail
      rw [← HW.out]
      go_ret
      exact ⟨rfl, BWh.out⟩
    · have o2 : 6 < op := by omega
      go_enter Tryz.func84, Tryz.ntmps84
      go_wp2_with fail
      rw [← HW.out]
      go_ret
      exact ⟨rfl, BWh.out⟩
end Go.Proofs.YtkajadkmdcalmaaGreatDoor
/-
  SameValue, Bits, strings.Clone; the document's own Get.
-/
namespace Go.Proofs.YtkajadkmdcalmaaGreatDoor
open Go.RowKit
/-- the first field of a name -/
def findF : List Fld → ByteArray → Option Val
  | [], _ => none
  | x :: r, s => if x.nm = s then some x.v else findF r s
theorem findF_take {L : List Fld} {s : ByteArray} {k : Nat} (hk : k < L.length) (h : findF (L.take k) s = none) : findF (L.take (k + 1)) s = if L[k].nm = s then some L[k].v else none := by
  induction L generalizing k with
  | nil => simp at hk
  | cons x r ih =>
    cases k with
    | zero => simp [findF]
    | succ k =>
      simp only [List.take_succ_cons, findF] at h ⊢
      by_cases hx : x.nm = s
      · rw [if_pos hx] at h; cases h
      · rw [if_neg hx] at h ⊢
        exact ih (by simpa using hk) h
theorem findF_at {L : List Fld} {s : ByteArray} {k : Nat} (hk : k < L.length) (h : findF (L.take k) s = none) (he : L[k].nm = s) : findF L s = some L[k].v := by
  induction L generalizing k with
  | nil => simp at hk
  | cons x r ih =>
    cases k with
    | zero => simp only [List.getElem_cons_zero] at he; simp [findF, he]
    | succ k =>
      simp only [List.take_succ_cons, findF] at h ⊢
      by_cases hx : x.nm = s
      · rw [if_pos hx] at h; cases h
      · rw [if_neg hx] at h ⊢
        exact ih (by simpa using hk) h (by simpa using he)
theorem str_eq (a b : ByteArray) : (a.toList == b.toList) = decide (a = b) := by
  apply Bool.eq_iff_iff.2
  simp only [beq_iff_eq, decide_eq_true_eq, ByteArray.toList_eq]
  constructor
  · intro h
    cases a; cases b
    simp only [ByteArray.mk.injEq]
    exact Array.toList_inj.1 h
  · intro h; rw [h]
def v0 : Val := ⟨0, 0, 0, ⟨#[]⟩⟩
theorem bits_c (f : Nat) : ∃ c : Nat, ∀ w, Calls Tryz.prog 95 #[.float .f64 f] w fun e w' => e = .returned (.int .u64 c) ∧ w = w' := by
  have hb := run_bits f
  cases h : (FloatKind.f64.format.order f f != some .eq)
  · refine ⟨f, fun w => ?_⟩
    go_enter Tryz.func95, Tryz.ntmps95
    go_wp2_with fail
    go_ret
    exact ⟨rfl, rfl⟩
  · refine ⟨9221120237041090561, fun w => ?_⟩
    go_enter Tryz.func95, Tryz.ntmps95
    go_wp2_with fail
    go_ret
    exact ⟨rfl, rfl⟩
def optV (o : Option Val) : Val := o.getD v0
/-- a value's cells stored -/
theorem val_stored {w W : World} {Y g : Nat} {t : TypeId} (hY : Y ≤ g) (v : Val) {cs : Array Value} (h : Blk W g t cs) (hs : cs.size = 4) (hb : Below Y w W) :
    ∃ W5, W5 = (((W.setCell ⟨g, 0, none⟩ (.int .i64 v.k)).setCell ⟨g, 1, none⟩ (.int .i64 v.n)).setCell ⟨g, 2, none⟩ (.float .f64 v.f)).setCell ⟨g, 3, none⟩ (.string v.s) ∧ Blk W5 g t #[.int .i64 v.k, .int .i64 v.n, .float .f64 v.f, .string v.s] ∧ Below Y w W5 := by
  have st : ∀ {W : World} {cs : Array Value} (i : Nat) (x : Value), Blk W g t cs → Blk (W.setCell ⟨g, i, none⟩ x) g t (cs.setIfInBounds i x) := fun i x hb => heap_setCell_same _ _ i _ t x hb
  have sb : ∀ {W : World} (i : Nat) (x : Value), Below Y w W → Below Y w (W.setCell ⟨g, i, none⟩ x) := fun i x hb => hb.setCell (p := ⟨g, i, none⟩) hY _
  obtain ⟨l⟩ := cs
  match l, hs with
  | [x0, x1, x2, x3], _ => exact ⟨_, rfl, st 3 _ (st 2 _ (st 1 _ (st 0 _ h))), sb 3 _ (sb 2 _ (sb 1 _ (sb 0 _ hb)))⟩
set_option maxHeartbeats 1000000 in
set_option maxRecDepth 100000 in
theorem rget_any (a b c : Int) (k s : ByteArray) (p : Option Addr) (cp : Nat) (L : List Fld) (w : World) (hl : L.length ≤ 100) (hx : Flds w p L) :
    Calls Tryz.prog 33 #[evV a b c k (.slice p L.length cp), .string s] w fun e w' => e = .returned (.tuple #[(optV (findF L s)).val, .bool (findF L s).isSome]) ∧ Below w.heap.size w w' := by
  obtain ⟨w2, hw2, K0, K1, B2, hs2⟩ : ∃ w2, w2 = (w.alloc (.cells #[.int .i64 a, .int .i64 b, .int .i64 c, .string k, .slice p L.length cp] 55)).alloc (.cells #[.int .i64 0, .int .i64 0, .float .f64 0, .string ⟨#[]⟩] 78) ∧
      Blk w2 w.heap.size 55 #[.int .i64 a, .int .i64 b, .int .i64 c, .string k, .slice p L.length cp] ∧ Blk w2 (w.heap.size + 1) 78 #[.int .i64 0, .int .i64 0, .float .f64 0, .string ⟨#[]⟩] ∧ Below w.heap.size w w2 ∧ w2.heap.size = w.heap.size + 2 := by
    have B1 := (Below.refl w.heap.size w).alloc (Nat.le_refl _) (.cells #[.int .i64 a, .int .i64 b, .int .i64 c, .string k, .slice p L.length cp] 55)
    have e1 : Blk (w.alloc (.cells #[.int .i64 a, .int .i64 b, .int .i64 c, .string k, .slice p L.length cp] 55)) w.heap.size 55 #[.int .i64 a, .int .i64 b, .int .i64 c, .string k, .slice p L.length cp] := heap_alloc_new w _
    have h1 : (w.alloc (.cells #[.int .i64 a, .int .i64 b, .int .i64 c, .string k, .slice p L.length cp] 55)).heap.size = w.heap.size + 1 := by simp
    generalize w.alloc (.cells #[.int .i64 a, .int .i64 b, .int .i64 c, .string k, .slice p L.length cp] 55) = w1 at *
    have b2 := (Below.refl w1.heap.size w1).alloc (Nat.le_refl _) (.cells #[.int .i64 0, .int .i64 0, .float .f64 0, .string ⟨#[]⟩] 78)
    have e2 : Blk (w1.alloc (.cells #[.int .i64 0, .int .i64 0, .float .f64 0, .string ⟨#[]⟩] 78)) w1.heap.size 78 #[.int .i64 0, .int .i64 0, .float .f64 0, .string ⟨#[]⟩] := heap_alloc_new w1 _
    rw [h1] at e2
    exact ⟨_, rfl, e1.below b2, e2, B1.trans (b2.mono (by omega)), by simp; omega⟩
  have X2 := hx.below B2
  generalize hn : L.length = n at *
  have HN := Lib.hid hn
  have W2 := Lib.hid hw2
  have X2h := Lib.hid X2
  have B2h := Lib.hid B2
  have K1h := Lib.hid K1
  have e4 : w2.cell? ⟨w.heap.size, 4, none⟩ = some (.slice p n cp) := K0.cell 4
  have z0 : w2.cell? ⟨w.heap.size + 1, 0, none⟩ = some (.int .i64 0) := K1.cell 0
  have z1 : w2.cell? ⟨w.heap.size + 1, 1, none⟩ = some (.int .i64 0) := K1.cell 1
  have z2 : w2.cell? ⟨w.heap.size + 1, 2, none⟩ = some (.float .f64 0) := K1.cell 2
  have z3 : w2.cell? ⟨w.heap.size + 1, 3, none⟩ = some (.string ⟨#[]⟩) := K1.cell 3
  have f0 := K1.free 0
  have f1 := K1.free 1
  have f2 := K1.free 2
  have f3 := K1.free 3
  clear hn hw2 X2 B2 K0 K1 hx
  generalize hy : w.heap.size = Y at *
  unfold evV
  go_enter Tryz.func33, Tryz.ntmps33
  go_wp2_with fail
  rw [← W2.out]
  go_loop [6] (fun i => ∃ j : Nat, i = .int .i64 j ∧ j ≤ n ∧ Hid (findF (L.take j) s = none)) (fun i => n - (intOf i).toNat)
  case atStart => exact ⟨0, rfl, Nat.zero_le _, Lib.hid rfl⟩
  case round =>
    obtain ⟨j, rfl, hj, hf⟩ := hrel
    by_cases hjn : j < n
    · have hjL : j < L.length := by rw [HN.out]; exact hjn
      obtain ⟨g0, o, rfl, hg0, c0, c1, c2, c3, c4⟩ := X2h.out j hjL
      have FT := Lib.hid (findF_take hjL hf.out)
      have FA := Lib.hid (findF_at hjL hf.out)
      generalize L[j] = x at *
      obtain ⟨xn, xk, xm, xf, xs⟩ := x
      simp only at c0 c1 c2 c3 c4 FT FA
      by_cases he : xn = s
      · have E1 : (xn.toList == s.toList) = true := by rw [str_eq]; exact decide_eq_true he
        have F5 := Lib.hid (FA.out he)
        obtain ⟨W5, hW5, R5, B5⟩ := val_stored (w := w) (Nat.le_succ Y) ⟨xk, xm, xf, xs⟩ K1h.out rfl B2h.out
        have W5h := Lib.hid hW5
        have R5h := Lib.hid R5
        have B5h := Lib.hid B5
        clear he hW5 R5 B5 FT FA
        go_wp2_with fail
        rw [← W5h.out]
        have q0 : W5.cell? ⟨Y + 1, 0, none⟩ = some (.int .i64 xk) := R5h.out.cell 0
        have q1 : W5.cell? ⟨Y + 1, 1, none⟩ = some (.int .i64 xm) := R5h.out.cell 1
        have q2 : W5.cell? ⟨Y + 1, 2, none⟩ = some (.float .f64 xf) := R5h.out.cell 2
        have q3 : W5.cell? ⟨Y + 1, 3, none⟩ = some (.string xs) := R5h.out.cell 3
        refine bodyPost_ret (by simp [results, Tryz.results33, go_sem, q0, q1, q2, q3]; try rfl) rfl ?_
        exact ⟨by rw [F5.out]; rfl, hy ▸ B5h.out⟩
      · have E1 : (xn.toList == s.toList) = false := by rw [str_eq]; exact decide_eq_false he
        have F5 := Lib.hid (FT.out.trans (if_neg he))
        clear he FT FA
        go_wp2_with fail
        go_round
        case rel => exact ⟨j + 1, by go_num, by omega, F5⟩
        case measure => simp [intOf]; omega
    · obtain rfl : j = n := by omega
      have F5 : Hid (findF L s = none) := Lib.hid (by
        have := hf.out
        rw [← HN.out, List.take_of_length_le (Nat.le_refl _)] at this
        exact this)
      obtain ⟨W5, hW5, R5, B5⟩ := val_stored (w := w) (Nat.le_succ Y) v0 K1h.out rfl B2h.out
      unfold v0 at hW5 R5
      simp only at hW5 R5
      have W5h := Lib.hid hW5
      have R5h := Lib.hid R5
      have B5h := Lib.hid B5
      clear hW5 R5 B5 hf
      go_wp2_with fail
      rw [← W5h.out]
      have q0 : W5.cell? ⟨Y + 1, 0, none⟩ = some (.int .i64 0) := R5h.out.cell 0
      have q1 : W5.cell? ⟨Y + 1, 1, none⟩ = some (.int .i64 0) := R5h.out.cell 1
      have q2 : W5.cell? ⟨Y + 1, 2, none⟩ = some (.float .f64 0) := R5h.out.cell 2
      have q3 : W5.cell? ⟨Y + 1, 3, none⟩ = some (.string ⟨#[]⟩) := R5h.out.cell 3
      refine bodyPost_ret (by simp [results, Tryz.results33, go_sem, q0, q1, q2, q3]; try rfl) rfl ?_
      exact ⟨by rw [F5.out]; rfl, hy ▸ B5h.out⟩
end Go.Proofs.YtkajadkmdcalmaaGreatDoor
/-
  AN ATOM THAT MAY BE: atomMay.
-/
namespace Go.Proofs.YtkajadkmdcalmaaGreatDoor
open Go.RowKit
/-- what is known of the sizes of a condition -/
structure Cnd.Ok (c : Cnd) : Prop where
  nm : c.nm.size ≤ 281474976710656
  s : c.v.s.size ≤ 281474976710656
  f : c.v.f < 18446744073709551616
  n : -9223372036854775808 ≤ c.v.n ∧ c.v.n ≤ 9223372036854775807
/-- ContainsAny of ' , 10 and 13 -/
def CAny (s : ByteArray) : Prop := s.size ≤ 64 → ∀ w, Calls Tryz.prog 103 #[.string s, .string ⟨#[39, 10, 13]⟩] w fun e w' => e = .returned (.bool (!noQ s)) ∧ Below w.heap.size w w'
theorem kindB_cases (k : ByteArray) :
    (kindB k = true ∧ (k = ⟨#[]⟩ ∨ k.toList.isEmpty = false ∧ wordB k = true ∧ (k.toList == [97, 110, 121]) = false ∧ (k.toList == [119, 105, 116, 104, 105, 110]) = false)) ∨
    (kindB k = false ∧ k.toList.isEmpty = false ∧ (wordB k = false ∨ wordB k = true ∧ ((k.toList == [97, 110, 121]) = true ∨ (k.toList == [97, 110, 121]) = false ∧ (k.toList == [119, 105, 116, 104, 105, 110]) = true))) := by
  rcases kind_zero k with ⟨h, h2⟩ | ⟨h1, h2⟩
  · subst h; exact .inl ⟨by decide +kernel, .inl rfl⟩
  · have h3 : k.toList.isEmpty = false := by
      cases h : k.toList with
      | nil => rw [h] at h1; exact absurd h1 (by decide)
      | cons a l => rfl
    unfold kindB
    rw [h2, h3, ← str_eq, ← str_eq, show anyK.toList = [97, 110, 121] by decide +kernel, show withinK.toList = [119, 105, 116, 104, 105, 110] by decide +kernel]
    cases wordB k <;> cases (k.toList == [97, 110, 121]) <;> cases (k.toList == [119, 105, 116, 104, 105, 110]) <;> simp
theorem all_take {f : Cnd → Bool} {l : List Cnd} {j : Nat} (hj : j < l.length) (h : (l.take j).all f = true) : (l.take (j + 1)).all f = f l[j] := by
  rw [List.take_succ_eq_append_getElem hj, List.all_append, h]; simp
theorem all_false {f : Cnd → Bool} {l : List Cnd} {j : Nat} (hj : j < l.length) (h : f l[j] = false) : l.all f = false := by
  rw [List.all_eq_false]; exact ⟨l[j], List.getElem_mem _, by rw [h]; decide⟩
set_option maxHeartbeats 4000000 in
set_option maxRecDepth 100000 in
theorem atomMay_any {w : World} {Bs : List Nat} {n : Nd} {g : Nat} (hp : PartOk w Bs n g) (hc : n.conds.length ≤ 100) (hk : n.kind.size ≤ 281474976710656) (hf : n.kids.length ≤ 200)
    (ho : ∀ c ∈ n.conds, c.Ok ∧ CAny c.v.s) : Calls Tryz.prog 51 #[ptr g] w (Ruled w (atomB n)) := by
  have WK := Lib.hid (word_any n.kind (by omega))
  have TL := Lib.hid (fun (w' : World) (h : Below w.heap.size w w') => timeless_any (hp.below h))
  obtain ⟨ca, cc, ka, kc, pa, pc, hb, hcs, -⟩ := hp.ex
  have c0 : w.cell? ⟨g, 0, none⟩ = some (.int .i64 n.op) := hb.cell 0
  have c1 : w.cell? ⟨g, 1, none⟩ = some (.string n.kind) := hb.cell 1
  have c2 : w.cell? ⟨g, 2, none⟩ = some (.slice ca n.conds.length cc) := hb.cell 2
  have c3 : w.cell? ⟨g, 3, none⟩ = some (.int .i64 n.lo) := hb.cell 3
  have c4 : w.cell? ⟨g, 4, none⟩ = some (.int .i64 n.hi) := hb.cell 4
  have c5 : w.cell? ⟨g, 5, none⟩ = some (.slice ka n.kids.length kc) := hb.cell 5
  have C6 := Lib.hid (fun (w' : World) (h : Below w.heap.size w w') => show w'.cell? ⟨g, 6, none⟩ = some (.slice pa n.kids.length pc) from (hb.below h).cell 6)
  obtain ⟨W, hW, K0, BW⟩ : ∃ W, W = w.alloc (.cells #[.int .i64 n.op, .string n.kind, .slice ca n.conds.length cc, .int .i64 n.lo, .int .i64 n.hi, .slice ka n.kids.length kc] 43) ∧
      Blk W w.heap.size 43 #[.int .i64 n.op, .string n.kind, .slice ca n.conds.length cc, .int .i64 n.lo, .int .i64 n.hi, .slice ka n.kids.length kc] ∧ Below w.heap.size w W :=
    ⟨_, rfl, heap_alloc_new w _, (Below.refl _ _).alloc (Nat.le_refl _) _⟩
  have HW := Lib.hid hW
  have BWh := Lib.hid BW
  have CS := Lib.hid (fun (w' : World) (h : Below w.heap.size w w') => hcs.below h)
  have d1 : W.cell? ⟨w.heap.size, 1, none⟩ = some (.string n.kind) := K0.cell 1
  have d2 : W.cell? ⟨w.heap.size, 2, none⟩ = some (.slice ca n.conds.length cc) := K0.cell 2
  have KB := kindB_cases n.kind
  have hN : ∃ m, m = n.conds.length := ⟨_, rfl⟩
  have e0 : atomB n = (kindB n.kind && decide (n.conds.length ≤ 4) && n.conds.all condB && (timeB n && decide (n.kids.length = 0))) := by
    unfold atomB
    cases n.kids <;> simp
  rw [e0]
  have HO := Lib.hid ho
  have HZ : w.heap.size < W.heap.size := K0.lt
  clear hW K0 BW hcs hb hp e0 ho
  unfold Ruled ptr
  generalize n.kind = k at *
  generalize timeB n = tb at *
  generalize n.kids.length = kn at *
  generalize n.op = op at *
  generalize n.lo = lo at *
  generalize n.hi = hi at *
  generalize n.conds = cs at *
  generalize hY : w.heap.size = Y at *
  obtain ⟨m, hm⟩ := hN
  have HM := Lib.hid hm
  rw [← hm] at c2 d2 hc HW ⊢
  clear hm
  rcases KB with ⟨e, KB⟩ | ⟨e, h1, KB⟩
  · rw [e]
    clear e
    by_cases hm4 : m ≤ 4
    · rw [decide_eq_true hm4, Bool.true_and, Bool.true_and]
      have m4I : ¬ (4 : Int) < (m : Int) := by omega
      have m4J : decide ((4 : Int) < (m : Int)) = false := decide_eq_false m4I
      rcases KB with rfl | ⟨h1, hw, h2, h3⟩
      · go_enter Tryz.func51, Tryz.ntmps51
        go_wp2_with fail
        rw [← HW.out]
        go_loopw [38] (fun i wr => ∃ j : Nat, i = .int .i64 j ∧ j ≤ m ∧ Hid (Below Y w wr) ∧ Hid ((cs.take j).all condB = true)) (fun i wr => m - (intOf i).toNat)
        case atStart => exact ⟨0, rfl, Nat.zero_le _, BWh, Lib.hid rfl⟩
        case round =>
          obtain ⟨j, rfl, hj, hB, hA⟩ := hrel
          by_cases hjm : j < m
          · have jI : (j : Int) < (m : Int) := by omega
            have jJ := decide_eq_true jI
            have hjL : j < cs.length := by rw [← HM.out]; exact hjm
            obtain ⟨g0, o, rfl, hg, x0, x1, x2, x3, x4, x5⟩ := CS.out wr hB.out j hjL
            have OK := HO.out _ (List.getElem_mem hjL)
            have CD := Lib.hid (fun w' => cond_any cs[j] w' (by have := OK.1.nm; omega) (by have := OK.1.s; omega) OK.1.f OK.2)
            have AT := Lib.hid (all_take hjL hA.out)
            have AF := Lib.hid (fun h => all_false (f := condB) hjL h)
            have hyr : Y ≤ wr.heap.size := by have := hB.out.size; omega
            clear OK
            unfold Ruled Cnd.val at CD
            generalize cs[j] = c at *
            generalize c.nm = cn at *
            generalize c.op = co at *
            generalize c.v.k = ck at *
            generalize c.v.n = cvn at *
            generalize c.v.f = cf at *
            generalize c.v.s = cvs at *
            cases hcb : condB c
            · have HC := Lib.hid hcb
              rw [hcb] at CD
              clear hcb
              go_wp2_with (go_at_call 84; refine (CD.out _).mono ?_; rintro e w2 ⟨rfl, b2⟩)
              go_ret
              exact ⟨by rw [AF.out HC.out]; rfl, (hB.out.alloc hyr _).trans (b2.mono (by simp; omega))⟩
            · have HC := Lib.hid hcb
              rw [hcb] at CD
              clear hcb
              go_wp2_with (go_at_call 84; refine (CD.out _).mono ?_; rintro e w2 ⟨rfl, b2⟩)
              go_roundw
              case rel => exact ⟨j + 1, by go_num, by omega, Lib.hid ((hB.out.alloc hyr _).trans (b2.mono (by simp; omega))), Lib.hid (by rw [AT.out]; exact HC.out)⟩
              case measure => simp [intOf]; omega
          · obtain rfl : j = m := by omega
            have jI : ¬ (j : Int) < (j : Int) := by omega
            have AL : cs.all condB = true := by
              have := hA.out
              rw [List.take_of_length_le (by rw [HM.out]; exact Nat.le_refl _)] at this
              exact this
            have AL := Lib.hid AL
            have T1 := Lib.hid (TL.out wr hB.out)
            have x6 := C6.out wr hB.out
            cases tb
            · unfold ptr at T1
              go_wp2_with (go_at_call 85; refine T1.out.mono ?_; rintro e w2 ⟨rfl, rfl⟩)
              go_ret
              exact ⟨by first | rfl | (rw [AL.out]; rfl), hB.out⟩
            · unfold ptr at T1
              by_cases hk0 : kn = 0
              · subst hk0
                go_wp2_with (go_at_call 85; refine T1.out.mono ?_; rintro e w2 ⟨rfl, rfl⟩)
                go_ret
                exact ⟨by first | rfl | (rw [AL.out]; rfl), hB.out⟩
              · have k1 : ((kn : Int) == 0) = false := by simp; omega
                have D := Lib.hid (decide_eq_false hk0)
                clear hk0
                go_wp2_with (go_at_call 85; refine T1.out.mono ?_; rintro e w2 ⟨rfl, rfl⟩)
                go_ret
                exact ⟨by first | rfl | (rw [AL.out, D.out]; rfl) | (rw [D.out]; rfl), hB.out⟩
      · rw [hw] at WK
        clear hw
        go_enter Tryz.func51, Tryz.ntmps51
        go_wp2_with (go_at_call 83; rw [← HW.out]; refine (WK.out _).mono ?_; rintro e w1 ⟨rfl, rfl⟩)
        go_loopw [38] (fun i wr => ∃ j : Nat, i = .int .i64 j ∧ j ≤ m ∧ Hid (Below Y w wr) ∧ Hid ((cs.take j).all condB = true)) (fun i wr => m - (intOf i).toNat)
        case atStart => exact ⟨0, rfl, Nat.zero_le _, BWh, Lib.hid rfl⟩
        case round =>
          obtain ⟨j, rfl, hj, hB, hA⟩ := hrel
          by_cases hjm : j < m
          · have jI : (j : Int) < (m : Int) := by omega
            have jJ := decide_eq_true jI
            have hjL : j < cs.length := by rw [← HM.out]; exact hjm
            obtain ⟨g0, o, rfl, hg, x0, x1, x2, x3, x4, x5⟩ := CS.out wr hB.out j hjL
            have OK := HO.out _ (List.getElem_mem hjL)
            have CD := Lib.hid (fun w' => cond_any cs[j] w' (by have := OK.1.nm; omega) (by have := OK.1.s; omega) OK.1.f OK.2)
            have AT := Lib.hid (all_take hjL hA.out)
            have AF := Lib.hid (fun h => all_false (f := condB) hjL h)
            have hyr : Y ≤ wr.heap.size := by have := hB.out.size; omega
            clear OK
            unfold Ruled Cnd.val at CD
            generalize cs[j] = c at *
            generalize c.nm = cn at *
            generalize c.op = co at *
            generalize c.v.k = ck at *
            generalize c.v.n = cvn at *
            generalize c.v.f = cf at *
            generalize c.v.s = cvs at *
            cases hcb : condB c
            · have HC := Lib.hid hcb
              rw [hcb] at CD
              clear hcb
              go_wp2_with (go_at_call 84; refine (CD.out _).mono ?_; rintro e w2 ⟨rfl, b2⟩)
              go_ret
              exact ⟨by rw [AF.out HC.out]; rfl, (hB.out.alloc hyr _).trans (b2.mono (by simp; omega))⟩
            · have HC := Lib.hid hcb
              rw [hcb] at CD
              clear hcb
              go_wp2_with (go_at_call 84; refine (CD.out _).mono ?_; rintro e w2 ⟨rfl, b2⟩)
              go_roundw
              case rel => exact ⟨j + 1, by go_num, by omega, Lib.hid ((hB.out.alloc hyr _).trans (b2.mono (by simp; omega))), Lib.hid (by rw [AT.out]; exact HC.out)⟩
              case measure => simp [intOf]; omega
          · obtain rfl : j = m := by omega
            have jI : ¬ (j : Int) < (j : Int) := by omega
            have AL : cs.all condB = true := by
              have := hA.out
              rw [List.take_of_length_le (by rw [HM.out]; exact Nat.le_refl _)] at this
              exact this
            have AL := Lib.hid AL
            have T1 := Lib.hid (TL.out wr hB.out)
            have x6 := C6.out wr hB.out
            cases tb
            · unfold ptr at T1
              go_wp2_with (go_at_call 85; refine T1.out.mono ?_; rintro e w2 ⟨rfl, rfl⟩)
              go_ret
              exact ⟨by first | rfl | (rw [AL.out]; rfl), hB.out⟩
            · unfold ptr at T1
              by_cases hk0 : kn = 0
              · subst hk0
                go_wp2_with (go_at_call 85; refine T1.out.mono ?_; rintro e w2 ⟨rfl, rfl⟩)
                go_ret
                exact ⟨by first | rfl | (rw [AL.out]; rfl), hB.out⟩
              · have k1 : ((kn : Int) == 0) = false := by simp; omega
                have D := Lib.hid (decide_eq_false hk0)
                clear hk0
                go_wp2_with (go_at_call 85; refine T1.out.mono ?_; rintro e w2 ⟨rfl, rfl⟩)
                go_ret
                exact ⟨by first | rfl | (rw [AL.out, D.out]; rfl) | (rw [D.out]; rfl), hB.out⟩
    · rw [decide_eq_false hm4, Bool.true_and, Bool.false_and, Bool.false_and]
      have m4I : (4 : Int) < (m : Int) := by omega
      have m4J : decide ((4 : Int) < (m : Int)) = true := decide_eq_true m4I
      rcases KB with rfl | ⟨h1, hw, h2, h3⟩
      · go_enter Tryz.func51, Tryz.ntmps51
        go_wp2_with fail
        rw [← HW.out]
        go_ret
        exact ⟨rfl, BWh.out⟩
      · rw [hw] at WK
        clear hw
        go_enter Tryz.func51, Tryz.ntmps51
        go_wp2_with (go_at_call 83; rw [← HW.out]; refine (WK.out _).mono ?_; rintro e w1 ⟨rfl, rfl⟩)
        go_ret
        exact ⟨rfl, BWh.out⟩
  · rw [e, Bool.false_and, Bool.false_and, Bool.false_and]
    clear e
    rcases KB with hw | ⟨hw, h2 | ⟨h2, h3⟩⟩
    all_goals
      rw [hw] at WK
      clear hw
      go_enter Tryz.func51, Tryz.ntmps51
      go_wp2_with (go_at_call 83; rw [← HW.out]; refine (WK.out _).mono ?_; rintro e w1 ⟨rfl, rfl⟩)
      go_ret
      exact ⟨rfl, BWh.out⟩
end Go.Proofs.YtkajadkmdcalmaaGreatDoor
/-
  A Seq THAT MAY BE.
-/
namespace Go.Proofs.YtkajadkmdcalmaaGreatDoor
open Go.RowKit
theorem last_0 {ks : List Int} (h : 0 < ks.length) : ks.getLastD 0 = ks[ks.length - 1] := by
  rw [List.getLastD_eq_getLast?, List.getLast?_eq_getElem?, List.getElem?_eq_getElem (by omega)]; rfl
set_option maxHeartbeats 4000000 in
set_option maxRecDepth 100000 in
theorem seqMay_any {w : World} {l : List Nd} {Bs : List Nat} {n : Nd} {g : Nat} (h : Parts w l Bs) (hp : PartOk w Bs n g) (hk : ∀ k ∈ n.kids, 0 ≤ k ∧ k < (Bs.length : Int)) (hf : n.kids.length ≤ 200) (hc : n.conds.length ≤ 100) :
    Calls Tryz.prog 52 #[ptr g] w (Ruled w (seqB l n)) := by
  have B : ∀ d, Calls Tryz.prog 86 #[ptr g] (w.drewN d) fun e w' => e = .returned (.bool (bareB n)) ∧ w' = w.drewN d := fun d => (bare_any (hp.drewN d) hc).mono fun _ _ ⟨a, b⟩ => ⟨a, b.symm⟩
  have T : ∀ d, Calls Tryz.prog 85 #[ptr g] (w.drewN d) fun e w' => e = .returned (.bool (timeB n)) ∧ w' = w.drewN d := fun d => (timeless_any (hp.drewN d)).mono fun _ _ ⟨a, b⟩ => ⟨a, b.symm⟩
  have BH := Lib.hid B
  have TH := Lib.hid T
  obtain ⟨ca, cc, ka, kc, pa, pc, hb, -, hr⟩ := hp.ex
  have c6 : ∀ d, (w.drewN d).cell? ⟨g, 6, none⟩ = some (.slice pa n.kids.length pc) := fun d => hb.cell 6
  have K := Lib.hid (fun (j : Nat) (hj : j < n.kids.length) => kid_at h hr hk hj)
  clear hb hr hk h hp B T
  unfold seqB Ruled isGuard
  generalize bareB n = b1 at *
  generalize timeB n = b2 at *
  generalize n.kids = ks at *
  have FB : ∀ (d : Nat), Below w.heap.size w (w.drewN d) := fun d => below_drewN (Below.refl _ w) d
  have FBH := Lib.hid FB
  clear FB
  cases b1
  · unfold ptr at *
    go_enter Tryz.func52, Tryz.ntmps52
    go_wp2_with fail
    go_quiet ((go_at_call 86; exact Calls.quiet_of_same (BH.out _)))
    go_wp2_with fail
    go_ret
    exact ⟨rfl, FBH.out _⟩
  cases b2
  · unfold ptr at *
    go_enter Tryz.func52, Tryz.ntmps52
    go_wp2_with fail
    go_quiet ((first | (go_at_call 86; exact Calls.quiet_of_same (BH.out _)) | (go_at_call 85; exact Calls.quiet_of_same (TH.out _))))
    go_wp2_with fail
    go_ret
    exact ⟨rfl, FBH.out _⟩
  by_cases h2 : 2 ≤ ks.length
  · obtain ⟨pg, po, q, m, rfl, ck, hm, -, -, hP⟩ := K.out 0 (by omega)
    obtain ⟨pg2, po2, q2, m2, e2, ck2, hm2, -, -, hP2⟩ := K.out (ks.length - 1) (by omega)
    injection e2 with e2
    injection e2 with e3 e4
    subst e3; subst e4
    rw [head_0 (by omega), last_0 (by omega), opAt_eq hm, opAt_eq hm2, decide_eq_true h2]
    have G1 := Lib.hid (fun d => (guard_any (hP.drewN d)).mono fun (e : Ending) (w' : World) (hh : _ ∧ _) => (⟨hh.1, hh.2.symm⟩ : _ ∧ w' = w.drewN d))
    have G2 := Lib.hid (fun d => (guard_any (hP2.drewN d)).mono fun (e : Ending) (w' : World) (hh : _ ∧ _) => (⟨hh.1, hh.2.symm⟩ : _ ∧ w' = w.drewN d))
    have ck' : ∀ d, (w.drewN d).cell? ⟨pg, po, none⟩ = some (ptr q) := fun d => by rw [Nat.add_zero] at ck; exact ck
    have ck2' : ∀ d, (w.drewN d).cell? ⟨pg, po + (ks.length - 1), none⟩ = some (ptr q2) := fun d => ck2
    clear K hP hP2 hm hm2 ck ck2
    generalize (m.op == 5) = b3 at *
    generalize (m2.op == 5) = b4 at *
    generalize ks.length = m at *
    have i0 : (m : Int) ≤ 200 := by omega
    have i1 : (2 : Int) ≤ (m : Int) := by omega
    have i2 : decide ((2 : Int) ≤ (m : Int)) = true := decide_eq_true i1
    have j1 : (0 : Int) ≤ (m : Int) - 1 := by omega
    have j2 : (1 : Int) ≤ (m : Int) := by omega
    have j3 : (m : Int) - 1 < (m : Int) := by omega
    have j4 : ((m : Int) - 1).toNat = m - 1 := by omega
    have j5 : (0 : Int) < (m : Int) := by omega
    have j6 : IntKind.i64.wrap ((m : Int) - 1) = (m : Int) - 1 := IntWalk.i64_in _ (by omega)
    unfold ptr at *
    cases b3
    · cases b4
      all_goals
        go_enter Tryz.func52, Tryz.ntmps52
        go_wp2_with fail
        go_quiet ((first | (go_at_call 86; exact Calls.quiet_of_same (BH.out _)) | (go_at_call 85; exact Calls.quiet_of_same (TH.out _)) | (go_at_call 58; exact Calls.quiet_of_same (G1.out _)) | (go_at_call 58; exact Calls.quiet_of_same (G2.out _))))
        go_wp2_with fail
        go_ret
        exact ⟨rfl, FBH.out _⟩
    · go_enter Tryz.func52, Tryz.ntmps52
      go_wp2_with fail
      go_quiet ((first | (go_at_call 86; exact Calls.quiet_of_same (BH.out _)) | (go_at_call 85; exact Calls.quiet_of_same (TH.out _)) | (go_at_call 58; exact Calls.quiet_of_same (G1.out _))))
      go_wp2_with fail
      go_ret
      exact ⟨rfl, FBH.out _⟩
  · rw [decide_eq_false h2]
    clear K
    generalize ks.length = m at *
    have i1 : ¬ (2 : Int) ≤ (m : Int) := by omega
    have i2 : decide ((2 : Int) ≤ (m : Int)) = false := decide_eq_false i1
    have i3 : decide (2 ≤ m) = false := decide_eq_false h2
    unfold ptr at *
    go_enter Tryz.func52, Tryz.ntmps52
    go_wp2_with fail
    go_quiet ((first | (go_at_call 86; exact Calls.quiet_of_same (BH.out _)) | (go_at_call 85; exact Calls.quiet_of_same (TH.out _))))
    go_wp2_with fail
    go_ret
    exact ⟨rfl, FBH.out _⟩
end Go.Proofs.YtkajadkmdcalmaaGreatDoor
