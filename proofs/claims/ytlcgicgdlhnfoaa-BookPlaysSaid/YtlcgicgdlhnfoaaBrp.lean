/-
  The book: the document's Put 10.
-/
import Derived.Test.YtlcgicgdlhnfoaaBrw
import Derived.Test.YtlcgicgdlhnfoaaBpu
namespace Go.Proofs.Ytlcgicgdlhnfoaa
open Go.RowKit
/-- the document's list: its row in the blocks from lo to hi, its numbers in blocks below A -/
structure Doc (w : World) (A lo hi : Nat) (a : Option Addr) (LL : List (List Int)) : Prop where
  r : ∀ i (h : i < LL.length), ∃ g o q c, a = some ⟨g, o, none⟩ ∧ lo ≤ g ∧ g < hi ∧ w.cell? ⟨g, o + i, none⟩ = some (.slice q LL[i].length c) ∧ Nums w q LL[i] ∧ ∀ p, q = some p → p.block < A
  h : hi ≤ w.heap.size
theorem Doc.rws {w : World} {A lo hi : Nat} {a : Option Addr} {LL : List (List Int)} (h : Doc w A lo hi a LL) : Rws w a LL := fun i hi2 => by
  obtain ⟨g, o, q, c, e, _, hg, ck, nn, _⟩ := h.r i hi2
  exact ⟨g, o, q, c, e, Nat.lt_of_lt_of_le hg h.h, ck, nn⟩
theorem Doc.fr {w w' : World} {A lo hi : Nat} {a : Option Addr} {LL : List (List Int)} {P : Nat → Prop} (h : Doc w A lo hi a LL) (f : Fr w w' P) (hA : ∀ q, q < A → ¬ P q) (hl : ∀ q, lo ≤ q → q < hi → ¬ P q) : Doc w' A lo hi a LL :=
  ⟨fun i hi2 => by
    obtain ⟨g, o, q, c, e, h1, h2, ck, nn, hp⟩ := h.r i hi2
    refine ⟨g, o, q, c, e, h1, h2, ?_, nn.fr f (fun p hp2 => hA _ (hp p hp2)), hp⟩
    rw [World.cell?_of_block (f.block g (Nat.lt_of_lt_of_le h2 h.h) (hl g h1 h2))]
    exact ck, Nat.le_trans h.h f.size⟩
theorem Doc.next {w w' : World} {A lo hi : Nat} {a : Option Addr} {LL : List (List Int)} (h : Doc w A lo hi a LL) (b : Below w.heap.size w w') : Doc w' A lo hi a LL := h.fr (Fr.of_below b (fun _ => False)) (fun _ _ h => h) (fun _ _ _ h => h)
theorem Doc.nil {w : World} (A : Nat) (a : Option Addr) : Doc w A w.heap.size w.heap.size a [] := ⟨fun i hi => by simp at hi, Nat.le_refl _⟩
theorem Cels.doc {w : World} {A B : Nat} {cs : List Value} {LL : List (List Int)} {a : Option Addr} {n c : Nat} (h : Cels w (fun q => q < A) cs LL) (ho : w.ownsRow B 29 1 (.slice a n c) cs.length cs) : Doc w A B w.heap.size a LL := by
  refine ⟨fun i hi2 => ?_, Nat.le_refl _⟩
  have hl := h.1
  obtain ⟨q, cq, e, nn, hd⟩ := h.2 i (by omega) hi2
  have h0 := ho
  rcases ho.2 with ⟨_, e3⟩ | ⟨g, cap, cur, e3, hb, hg, _⟩
  · omega
  · obtain ⟨rfl, rfl, rfl⟩ : a = some ⟨g, 0, none⟩ ∧ n = cs.length ∧ c = cap := by
      simp only [Value.slice.injEq] at e3; exact e3
    refine ⟨g, 0, q, cq, rfl, hb, by have := (Array.getElem?_eq_some_iff.1 hg).1; omega, ?_, nn, hd⟩
    rw [Nat.zero_add, h0.cellAt _ (by omega), List.getElem?_eq_getElem (by omega), e]
/-- what the document's Put leaves -/
def Rptd (w : World) (A lo hi : Nat) (base : Int) (LL : List (List Int)) (err : Int) (e : Ending) (w' : World) : Prop :=
  ∃ a' c' lo' hi', e = .returned (.tuple #[.agg #[.int .i64 base, .slice a' LL.length c'], .int .i64 err]) ∧ Doc w' A lo' hi' a' LL ∧ Below w.heap.size w w' ∧ (lo' = lo ∧ hi' = hi ∨ w.heap.size ≤ lo' ∧ hi' = w'.heap.size) ∧ LL.length ≤ c' ∧ (c' : Int) ≤ 9223372036854775807
theorem own_cap {w : World} {B size n c : Nat} {e : TypeId} {a : Option Addr} {xs : List Value} (h : w.ownsRow B e size (.slice a n c) n xs) : n ≤ c ∧ (c : Int) ≤ 9223372036854775807 := by
  rcases h.2 with ⟨e1, e2⟩ | ⟨g, cap, cur, e1, hb, hg, h1, h2, _⟩
  · simp only [Value.slice.injEq] at e1
    omega
  · simp only [Value.slice.injEq] at e1
    unfold maxLen at h2
    omega
/-- the two boxes -/
theorem boxes2 (w : World) (u v : Value) (x y : Value) : ∃ W, W = (w.alloc (.cells #[u, v] 27)).alloc (.cells #[x, y] 27) ∧ Blk W w.heap.size 27 #[u, v] ∧ Blk W (w.heap.size + 1) 27 #[x, y] ∧ Below w.heap.size w W ∧ W.heap.size = w.heap.size + 2 := by
  obtain ⟨W, hW⟩ : ∃ W, W = (w.alloc (.cells #[u, v] 27)).alloc (.cells #[x, y] 27) := ⟨_, rfl⟩
  have z1 : (w.alloc (.cells #[u, v] 27)).heap.size = w.heap.size + 1 := by simp
  have kY1 := Blk.new w 27 #[u, v]
  have kM1 := Blk.new (w.alloc (.cells #[u, v] 27)) 27 #[x, y]
  have bA := (Below.refl w.heap.size w).alloc (Nat.le_refl _) (.cells #[u, v] 27)
  have bB := (Below.refl (w.heap.size + 1) (w.alloc (.cells #[u, v] 27))).alloc (by simp) (.cells #[x, y] 27)
  rw [z1] at kM1
  rw [← hW] at kM1 bB
  exact ⟨W, hW, kY1.below bB (by omega), kM1, bA.trans (bB.mono (by omega)), by rw [hW]; simp⟩
set_option maxHeartbeats 8000000 in
set_option maxRecDepth 100000 in
theorem rput_bad {w : World} {A lo hi : Nat} {base : Int} {LL : List (List Int)} {a q : Option Addr} {xs : List Int} (c cq : Nat) (h : Doc w A lo hi a LL) (o0 : 0 ≤ base) (o1 : base + LL.length ≤ 549755813888) (o2 : LL.length ≤ 64) (hn : Nums w q xs) (hAw : A ≤ w.heap.size) (hl : xs.length ≤ 1000) (hc : LL.length ≤ c ∧ (c : Int) ≤ 9223372036854775807) (hm : mayB xs = false) :
    Calls Try.prog 10 #[.agg #[.int .i64 base, .slice a LL.length c], .slice q xs.length cq] w (Rptd w A lo hi base LL 1) := by
  obtain ⟨W, hW, kY, kR, bW, hWs⟩ := boxes2 w (.int .i64 base) (.slice a LL.length c) (.int .i64 0) (.slice none 0 0)
  have dW := h.next bW
  have nW := hn.next bW
  have MAY := Lib.hid (rmay_any cq nW (by omega))
  rw [hm] at MAY
  have HW := Lib.hid hW
  have BW := Lib.hid bW
  have DW := Lib.hid dW
  have NW := Lib.hid nW
  have KY := Lib.hid kY
  have KR := Lib.hid kR
  have hhi := h.h
  have _ := o0
  have _ := o1
  have _ := o2
  have HC := Lib.hid hc
  clear hc
  clear hW dW nW kY kR bW h hn hm
  have FIN : Hid (∀ w5, Doc w5 A lo hi a LL → Below w.heap.size w w5 → Rptd w A lo hi base LL 1 (.returned (.tuple #[.agg #[.int .i64 base, .slice a LL.length c], .int .i64 1])) w5) := Lib.hid fun w5 d b => ⟨a, c, lo, hi, rfl, d, b, .inl ⟨rfl, rfl⟩, HC.out⟩
  generalize Rptd w A lo hi base LL 1 = Q at *
  generalize xs.length = m at *
  generalize LL.length = n at *
  go_enter Try.func10, Try.ntmps10
  go_wp2_with (rw [← HW.out])
  refine MAY.out.mono ?_
  rintro e w1 ⟨rfl, b1⟩
  have KY1 := KY.out.next b1
  have KR1 := KR.out.next b1
  have D1 := Lib.hid (DW.out.next b1)
  have B1 := Lib.hid (BW.out.trans (b1.mono BW.out.size))
  have y0 : w1.cell? ⟨w.heap.size, 0, none⟩ = some (.int .i64 base) := KY1.cell 0
  have y1 : w1.cell? ⟨w.heap.size, 1, none⟩ = some (.slice a n c) := KY1.cell 1
  have r0 : w1.cell? ⟨w.heap.size + 1, 0, none⟩ = some (.int .i64 0) := KR1.cell 0
  have r1 : w1.cell? ⟨w.heap.size + 1, 1, none⟩ = some (.slice none 0 0) := KR1.cell 1
  have e0 : w1.frozen? ⟨w.heap.size + 1, 0, none⟩ = false := KR1.free 0
  have e1 : w1.frozen? ⟨w.heap.size + 1, 1, none⟩ = false := KR1.free 1
  have K5 := Lib.hid ((KR1.set 0 (.int .i64 base)).set 1 (.slice a n c))
  have F5 : Hid (Fr w1 ((w1.setCell ⟨w.heap.size + 1, 0, none⟩ (.int .i64 base)).setCell ⟨w.heap.size + 1, 1, none⟩ (.slice a n c)) (fun q => q = w.heap.size + 1)) := Lib.hid (((Fr.refl w1 (fun q => q = w.heap.size + 1)).set (w.heap.size + 1) 0 (.int .i64 base) (.inl rfl)).set (w.heap.size + 1) 1 (.slice a n c) (.inl rfl))
  clear b1 KY1 KR1 KY KR DW NW BW HW
  go_wp2_with fail
  have z0 : ((w1.setCell ⟨w.heap.size + 1, 0, none⟩ (.int .i64 base)).setCell ⟨w.heap.size + 1, 1, none⟩ (.slice a n c)).cell? ⟨w.heap.size + 1, 0, none⟩ = some (.int .i64 base) := K5.out.cell 0
  have z1 : ((w1.setCell ⟨w.heap.size + 1, 0, none⟩ (.int .i64 base)).setCell ⟨w.heap.size + 1, 1, none⟩ (.slice a n c)).cell? ⟨w.heap.size + 1, 1, none⟩ = some (.slice a n c) := K5.out.cell 1
  generalize (w1.setCell ⟨w.heap.size + 1, 0, none⟩ (.int .i64 base)).setCell ⟨w.heap.size + 1, 1, none⟩ (.slice a n c) = w5 at *
  refine bodyPost_ret (by simp [results, Try.results10, go_sem, z0, z1]; try rfl) rfl ?_
  exact FIN.out _ (D1.out.fr F5.out (fun q h => by omega) (fun q h1 h2 => by omega)) (B1.out.trans (F5.out.below (fun q e => by omega) B1.out.size))
set_option maxHeartbeats 8000000 in
set_option maxRecDepth 100000 in
theorem rput_long {w : World} {A lo hi : Nat} {base : Int} {LL : List (List Int)} {a q : Option Addr} {xs : List Int} (c cq : Nat) (h : Doc w A lo hi a LL) (o0 : 0 ≤ base) (o1 : base + LL.length ≤ 549755813888) (o2 : LL.length ≤ 64) (hn : Nums w q xs) (hq : ∀ p, q = some p → p.block < A) (hAw : A ≤ w.heap.size) (hl : xs.length ≤ 1000) (hc : LL.length ≤ c ∧ (c : Int) ≤ 9223372036854775807) (hm : mayB xs = true) (hL : 549755813888 ≤ base + LL.length) :
    Calls Try.prog 10 #[.agg #[.int .i64 base, .slice a LL.length c], .slice q xs.length cq] w (Rptd w A lo hi base LL 2) := by
  obtain ⟨W, hW, kY, kR, bW, hWs⟩ := boxes2 w (.int .i64 base) (.slice a LL.length c) (.int .i64 0) (.slice none 0 0)
  have dW := h.next bW
  have nW := hn.next bW
  have MAY := Lib.hid (rmay_any cq nW (by omega))
  rw [hm] at MAY
  have HW := Lib.hid hW
  have BW := Lib.hid bW
  have DW := Lib.hid dW
  have NW := Lib.hid nW
  have KY := Lib.hid kY
  have KR := Lib.hid kR
  have HQ := Lib.hid hq
  have hhi := h.h
  have _ := o0
  have _ := o1
  have _ := o2
  have HC := Lib.hid hc
  clear hc
  clear hW dW nW kY kR bW h hn hq hm
  have FIN : Hid (∀ w5, Doc w5 A lo hi a LL → Below w.heap.size w w5 → Rptd w A lo hi base LL 2 (.returned (.tuple #[.agg #[.int .i64 base, .slice a LL.length c], .int .i64 2])) w5) := Lib.hid fun w5 d b => ⟨a, c, lo, hi, rfl, d, b, .inl ⟨rfl, rfl⟩, HC.out⟩
  generalize Rptd w A lo hi base LL 2 = Q at *
  have hw0 : ¬ (9223372036854775807 < base + (LL.length : Int)) := by omega
  have hwl : IntKind.i64.wrap (base + (LL.length : Int)) = base + (LL.length : Int) := by rw [IntKind.wrap_i64]; omega
  generalize xs.length = m at *
  generalize LL.length = n at *
  go_enter Try.func10, Try.ntmps10
  go_wp2_with (rw [← HW.out])
  refine MAY.out.mono ?_
  rintro e w1 ⟨rfl, b1⟩
  have KY1 := KY.out.next b1
  have KR1 := KR.out.next b1
  have D1 := Lib.hid (DW.out.next b1)
  have B1 := Lib.hid (BW.out.trans (b1.mono BW.out.size))
  have y0 : w1.cell? ⟨w.heap.size, 0, none⟩ = some (.int .i64 base) := KY1.cell 0
  have y1 : w1.cell? ⟨w.heap.size, 1, none⟩ = some (.slice a n c) := KY1.cell 1
  have r0 : w1.cell? ⟨w.heap.size + 1, 0, none⟩ = some (.int .i64 0) := KR1.cell 0
  have r1 : w1.cell? ⟨w.heap.size + 1, 1, none⟩ = some (.slice none 0 0) := KR1.cell 1
  have e0 : w1.frozen? ⟨w.heap.size + 1, 0, none⟩ = false := KR1.free 0
  have e1 : w1.frozen? ⟨w.heap.size + 1, 1, none⟩ = false := KR1.free 1
  have K5 := Lib.hid ((KR1.set 0 (.int .i64 base)).set 1 (.slice a n c))
  have F5 : Hid (Fr w1 ((w1.setCell ⟨w.heap.size + 1, 0, none⟩ (.int .i64 base)).setCell ⟨w.heap.size + 1, 1, none⟩ (.slice a n c)) (fun q => q = w.heap.size + 1)) := Lib.hid (((Fr.refl w1 (fun q => q = w.heap.size + 1)).set (w.heap.size + 1) 0 (.int .i64 base) (.inl rfl)).set (w.heap.size + 1) 1 (.slice a n c) (.inl rfl))
  clear b1 KY1 KR1 KY KR DW NW BW HW
  go_wp2_with fail
  have z0 : ((w1.setCell ⟨w.heap.size + 1, 0, none⟩ (.int .i64 base)).setCell ⟨w.heap.size + 1, 1, none⟩ (.slice a n c)).cell? ⟨w.heap.size + 1, 0, none⟩ = some (.int .i64 base) := K5.out.cell 0
  have z1 : ((w1.setCell ⟨w.heap.size + 1, 0, none⟩ (.int .i64 base)).setCell ⟨w.heap.size + 1, 1, none⟩ (.slice a n c)).cell? ⟨w.heap.size + 1, 1, none⟩ = some (.slice a n c) := K5.out.cell 1
  generalize (w1.setCell ⟨w.heap.size + 1, 0, none⟩ (.int .i64 base)).setCell ⟨w.heap.size + 1, 1, none⟩ (.slice a n c) = w5 at *
  refine bodyPost_ret (by simp [results, Try.results10, go_sem, z0, z1]; try rfl) rfl ?_
  exact FIN.out _ (D1.out.fr F5.out (fun q h => by omega) (fun q h1 h2 => by omega)) (B1.out.trans (F5.out.below (fun q e => by omega) B1.out.size))
set_option maxHeartbeats 8000000 in
set_option maxRecDepth 100000 in
theorem rput_64 {w : World} {A lo hi : Nat} {base : Int} {LL : List (List Int)} {a q : Option Addr} {xs : List Int} (c cq : Nat) (h : Doc w A lo hi a LL) (o0 : 0 ≤ base) (o1 : base + LL.length ≤ 549755813888) (o2 : LL.length ≤ 64) (hn : Nums w q xs) (hq : ∀ p, q = some p → p.block < A) (hAw : A ≤ w.heap.size) (hl : xs.length ≤ 1000) (hc : LL.length ≤ c ∧ (c : Int) ≤ 9223372036854775807) (hm : mayB xs = true) (hL : ¬ 549755813888 ≤ base + LL.length) (h64 : 64 ≤ LL.length) :
    Calls Try.prog 10 #[.agg #[.int .i64 base, .slice a LL.length c], .slice q xs.length cq] w (Rptd w A lo hi (base + 1) (LL.drop 1 ++ [xs]) 0) := by
  obtain ⟨W, hW, kY, kR, bW, hWs⟩ := boxes2 w (.int .i64 base) (.slice a LL.length c) (.int .i64 0) (.slice none 0 0)
  have dW := h.next bW
  have nW := hn.next bW
  have MAY := Lib.hid (rmay_any cq nW (by omega))
  rw [hm] at MAY
  have HW := Lib.hid hW
  have BW := Lib.hid bW
  have DW := Lib.hid dW
  have NW := Lib.hid nW
  have KY := Lib.hid kY
  have KR := Lib.hid kR
  have HQ := Lib.hid hq
  have hhi := h.h
  have _ := o0
  have _ := o1
  have _ := o2
  have HC := Lib.hid hc
  clear hc
  clear hW dW nW kY kR bW h hn hq hm
  have FIN : Hid (∀ w5 a5 c5 B, Doc w5 A B w5.heap.size a5 (LL.drop 1 ++ [xs]) → w.heap.size ≤ B → Below w.heap.size w w5 → ((LL.drop 1 ++ [xs]).length ≤ c5 ∧ (c5 : Int) ≤ 9223372036854775807) → Rptd w A lo hi (base + 1) (LL.drop 1 ++ [xs]) 0 (.returned (.tuple #[.agg #[.int .i64 (base + 1), .slice a5 (LL.drop 1 ++ [xs]).length c5], .int .i64 0])) w5) := Lib.hid fun w5 a5 c5 B d hb b hc => ⟨a5, c5, B, w5.heap.size, rfl, d, b, .inr ⟨hb, rfl⟩, hc⟩
  have hw0 : ¬ (9223372036854775807 < base + (LL.length : Int)) := by omega
  have hwl : IntKind.i64.wrap (base + (LL.length : Int)) = base + (LL.length : Int) := by rw [IntKind.wrap_i64]; omega
  have hLB := decide_eq_false (show ¬ (549755813888 : Int) ≤ base + (LL.length : Int) by omega)
  have hlI : (LL.length : Int) ≤ 64 := by omega
  have EL : Hid (∀ j (hj : j < LL.length), ∃ g o q2 c2, a = some ⟨g, o, none⟩ ∧ (∀ wr, Below W.heap.size W wr → wr.cell? ⟨g, o + j, none⟩ = some (.slice q2 LL[j].length c2)) ∧ (∀ wr, Below W.heap.size W wr → Nums wr q2 LL[j]) ∧ ∀ p, q2 = some p → p.block < A) := Lib.hid fun j hj => by
    obtain ⟨g, o, q2, c2, e, h1, h2, ck, nn, hp⟩ := DW.out.r j hj
    exact ⟨g, o, q2, c2, e, fun wr b => (b.cell (p := ⟨g, _, none⟩) (Nat.lt_of_lt_of_le h2 DW.out.h)).trans ck, fun wr b => nn.next b, hp⟩
  have NQ : Hid (∀ wr, Below W.heap.size W wr → Nums wr q xs) := Lib.hid fun wr b => NW.out.next b
  have KYB : Hid (∀ wr, Below W.heap.size W wr → Blk wr w.heap.size 27 #[.int .i64 base, .slice a LL.length c] ∧ Blk wr (w.heap.size + 1) 27 #[.int .i64 0, .slice none 0 0]) := Lib.hid fun wr b => ⟨KY.out.next b, KR.out.next b⟩
  obtain ⟨i29, hi29, hz0, hz1, hz2⟩ := info_parts info29
  generalize Rptd w A lo hi (base + 1) (LL.drop 1 ++ [xs]) 0 = Q at *
  clear DW NW KY KR
  go_enter Try.func10, Try.ntmps10
  go_wp2_with (rw [← HW.out])
  refine MAY.out.mono ?_
  rintro e w1 ⟨rfl, b1⟩
  have y0 : w1.cell? ⟨w.heap.size, 0, none⟩ = some (.int .i64 base) := (KYB.out w1 b1).1.cell 0
  have y1 : w1.cell? ⟨w.heap.size, 1, none⟩ = some (.slice a LL.length c) := (KYB.out w1 b1).1.cell 1
  have B1 := Lib.hid b1
  have C0 := Lib.hid (Cels.nil w1 (fun q => q < A))
  clear b1 MAY HW
  go_wp2_with fail
  clear y0 y1
  go_loopw [6, 7, 8] (fun v bs i wr => ∃ (j : Nat) (b2 : Int) (cs : List Value), bs = .int .i64 b2 ∧ i = .int .i64 j ∧ j ≤ LL.length ∧ Hid (b2 = if j = 0 then base else (base + 1)) ∧ Hid (Cels wr (fun q => q < A) cs ((LL.take j).drop 1)) ∧ Hid (wr.ownsRow W.heap.size 29 1 v cs.length cs) ∧ Hid (Below W.heap.size W wr)) (fun _ _ i _ => LL.length - (intOf i).toNat)
  case atStart => exact ⟨0, base, [], rfl, rfl, Nat.zero_le _, Lib.hid rfl, Lib.hid (by simpa using C0.out), Lib.hid (World.ownsRow_nil _ _ _ _), B1⟩
  case round =>
    obtain ⟨j, b2, cs, rfl, rfl, hj, hb2, hC, hO, hB⟩ := hrel
    clear B1 C0
    have y1 : wr.cell? ⟨w.heap.size, 1, none⟩ = some (.slice a LL.length c) := (KYB.out wr hB.out).1.cell 1
    obtain ⟨va, vc, rfl⟩ := own_form hO.out
    by_cases hjn : j < LL.length
    rotate_left
    · obtain rfl : j = LL.length := by omega
      have jI : ¬ (LL.length : Int) < (LL.length : Int) := by omega
      have hC9 : Hid (Cels wr (fun q => q < A) cs (LL.drop 1)) := Lib.hid (by have := hC.out; rw [List.take_of_length_le (Nat.le_refl _)] at this; exact this)
      have hcl : cs.length = (LL.drop 1).length := hC9.out.1
      obtain rfl : base + 1 = b2 := by have := hb2.out; rw [if_neg (by omega)] at this; exact this.symm
      have hc64 : cs.length ≤ 64 := by have := hcl; (try rw [List.length_drop] at this); omega
      have HCL := Lib.hid hcl
      clear hcl
      have FN : Hid (∀ w3 v', w3.ownsRow W.heap.size 29 1 v' (cs.length + 1) (cs ++ [.slice q xs.length cq]) → (wr.alloc (.cells #[.slice q xs.length cq] 29)).grownBy w3 (Value.slice va cs.length vc).ownBlock → Cels w3 (fun q => q < A) (cs ++ [.slice q xs.length cq]) (LL.drop 1 ++ [xs]) ∧ Below W.heap.size W w3) := Lib.hid fun w3 v' ho hg => by
        obtain ⟨b3, f3, f4⟩ := app_below hB.out hO.out hg
        have c3 := (hC9.out.snoc (c := cq) (NQ.out wr hB.out) HQ.out).fr f3 (fun q hq h => by omega)
        exact ⟨c3, b3⟩
      clear hC hC9 EL NQ
      generalize hxm : xs.length = xm at *
      go_wp2_with (at_builtin; refine wpList_append_own _ rfl _ _ 25 rfl W.heap.size 29 i29 (.slice none 0 0) 1 24 Try.underlying25 hi29 hz0 hz1 hz2 rfl (by decide) (.slice va cs.length vc) cs.length cs rfl (hO.out.alloc _) ⟨wr.heap.size, 0, none⟩ 1 1 [.slice q xm cq] rfl rfl news29 (by simp [Value.oneCell']) (by unfold maxLen; omega) (by omega) (by have := hB.out.size; simp; omega) ?_; intro v' w3 hown hgrow _; obtain ⟨g', cap', rfl⟩ := ownsRow_succ hown; have F3 := Lib.hid (FN.out w3 _ hown hgrow); have O3 := Lib.hid hown; have r0 : w3.cell? ⟨w.heap.size + 1, 0, none⟩ = some (.int .i64 0) := (KYB.out w3 F3.out.2).2.cell 0; have r1 : w3.cell? ⟨w.heap.size + 1, 1, none⟩ = some (.slice none 0 0) := (KYB.out w3 F3.out.2).2.cell 1; have e0 := (KYB.out w3 F3.out.2).2.free 0; have e1 := (KYB.out w3 F3.out.2).2.free 1; clear hown hgrow)
      have K5 := Lib.hid (((KYB.out w3 F3.out.2).2.set 0 (.int .i64 (base + 1))).set 1 (.slice (some ⟨g', 0, none⟩) (cs.length + 1) cap'))
      have F5 : Hid (Fr w3 ((w3.setCell ⟨w.heap.size + 1, 0, none⟩ (.int .i64 (base + 1))).setCell ⟨w.heap.size + 1, 1, none⟩ (.slice (some ⟨g', 0, none⟩) (cs.length + 1) cap')) (fun q => q = w.heap.size + 1)) := Lib.hid (((Fr.refl w3 (fun q => q = w.heap.size + 1)).set (w.heap.size + 1) 0 (.int .i64 (base + 1)) (.inl rfl)).set (w.heap.size + 1) 1 (.slice (some ⟨g', 0, none⟩) (cs.length + 1) cap') (.inl rfl))
      have z0 : ((w3.setCell ⟨w.heap.size + 1, 0, none⟩ (.int .i64 (base + 1))).setCell ⟨w.heap.size + 1, 1, none⟩ (.slice (some ⟨g', 0, none⟩) (cs.length + 1) cap')).cell? ⟨w.heap.size + 1, 0, none⟩ = some (.int .i64 (base + 1)) := K5.out.cell 0
      have z1 : ((w3.setCell ⟨w.heap.size + 1, 0, none⟩ (.int .i64 (base + 1))).setCell ⟨w.heap.size + 1, 1, none⟩ (.slice (some ⟨g', 0, none⟩) (cs.length + 1) cap')).cell? ⟨w.heap.size + 1, 1, none⟩ = some (.slice (some ⟨g', 0, none⟩) (cs.length + 1) cap') := K5.out.cell 1
      have P5 : Hid (Q (.returned (.tuple #[.agg #[.int .i64 (base + 1), .slice (some ⟨g', 0, none⟩) (cs.length + 1) cap'], .int .i64 0])) ((w3.setCell ⟨w.heap.size + 1, 0, none⟩ (.int .i64 (base + 1))).setCell ⟨w.heap.size + 1, 1, none⟩ (.slice (some ⟨g', 0, none⟩) (cs.length + 1) cap'))) := Lib.hid (by
        have hl2 : (LL.drop 1 ++ [xs]).length = cs.length + 1 := by rw [List.length_append, ← HCL.out]; rfl
        have c5 := F3.out.1.fr F5.out (fun q hq e => by omega)
        have o5 := Fr.own O3.out F5.out (fun q hq e => by have := (own_ty O3.out q hq).1; omega)
        have d5 := Cels.doc c5 (by rw [List.length_append]; exact o5)
        have b5 : Below w.heap.size w ((w3.setCell ⟨w.heap.size + 1, 0, none⟩ (.int .i64 (base + 1))).setCell ⟨w.heap.size + 1, 1, none⟩ (.slice (some ⟨g', 0, none⟩) (cs.length + 1) cap')) := (BW.out.trans (F3.out.2.mono BW.out.size)).trans (F5.out.below (fun q e => by omega) (Nat.le_trans BW.out.size F3.out.2.size))
        have := FIN.out _ (some ⟨g', 0, none⟩) cap' _ d5 BW.out.size b5 (by rw [hl2]; exact own_cap O3.out)
        rw [hl2] at this
        exact this)
      generalize (w3.setCell ⟨w.heap.size + 1, 0, none⟩ (.int .i64 (base + 1))).setCell ⟨w.heap.size + 1, 1, none⟩ (.slice (some ⟨g', 0, none⟩) (cs.length + 1) cap') = w5 at *
      refine bodyPost_ret (by simp [results, Try.results10, go_sem, z0, z1]; try rfl) rfl ?_
      exact P5.out
    have jI : (j : Int) < (LL.length : Int) := by omega
    have jB := decide_eq_true jI
    have n64 : ((LL.length : Int) == 64) = true := by simp; omega
    by_cases hj0 : j = 0
    · have hb0 : b2 = base := by have := hb2.out; rw [if_pos hj0] at this; exact this
      subst hb0
      have hcs0 : cs = [] := by have := hC.out.1; rw [hj0] at this; simp at this; exact this
      subst hcs0
      subst hj0
      have C1 : Hid (Cels wr (fun q => q < A) [] ((LL.take (0 + 1)).drop 1)) := Lib.hid (by
        have : (LL.take (0 + 1)).drop 1 = [] := by rw [List.drop_eq_nil_iff, List.length_take]; omega
        rw [this]; exact Cels.nil _ _)
      have hw1 : IntKind.i64.wrap (b2 + 1) = b2 + 1 := by rw [IntKind.wrap_i64]; omega
      have BN2 : Hid (b2 + 1 = if 0 + 1 = 0 then b2 else b2 + 1) := Lib.hid (by rw [if_neg (by omega)])
      clear hC EL hb2
      go_wp2_with fail
      go_roundw
      case rel => exact ⟨0 + 1, b2 + 1, [], rfl, by go_num, by omega, BN2, C1, hO, hB⟩
      case measure => simp [intOf]; omega
    · have hj0B : ((j : Int) == 0) = false := by simp; omega
      have B2N : Hid (b2 = if j + 1 = 0 then base else base + 1) := Lib.hid (by have := hb2.out; rw [if_neg hj0] at this; rw [if_neg (by omega)]; exact this)
      clear hb2
      obtain ⟨g, o, q2, c2, rfl, CK, NN, PD⟩ := EL.out j hjn
      have ck := CK wr hB.out
      try rw [Nat.add_zero] at ck
      have FN : Hid (∀ w3 v', w3.ownsRow W.heap.size 29 1 v' (cs.length + 1) (cs ++ [.slice q2 LL[j].length c2]) → (wr.alloc (.cells #[.slice q2 LL[j].length c2] 29)).grownBy w3 (Value.slice va cs.length vc).ownBlock → Cels w3 (fun q => q < A) (cs ++ [.slice q2 LL[j].length c2]) ((LL.take (j + 1)).drop 1) ∧ Below W.heap.size W w3) := Lib.hid fun w3 v' ho hg => by
        obtain ⟨b3, f3, f4⟩ := app_below hB.out hO.out hg
        have c3 := (hC.out.snoc (c := c2) (NN wr hB.out) PD).fr f3 (fun q hq h => by omega)
        rw [show ((LL.take (j + 1)).drop 1) = ((LL.take j).drop 1) ++ [LL[j]] by rw [List.take_succ_eq_append_getElem hjn, List.drop_append_of_le_length (by rw [List.length_take]; omega)]]
        exact ⟨c3, b3⟩
      have hcs : cs.length ≤ 64 := by have := hC.out.1; (try rw [List.length_drop] at this); rw [List.length_take] at this; omega
      clear CK NN PD hC EL
      generalize LL[j].length = m at *
      go_wp2_with (at_builtin; refine wpList_append_own _ rfl _ _ 25 rfl W.heap.size 29 i29 (.slice none 0 0) 1 24 Try.underlying25 hi29 hz0 hz1 hz2 rfl (by decide) (.slice va cs.length vc) cs.length cs rfl (hO.out.alloc _) ⟨wr.heap.size, 0, none⟩ 1 1 [.slice q2 m c2] rfl rfl news29 (by simp [Value.oneCell']) (by unfold maxLen; omega) (by omega) (by have := hB.out.size; simp; omega) ?_; intro v' w3 hown hgrow _; obtain ⟨g', cap', rfl⟩ := ownsRow_succ hown; have F3 := Lib.hid (FN.out w3 _ hown hgrow); have O3 : Hid (w3.ownsRow W.heap.size 29 1 (.slice (some ⟨g', 0, none⟩) (cs.length + 1) cap') (cs ++ [Value.slice q2 m c2]).length (cs ++ [Value.slice q2 m c2])) := Lib.hid (by rw [List.length_append]; exact hown); clear hown hgrow)
      go_roundw
      case rel => exact ⟨j + 1, b2, _, rfl, by go_num, by omega, B2N, Lib.hid F3.out.1, O3, Lib.hid F3.out.2⟩
      case measure => simp [intOf]; omega
set_option maxHeartbeats 8000000 in
set_option maxRecDepth 100000 in
theorem rput_less {w : World} {A lo hi : Nat} {base : Int} {LL : List (List Int)} {a q : Option Addr} {xs : List Int} (c cq : Nat) (h : Doc w A lo hi a LL) (o0 : 0 ≤ base) (o1 : base + LL.length ≤ 549755813888) (o2 : LL.length ≤ 64) (hn : Nums w q xs) (hq : ∀ p, q = some p → p.block < A) (hAw : A ≤ w.heap.size) (hl : xs.length ≤ 1000) (hc : LL.length ≤ c ∧ (c : Int) ≤ 9223372036854775807) (hm : mayB xs = true) (hL : ¬ 549755813888 ≤ base + LL.length) (h64 : ¬ LL.length = 64) :
    Calls Try.prog 10 #[.agg #[.int .i64 base, .slice a LL.length c], .slice q xs.length cq] w (Rptd w A lo hi base (LL ++ [xs]) 0) := by
  obtain ⟨W, hW, kY, kR, bW, hWs⟩ := boxes2 w (.int .i64 base) (.slice a LL.length c) (.int .i64 0) (.slice none 0 0)
  have dW := h.next bW
  have nW := hn.next bW
  have MAY := Lib.hid (rmay_any cq nW (by omega))
  rw [hm] at MAY
  have HW := Lib.hid hW
  have BW := Lib.hid bW
  have DW := Lib.hid dW
  have NW := Lib.hid nW
  have KY := Lib.hid kY
  have KR := Lib.hid kR
  have HQ := Lib.hid hq
  have hhi := h.h
  have _ := o0
  have _ := o1
  have _ := o2
  have HC := Lib.hid hc
  clear hc
  clear hW dW nW kY kR bW h hn hq hm
  have FIN : Hid (∀ w5 a5 c5 B, Doc w5 A B w5.heap.size a5 (LL ++ [xs]) → w.heap.size ≤ B → Below w.heap.size w w5 → ((LL ++ [xs]).length ≤ c5 ∧ (c5 : Int) ≤ 9223372036854775807) → Rptd w A lo hi base (LL ++ [xs]) 0 (.returned (.tuple #[.agg #[.int .i64 base, .slice a5 (LL ++ [xs]).length c5], .int .i64 0])) w5) := Lib.hid fun w5 a5 c5 B d hb b hc => ⟨a5, c5, B, w5.heap.size, rfl, d, b, .inr ⟨hb, rfl⟩, hc⟩
  have hw0 : ¬ (9223372036854775807 < base + (LL.length : Int)) := by omega
  have hwl : IntKind.i64.wrap (base + (LL.length : Int)) = base + (LL.length : Int) := by rw [IntKind.wrap_i64]; omega
  have hLB := decide_eq_false (show ¬ (549755813888 : Int) ≤ base + (LL.length : Int) by omega)
  have hlI : (LL.length : Int) ≤ 64 := by omega
  have EL : Hid (∀ j (hj : j < LL.length), ∃ g o q2 c2, a = some ⟨g, o, none⟩ ∧ (∀ wr, Below W.heap.size W wr → wr.cell? ⟨g, o + j, none⟩ = some (.slice q2 LL[j].length c2)) ∧ (∀ wr, Below W.heap.size W wr → Nums wr q2 LL[j]) ∧ ∀ p, q2 = some p → p.block < A) := Lib.hid fun j hj => by
    obtain ⟨g, o, q2, c2, e, h1, h2, ck, nn, hp⟩ := DW.out.r j hj
    exact ⟨g, o, q2, c2, e, fun wr b => (b.cell (p := ⟨g, _, none⟩) (Nat.lt_of_lt_of_le h2 DW.out.h)).trans ck, fun wr b => nn.next b, hp⟩
  have NQ : Hid (∀ wr, Below W.heap.size W wr → Nums wr q xs) := Lib.hid fun wr b => NW.out.next b
  have KYB : Hid (∀ wr, Below W.heap.size W wr → Blk wr w.heap.size 27 #[.int .i64 base, .slice a LL.length c] ∧ Blk wr (w.heap.size + 1) 27 #[.int .i64 0, .slice none 0 0]) := Lib.hid fun wr b => ⟨KY.out.next b, KR.out.next b⟩
  obtain ⟨i29, hi29, hz0, hz1, hz2⟩ := info_parts info29
  generalize Rptd w A lo hi base (LL ++ [xs]) 0 = Q at *
  clear DW NW KY KR
  go_enter Try.func10, Try.ntmps10
  go_wp2_with (rw [← HW.out])
  refine MAY.out.mono ?_
  rintro e w1 ⟨rfl, b1⟩
  have y0 : w1.cell? ⟨w.heap.size, 0, none⟩ = some (.int .i64 base) := (KYB.out w1 b1).1.cell 0
  have y1 : w1.cell? ⟨w.heap.size, 1, none⟩ = some (.slice a LL.length c) := (KYB.out w1 b1).1.cell 1
  have B1 := Lib.hid b1
  have C0 := Lib.hid (Cels.nil w1 (fun q => q < A))
  clear b1 MAY HW
  go_wp2_with fail
  clear y0 y1
  go_loopw [6, 7, 8] (fun v bs i wr => ∃ (j : Nat) (b2 : Int) (cs : List Value), bs = .int .i64 b2 ∧ i = .int .i64 j ∧ j ≤ LL.length ∧ Hid (b2 = if j = 0 then base else base) ∧ Hid (Cels wr (fun q => q < A) cs (LL.take j)) ∧ Hid (wr.ownsRow W.heap.size 29 1 v cs.length cs) ∧ Hid (Below W.heap.size W wr)) (fun _ _ i _ => LL.length - (intOf i).toNat)
  case atStart => exact ⟨0, base, [], rfl, rfl, Nat.zero_le _, Lib.hid rfl, Lib.hid (by simpa using C0.out), Lib.hid (World.ownsRow_nil _ _ _ _), B1⟩
  case round =>
    obtain ⟨j, b2, cs, rfl, rfl, hj, hb2, hC, hO, hB⟩ := hrel
    clear B1 C0
    have y1 : wr.cell? ⟨w.heap.size, 1, none⟩ = some (.slice a LL.length c) := (KYB.out wr hB.out).1.cell 1
    obtain ⟨va, vc, rfl⟩ := own_form hO.out
    by_cases hjn : j < LL.length
    rotate_left
    · obtain rfl : j = LL.length := by omega
      have jI : ¬ (LL.length : Int) < (LL.length : Int) := by omega
      have hC9 : Hid (Cels wr (fun q => q < A) cs LL) := Lib.hid (by have := hC.out; rw [List.take_of_length_le (Nat.le_refl _)] at this; exact this)
      have hcl : cs.length = LL.length := hC9.out.1
      obtain rfl : base = b2 := by have := hb2.out; rw [ite_self] at this; exact this.symm
      have hc64 : cs.length ≤ 64 := by have := hcl; (try rw [List.length_drop] at this); omega
      have HCL := Lib.hid hcl
      clear hcl
      have FN : Hid (∀ w3 v', w3.ownsRow W.heap.size 29 1 v' (cs.length + 1) (cs ++ [.slice q xs.length cq]) → (wr.alloc (.cells #[.slice q xs.length cq] 29)).grownBy w3 (Value.slice va cs.length vc).ownBlock → Cels w3 (fun q => q < A) (cs ++ [.slice q xs.length cq]) (LL ++ [xs]) ∧ Below W.heap.size W w3) := Lib.hid fun w3 v' ho hg => by
        obtain ⟨b3, f3, f4⟩ := app_below hB.out hO.out hg
        have c3 := (hC9.out.snoc (c := cq) (NQ.out wr hB.out) HQ.out).fr f3 (fun q hq h => by omega)
        exact ⟨c3, b3⟩
      clear hC hC9 EL NQ
      generalize hxm : xs.length = xm at *
      go_wp2_with (at_builtin; refine wpList_append_own _ rfl _ _ 25 rfl W.heap.size 29 i29 (.slice none 0 0) 1 24 Try.underlying25 hi29 hz0 hz1 hz2 rfl (by decide) (.slice va cs.length vc) cs.length cs rfl (hO.out.alloc _) ⟨wr.heap.size, 0, none⟩ 1 1 [.slice q xm cq] rfl rfl news29 (by simp [Value.oneCell']) (by unfold maxLen; omega) (by omega) (by have := hB.out.size; simp; omega) ?_; intro v' w3 hown hgrow _; obtain ⟨g', cap', rfl⟩ := ownsRow_succ hown; have F3 := Lib.hid (FN.out w3 _ hown hgrow); have O3 := Lib.hid hown; have r0 : w3.cell? ⟨w.heap.size + 1, 0, none⟩ = some (.int .i64 0) := (KYB.out w3 F3.out.2).2.cell 0; have r1 : w3.cell? ⟨w.heap.size + 1, 1, none⟩ = some (.slice none 0 0) := (KYB.out w3 F3.out.2).2.cell 1; have e0 := (KYB.out w3 F3.out.2).2.free 0; have e1 := (KYB.out w3 F3.out.2).2.free 1; clear hown hgrow)
      have K5 := Lib.hid (((KYB.out w3 F3.out.2).2.set 0 (.int .i64 base)).set 1 (.slice (some ⟨g', 0, none⟩) (cs.length + 1) cap'))
      have F5 : Hid (Fr w3 ((w3.setCell ⟨w.heap.size + 1, 0, none⟩ (.int .i64 base)).setCell ⟨w.heap.size + 1, 1, none⟩ (.slice (some ⟨g', 0, none⟩) (cs.length + 1) cap')) (fun q => q = w.heap.size + 1)) := Lib.hid (((Fr.refl w3 (fun q => q = w.heap.size + 1)).set (w.heap.size + 1) 0 (.int .i64 base) (.inl rfl)).set (w.heap.size + 1) 1 (.slice (some ⟨g', 0, none⟩) (cs.length + 1) cap') (.inl rfl))
      have z0 : ((w3.setCell ⟨w.heap.size + 1, 0, none⟩ (.int .i64 base)).setCell ⟨w.heap.size + 1, 1, none⟩ (.slice (some ⟨g', 0, none⟩) (cs.length + 1) cap')).cell? ⟨w.heap.size + 1, 0, none⟩ = some (.int .i64 base) := K5.out.cell 0
      have z1 : ((w3.setCell ⟨w.heap.size + 1, 0, none⟩ (.int .i64 base)).setCell ⟨w.heap.size + 1, 1, none⟩ (.slice (some ⟨g', 0, none⟩) (cs.length + 1) cap')).cell? ⟨w.heap.size + 1, 1, none⟩ = some (.slice (some ⟨g', 0, none⟩) (cs.length + 1) cap') := K5.out.cell 1
      have P5 : Hid (Q (.returned (.tuple #[.agg #[.int .i64 base, .slice (some ⟨g', 0, none⟩) (cs.length + 1) cap'], .int .i64 0])) ((w3.setCell ⟨w.heap.size + 1, 0, none⟩ (.int .i64 base)).setCell ⟨w.heap.size + 1, 1, none⟩ (.slice (some ⟨g', 0, none⟩) (cs.length + 1) cap'))) := Lib.hid (by
        have hl2 : (LL ++ [xs]).length = cs.length + 1 := by rw [List.length_append, ← HCL.out]; rfl
        have c5 := F3.out.1.fr F5.out (fun q hq e => by omega)
        have o5 := Fr.own O3.out F5.out (fun q hq e => by have := (own_ty O3.out q hq).1; omega)
        have d5 := Cels.doc c5 (by rw [List.length_append]; exact o5)
        have b5 : Below w.heap.size w ((w3.setCell ⟨w.heap.size + 1, 0, none⟩ (.int .i64 base)).setCell ⟨w.heap.size + 1, 1, none⟩ (.slice (some ⟨g', 0, none⟩) (cs.length + 1) cap')) := (BW.out.trans (F3.out.2.mono BW.out.size)).trans (F5.out.below (fun q e => by omega) (Nat.le_trans BW.out.size F3.out.2.size))
        have := FIN.out _ (some ⟨g', 0, none⟩) cap' _ d5 BW.out.size b5 (by rw [hl2]; exact own_cap O3.out)
        rw [hl2] at this
        exact this)
      generalize (w3.setCell ⟨w.heap.size + 1, 0, none⟩ (.int .i64 base)).setCell ⟨w.heap.size + 1, 1, none⟩ (.slice (some ⟨g', 0, none⟩) (cs.length + 1) cap') = w5 at *
      refine bodyPost_ret (by simp [results, Try.results10, go_sem, z0, z1]; try rfl) rfl ?_
      exact P5.out
    have jI : (j : Int) < (LL.length : Int) := by omega
    have jB := decide_eq_true jI
    have n64B : ((LL.length : Int) == 64) = false := by simp; omega
    have B2N : Hid (b2 = if j + 1 = 0 then base else base) := Lib.hid (by have := hb2.out; rw [ite_self] at this; rw [ite_self]; exact this)
    clear hb2
    by_cases hj0 : j = 0
    · subst hj0
      obtain ⟨g, o, q2, c2, rfl, CK, NN, PD⟩ := EL.out 0 hjn
      have ck := CK wr hB.out
      try rw [Nat.add_zero] at ck
      have FN : Hid (∀ w3 v', w3.ownsRow W.heap.size 29 1 v' (cs.length + 1) (cs ++ [.slice q2 LL[0].length c2]) → (wr.alloc (.cells #[.slice q2 LL[0].length c2] 29)).grownBy w3 (Value.slice va cs.length vc).ownBlock → Cels w3 (fun q => q < A) (cs ++ [.slice q2 LL[0].length c2]) (LL.take (0 + 1)) ∧ Below W.heap.size W w3) := Lib.hid fun w3 v' ho hg => by
        obtain ⟨b3, f3, f4⟩ := app_below hB.out hO.out hg
        have c3 := (hC.out.snoc (c := c2) (NN wr hB.out) PD).fr f3 (fun q hq h => by omega)
        rw [show (LL.take (0 + 1)) = (LL.take 0) ++ [LL[0]] by rw [List.take_succ_eq_append_getElem hjn]]
        exact ⟨c3, b3⟩
      have hcs : cs.length ≤ 64 := by have := hC.out.1; (try rw [List.length_drop] at this); rw [List.length_take] at this; omega
      clear CK NN PD hC EL
      generalize LL[0].length = m at *
      go_wp2_with (at_builtin; refine wpList_append_own _ rfl _ _ 25 rfl W.heap.size 29 i29 (.slice none 0 0) 1 24 Try.underlying25 hi29 hz0 hz1 hz2 rfl (by decide) (.slice va cs.length vc) cs.length cs rfl (hO.out.alloc _) ⟨wr.heap.size, 0, none⟩ 1 1 [.slice q2 m c2] rfl rfl news29 (by simp [Value.oneCell']) (by unfold maxLen; omega) (by omega) (by have := hB.out.size; simp; omega) ?_; intro v' w3 hown hgrow _; obtain ⟨g', cap', rfl⟩ := ownsRow_succ hown; have F3 := Lib.hid (FN.out w3 _ hown hgrow); have O3 : Hid (w3.ownsRow W.heap.size 29 1 (.slice (some ⟨g', 0, none⟩) (cs.length + 1) cap') (cs ++ [Value.slice q2 m c2]).length (cs ++ [Value.slice q2 m c2])) := Lib.hid (by rw [List.length_append]; exact hown); clear hown hgrow)
      go_roundw
      case rel => exact ⟨0 + 1, b2, _, rfl, by go_num, by omega, B2N, Lib.hid F3.out.1, O3, Lib.hid F3.out.2⟩
      case measure => simp [intOf]; omega
    · have hj0B : ((j : Int) == 0) = false := by simp; omega
      obtain ⟨g, o, q2, c2, rfl, CK, NN, PD⟩ := EL.out j hjn
      have ck := CK wr hB.out
      try rw [Nat.add_zero] at ck
      have FN : Hid (∀ w3 v', w3.ownsRow W.heap.size 29 1 v' (cs.length + 1) (cs ++ [.slice q2 LL[j].length c2]) → (wr.alloc (.cells #[.slice q2 LL[j].length c2] 29)).grownBy w3 (Value.slice va cs.length vc).ownBlock → Cels w3 (fun q => q < A) (cs ++ [.slice q2 LL[j].length c2]) (LL.take (j + 1)) ∧ Below W.heap.size W w3) := Lib.hid fun w3 v' ho hg => by
        obtain ⟨b3, f3, f4⟩ := app_below hB.out hO.out hg
        have c3 := (hC.out.snoc (c := c2) (NN wr hB.out) PD).fr f3 (fun q hq h => by omega)
        rw [show (LL.take (j + 1)) = (LL.take j) ++ [LL[j]] by rw [List.take_succ_eq_append_getElem hjn]]
        exact ⟨c3, b3⟩
      have hcs : cs.length ≤ 64 := by have := hC.out.1; (try rw [List.length_drop] at this); rw [List.length_take] at this; omega
      clear CK NN PD hC EL
      generalize LL[j].length = m at *
      go_wp2_with (at_builtin; refine wpList_append_own _ rfl _ _ 25 rfl W.heap.size 29 i29 (.slice none 0 0) 1 24 Try.underlying25 hi29 hz0 hz1 hz2 rfl (by decide) (.slice va cs.length vc) cs.length cs rfl (hO.out.alloc _) ⟨wr.heap.size, 0, none⟩ 1 1 [.slice q2 m c2] rfl rfl news29 (by simp [Value.oneCell']) (by unfold maxLen; omega) (by omega) (by have := hB.out.size; simp; omega) ?_; intro v' w3 hown hgrow _; obtain ⟨g', cap', rfl⟩ := ownsRow_succ hown; have F3 := Lib.hid (FN.out w3 _ hown hgrow); have O3 : Hid (w3.ownsRow W.heap.size 29 1 (.slice (some ⟨g', 0, none⟩) (cs.length + 1) cap') (cs ++ [Value.slice q2 m c2]).length (cs ++ [Value.slice q2 m c2])) := Lib.hid (by rw [List.length_append]; exact hown); clear hown hgrow)
      go_roundw
      case rel => exact ⟨j + 1, b2, _, rfl, by go_num, by omega, B2N, Lib.hid F3.out.1, O3, Lib.hid F3.out.2⟩
      case measure => simp [intOf]; omega
end Go.Proofs.Ytlcgicgdlhnfoaa
