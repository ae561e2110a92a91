/-
  THE LAW AgendaPlays AS A WALK.
-/
import Derived.Test.YtiklaaganiafjabDoes4
import Derived.Test.YtiklaaganiafjabAwake
namespace Go.Proofs.Ytiklaaganiafjab
open Go.RowKit
theorem its_ne {w : World} {a : Option Addr} {R : List It} {Y : Nat} {t : TypeId} {u v : Value} (h : Its w a R) (k : Blk2 w Y t u v) (hR : R ≠ []) {g o : Nat} (e : a = some ⟨g, o, none⟩) : g ≠ Y := by
  rintro rfl
  have hl : 0 < R.length := List.length_pos_iff.2 hR
  obtain ⟨g', o', e', _, _, _, c3⟩ := h 0 hl
  rw [e] at e'
  simp only [Option.some.injEq, Addr.mk.injEq, and_true] at e'
  obtain ⟨rfl, rfl⟩ := e'
  unfold Blk2 at k
  unfold World.cell? at c3
  simp only [k] at c3
  simp at c3
theorem its_set2 {w : World} {a : Option Addr} {R : List It} {Y : Nat} {t : TypeId} {u v : Value} (h : Its w a R) (k : Blk2 w Y t u v) (u' v' : Value) : Its ((w.setCell ⟨Y, 0, none⟩ u').setCell ⟨Y, 1, none⟩ v') a R := fun p hp => by
  obtain ⟨g, o, e, hl, c1, c2, c3⟩ := h p hp
  have hne := its_ne h k (fun e => by rw [e] at hp; simp at hp) e
  have G := set2_grown w Y u' v'
  have hb := G.block g hl (fun e => hne (Option.some.inj e))
  exact ⟨g, o, e, Nat.lt_of_lt_of_le hl G.size, by rw [World.cell?_of_block hb]; exact c1, by rw [World.cell?_of_block hb]; exact c2, by rw [World.cell?_of_block hb]; exact c3⟩
theorem DA.set2 {w : World} {B A : Nat} {Z : Int} {r : Option Nat} {R : List It} {a : Option Addr} {c Y : Nat} {t : TypeId} {u v : Value} (h : DA w B A Z r R a c) (k : Blk2 w Y t u v) (hA : Y ≠ A) (hr : some Y ≠ r) (u' v' : Value) : DA ((w.setCell ⟨Y, 0, none⟩ u').setCell ⟨Y, 1, none⟩ v') B A Z r R a c :=
  ⟨h.g.grown (set2_grown w Y u' v') (fun e => hA (Option.some.inj e).symm) (.inr hr), its_set2 h.i k u' v', fun hne => (h.s hne).below (set2_grown w Y u' v').size, h.l, h.c⟩
/-- what the round's first region reads -/
abbrev S9 (Y4 ba oa : Nat) (u v : Value) (x : It) (w' : World) : Prop :=
  w'.cell? ⟨Y4, 0, none⟩ = some u ∧ w'.cell? ⟨Y4, 1, none⟩ = some v ∧ w'.cell? ⟨ba, oa, none⟩ = some (.int .i64 x.t) ∧ w'.cell? ⟨ba, oa + 1, none⟩ = some (.int .i64 x.i) ∧ w'.cell? ⟨ba, oa + 2, none⟩ = some (.int .i64 x.x)
theorem S9.drew {w' : World} {Y4 ba oa : Nat} {u v : Value} {x : It} (h : S9 Y4 ba oa u v x w') : S9 Y4 ba oa u v x w'.drew := h
theorem S9.below {w w' : World} {Y4 ba oa : Nat} {u v : Value} {x : It} (h : S9 Y4 ba oa u v x w) (hb : Below w.heap.size w w') : S9 Y4 ba oa u v x w' := by
  obtain ⟨c1, c2, c3, c4, c5⟩ := h
  have e : ∀ {b o : Nat} {v : Value}, w.cell? ⟨b, o, none⟩ = some v → w'.cell? ⟨b, o, none⟩ = some v := fun hc => by rw [hb.cell (p := ⟨_, _, none⟩) (World.block_lt_of_cell? _ _ hc)]; exact hc
  exact ⟨e c1, e c2, e c3, e c4, e c5⟩
theorem S9.alloc {w : World} {Y4 ba oa : Nat} {u v : Value} {x : It} (h : S9 Y4 ba oa u v x w) (o : Obj) : S9 Y4 ba oa u v x (w.alloc o) := h.below ((Below.refl _ _).alloc (Nat.le_refl _) _)
theorem S9.tch {w w' : World} {A Y4 ba oa : Nat} {r r' : Option Nat} {u v : Value} {x : It} (h : S9 Y4 ba oa u v x w) (t : Tch w w' A r r') (h4 : Y4 ≠ A ∧ some Y4 ≠ r) (hb : ba ≠ A ∧ some ba ≠ r) : S9 Y4 ba oa u v x w' := by
  obtain ⟨c1, c2, c3, c4, c5⟩ := h
  exact ⟨cell_tch t c1 h4.1 h4.2, cell_tch t c2 h4.1 h4.2, cell_tch t c3 hb.1 hb.2, cell_tch t c4 hb.1 hb.2, cell_tch t c5 hb.1 hb.2⟩
theorem S9.set {w : World} {Y4 Y6 ba oa : Nat} {u v : Value} {x : It} (h : S9 Y4 ba oa u v x w) (h4 : Y4 ≠ Y6) (hb : ba ≠ Y6) (u' v' : Value) : S9 Y4 ba oa u v x ((w.setCell ⟨Y6, 0, none⟩ u').setCell ⟨Y6, 1, none⟩ v') := by
  obtain ⟨c1, c2, c3, c4, c5⟩ := h
  exact ⟨set2_cell c1 h4, set2_cell c2 h4, set2_cell c3 hb, set2_cell c4 hb, set2_cell c5 hb⟩
theorem below_tch2 {w w1 w2 : World} {A : Nat} {Z : Int} {r r' : Option Nat} {R : List It} (hb : Below w.heap.size w w1) (t : Tch w1 w2 w.heap.size r r') (h : Agd w1 w.heap.size A Z r R) : Below w.heap.size w w2 :=
  ⟨t.os.trans hb.os, t.tape.trans hb.tape, t.output.trans hb.output, Nat.le_trans hb.size t.size, fun q hq => (t.block q (Nat.lt_of_lt_of_le hq hb.size) (by omega) (fun e => by have := (h.lt.2.1 q e.symm).1; omega)).trans (hb.block q hq)⟩
/-- behind an act, its answer in a block -/
structure PR (wr w5 : World) (B A Y4 Y6 : Nat) (Z : Int) (r r4 : Option Nat) (R : List It) (a : Option Addr) (c : Nat) (u v : Value) : Prop where
  y6 : Blk2 w5 Y6 27 (.slice a R.length c) (.int .i64 Z)
  d : DA w5 B A Z r4 R a c
  t : Tch wr w5 A r r4
  y4 : Blk2 w5 Y4 27 u v
  ne : Y6 ≠ Y4
  nr : some Y4 ≠ r4
theorem pr_alloc {wr w4 : World} {B A Y4 : Nat} {Z : Int} {r r4 : Option Nat} {R : List It} {a : Option Addr} {c : Nat} {u v : Value} (t4 : Tch wr.drew w4 A r r4) (d4 : DA w4 B A Z r4 R a c) (hy : Blk2 wr Y4 27 u v) (hY : Y4 ≠ A ∧ some Y4 ≠ r) :
    PR wr (w4.alloc (Obj.cells #[.slice a R.length c, .int .i64 Z] 27)) B A Y4 w4.heap.size Z r r4 R a c u v := by
  have b4 := (Below.refl w4.heap.size w4).alloc (Nat.le_refl _) (Obj.cells #[.slice a R.length c, .int .i64 Z] 27)
  have y4 : Blk2 w4 Y4 27 u v := Blk2.tch (w := wr.drew) hy t4 hY.1 hY.2
  have hl := y4.lt
  refine ⟨heap_alloc_new _ _, d4.below b4, ((Tch.of_below ((Below.refl wr.heap.size wr).drew)).trans t4).trans (Tch.of_below b4), y4.below b4 hl, by omega, ?_⟩
  rcases t4.own with e | ⟨q, e, hq⟩
  · rw [e]; exact hY.2
  · rw [e]; intro e'; have := hy.lt; simp at e' hq; omega
theorem pr_set {wr w4 : World} {B A Y4 : Nat} {Z : Int} {r r4 : Option Nat} {R : List It} {a : Option Addr} {c : Nat} {u v : Value} (t4 : Tch (wr.drew.alloc (.cells #[.slice none 0 0, .int .i64 0] 27)) w4 A r r4) (d4 : DA w4 B A Z r4 R a c) (hy : Blk2 wr Y4 27 u v) (hY : Y4 ≠ A ∧ some Y4 ≠ r) (hW : wr.heap.size ≠ A ∧ some wr.heap.size ≠ r) :
    PR wr ((w4.setCell ⟨wr.heap.size, 0, none⟩ (.slice a R.length c)).setCell ⟨wr.heap.size, 1, none⟩ (.int .i64 Z)) B A Y4 wr.heap.size Z r r4 R a c u v := by
  have f4 : Blk2 w4 wr.heap.size 27 (.slice none 0 0) (.int .i64 0) := Blk2.tch (w := wr.drew.alloc (.cells #[.slice none 0 0, .int .i64 0] 27)) (heap_alloc_new wr.drew (.cells #[.slice none 0 0, .int .i64 0] 27)) t4 hW.1 hW.2
  have b0 : Below wr.heap.size wr (wr.drew.alloc (.cells #[.slice none 0 0, .int .i64 0] 27)) := ((Below.refl wr.heap.size wr).drew).alloc (Nat.le_refl _) _
  have y4 : Blk2 w4 Y4 27 u v := Blk2.tch (hy.below b0 hy.lt) t4 hY.1 hY.2
  have hl := hy.lt
  have hW4 : some wr.heap.size ≠ r4 := by
    rcases t4.own with e | ⟨q, e, hq⟩
    · rw [e]; exact hW.2
    · rw [e]; intro e'; simp at e' hq; omega
  have G := set2_grown w4 wr.heap.size (.slice a R.length c) (.int .i64 Z)
  refine ⟨f4.set _ _, d4.set2 f4 hW.1 hW4 _ _, ((Tch.of_below b0).trans t4).grow G (fun k hk => by simp at hk; omega), ?_, by omega, ?_⟩
  · unfold Blk2 at *
    rw [G.block Y4 (Array.getElem?_eq_some_iff.1 y4).1 (by simp; omega)]
    exact y4
  · rcases t4.own with e | ⟨q, e, hq⟩
    · rw [e]; exact hY.2
    · rw [e]; intro e'; simp at e' hq; omega
theorem cell_below {w w' : World} {b o : Nat} {v : Value} (hc : w.cell? ⟨b, o, none⟩ = some v) (hb : Below w.heap.size w w') : w'.cell? ⟨b, o, none⟩ = some v := by
  rw [hb.cell (p := ⟨_, _, none⟩) (World.block_lt_of_cell? _ _ hc)]; exact hc
set_option maxHeartbeats 8000000 in
set_option maxRecDepth 100000 in
theorem plays_any (a : Option Addr) (c : Nat) (L : List It) (w : World) (_hl : L.length ≤ 9223372036854775807) (hx : Its w a L) :
    Calls Try.prog 3 #[.slice a L.length c] w fun e w' => e = .returned (.bool true) ∧ Below w.heap.size w w' := by
  have HX := Lib.hid hx
  clear hx
  generalize hn : L.length = n at *
  have HN := Lib.hid hn
  clear hn
  go_enter Try.func3, Try.ntmps3
  go_wp2_with fail
  refine (new_any w w.heap.size).mono ?_
  rintro e w1 ⟨rfl, b1, s1, g1⟩
  have HB1 := Lib.hid b1
  have G1 := Lib.hid g1
  have hs1 : w.heap.size < w1.heap.size := by omega
  clear b1 g1 s1
  go_wp2_with fail
  refine (awake_any _).mono ?_
  rintro e w2 ⟨rfl, b2⟩
  have K2 := Lib.hid (Blk2.below (w := w1.alloc (Obj.cells #[.slice none 0 0, .int .i64 0] 27)) (heap_alloc_new w1 (Obj.cells #[.slice none 0 0, .int .i64 0] 27) : Blk2 _ w1.heap.size 27 (.slice none 0 0) (.int .i64 0)) b2 (by simp))
  have HB2 := Lib.hid (HB1.out.trans ((((Below.refl w1.heap.size w1).alloc (Nat.le_refl _) _).trans (b2.mono (by simp))).mono HB1.out.size))
  have G2 := Lib.hid (G1.out.below (((Below.refl w1.heap.size w1).alloc (Nat.le_refl _) _).trans (b2.mono (by simp))))
  have hAY : w.heap.size < w1.heap.size := hs1
  generalize w1.heap.size = Y4 at *
  clear b2 G1 HB1 hs1
  go_wp2_with fail
  go_loopw [5] (fun i wq => ∃ (k : Nat) (r : Option Nat) (R : List It) (a' : Option Addr) (c' : Nat) (Z : Int), i = .int .i64 k ∧ k ≤ n ∧ k ≤ 200 ∧ DA wq w.heap.size w.heap.size Z r R a' c' ∧ R.length ≤ k ∧ 0 ≤ Z ∧ Z ≤ k ∧ Blk2 wq Y4 27 (.slice a' R.length c') (.int .i64 Z) ∧ some Y4 ≠ r ∧ Below w.heap.size w wq) (fun i _ => n - (intOf i).toNat)
  case atStart => exact ⟨0, none, [], none, 0, 0, rfl, Nat.zero_le _, Nat.zero_le _, ⟨G2.out, its_nil _ _, fun h => absurd rfl h, Nat.le_refl _, Nat.zero_le _⟩, Nat.le_refl _, by omega, by omega, K2.out, by simp, HB2.out⟩
  case round =>
    obtain ⟨k, r, R, a', c', Z, rfl, hk, hk2, hD, hRk, hZ, hZk, hY, hYr, hB⟩ := hrel
    have HB := Lib.hid hB
    have HD := Lib.hid hD
    have HY := Lib.hid hY
    have HYr := Lib.hid hYr
    clear hD hY hYr hB G2 K2 HB2
    by_cases hkn : k < n
    · by_cases hk200 : k < 200
      · obtain ⟨ba, o, rfl, hbl, c1, c2, c3⟩ := HX.out k (by rw [HN.out]; exact hkn)
        rw [← HB.out.cell (p := ⟨ba, _, none⟩) hbl] at c1 c2 c3
        generalize L[k]'(by rw [HN.out]; exact hkn) = x at *
        have h9 : S9 Y4 ba (o + k * 3) (.slice a' R.length c') (.int .i64 Z) x wr := ⟨HY.out.c0, HY.out.c1, c1, c2, c3⟩
        have hAl := HD.out.g.lt.1
        have hYl := HY.out.lt
        have hrl : Hid (∀ q, r = some q → w.heap.size ≤ q ∧ q < wr.heap.size) := Lib.hid HD.out.g.lt.2.1
        have NB : ba ≠ w.heap.size ∧ some ba ≠ r := ⟨by omega, fun e => by have := (hrl.out ba e.symm).1; omega⟩
        have NY : Y4 ≠ w.heap.size ∧ some Y4 ≠ r := ⟨by omega, HYr.out⟩
        have NW : Hid (wr.heap.size ≠ w.heap.size ∧ some wr.heap.size ≠ r) := Lib.hid ⟨by omega, fun e => by have := (hrl.out _ e.symm).2; omega⟩
        have HNB := Lib.hid NB
        have HNY := Lib.hid NY
        have hws : w.heap.size ≤ wr.heap.size := HB.out.size
        have TD : DA wr.drew w.heap.size w.heap.size Z r R a' c' := HD.out.below ((Below.refl wr.heap.size wr).drew)
        have TA : DA (wr.drew.alloc (.cells #[.slice none 0 0, .int .i64 0] 27)) w.heap.size w.heap.size Z r R a' c' := TD.below ((Below.refl wr.drew.heap.size wr.drew).alloc (Nat.le_refl _) _)
        obtain ⟨xk, xp, xq⟩ := x
        simp only at c1 c2 c3
        have hRs : R.length < 4096 := by omega
        have hZs : Z ≤ 100000 := by omega
        clear NB NY
        go_wp2_with fail
        go_region_held3 (fun w' => w'.cell? ⟨Y4, 0, none⟩ = some (.slice a' R.length c') ∧ w'.cell? ⟨Y4, 1, none⟩ = some (.int .i64 Z) ∧ w'.cell? ⟨ba, o + k * 3, none⟩ = some (.int .i64 xk) ∧ w'.cell? ⟨ba, o + k * 3 + 1, none⟩ = some (.int .i64 xp) ∧ w'.cell? ⟨ba, o + k * 3 + 2, none⟩ = some (.int .i64 xq))
          (first | assumption | exact S9.drew (x := ⟨xk, xp, xq⟩) (by assumption) | exact S9.alloc (x := ⟨xk, xp, xq⟩) (by assumption) _ | exact S9.set (x := ⟨xk, xp, xq⟩) (by assumption) (by first | omega | (simp; omega)) (by first | omega | (simp; omega)) _ _)
          (first | ((go_at_call 11; refine (does_any a' c' w.heap.size w.heap.size Z xk xp xq r R _ (by first | exact TD | exact TA) (by first | omega | (simp; omega)) hRs hZ hZs).mono ?_; rintro r0 w4 ⟨a4, c4, Z4, r4, R4, rfl, d4, l4, z4, y4, t4⟩; have k4 : S9 Y4 ba (o + k * 3) (.slice a' R.length c') (.int .i64 Z) ⟨xk, xp, xq⟩ w4 := S9.tch (by assumption) t4 HNY.out HNB.out; try (have f4 : Blk2 w4 wr.heap.size 27 (.slice none 0 0) (.int .i64 0) := Blk2.tch (w := wr.drew.alloc (.cells #[.slice none 0 0, .int .i64 0] 27)) (heap_alloc_new wr.drew (.cells #[.slice none 0 0, .int .i64 0] 27)) t4 NW.out.1 NW.out.2; have y0 := f4.c0; have y1 := f4.c1; have yf0 := f4.f 0; have yf1 := f4.f 1))))
        all_goals first
          | (obtain ⟨w5, Y6, hw5, hy6, pr⟩ : ∃ w5 Y6, w5 = w4.alloc (Obj.cells #[.slice a4 R4.length c4, .int .i64 Z4] 27) ∧ Y6 = w4.heap.size ∧ PR wr w5 w.heap.size w.heap.size Y4 Y6 Z4 r r4 R4 a4 c4 (.slice a' R.length c') (.int .i64 Z) := ⟨_, _, rfl, rfl, pr_alloc t4 d4 HY.out HNY.out⟩
             rw [← hw5, ← hy6]
             clear hw5 hy6)
          | (obtain ⟨w5, Y6, hw5, hy6, pr⟩ : ∃ w5 Y6, w5 = (w4.setCell ⟨wr.heap.size, 0, none⟩ (.slice a4 R4.length c4)).setCell ⟨wr.heap.size, 1, none⟩ (.int .i64 Z4) ∧ Y6 = wr.heap.size ∧ PR wr w5 w.heap.size w.heap.size Y4 Y6 Z4 r r4 R4 a4 c4 (.slice a' R.length c') (.int .i64 Z) := ⟨_, _, rfl, rfl, pr_set t4 d4 HY.out HNY.out NW.out⟩
             rw [← hw5, ← hy6]
             clear hw5 hy6 f4 y0 y1 yf0 yf1)
        all_goals
          have hBr : Hid (Below w.heap.size w w5) := Lib.hid (below_tch2 HB.out pr.t HD.out.g)
          have PRh := Lib.hid pr
          have y60 := pr.y6.c0
          have y61 := pr.y6.c1
          have y40 := pr.y4.c0
          have y41 := pr.y4.c1
          have yf0 := pr.y4.f 0
          have yf1 := pr.y4.f 1
          have hln : R4.length ≤ k + 1 := by omega
          clear k4 t4 d4 TD TA h9 pr c1 c2 c3
          go_wp2_with fail
          obtain ⟨w6, hw6, D6, K6, B6⟩ : ∃ w6, w6 = (w5.setCell ⟨Y4, 0, none⟩ (.slice a4 R4.length c4)).setCell ⟨Y4, 1, none⟩ (.int .i64 Z4) ∧ DA w6 w.heap.size w.heap.size Z4 r4 R4 a4 c4 ∧ Blk2 w6 Y4 27 (.slice a4 R4.length c4) (.int .i64 Z4) ∧ Below w.heap.size w w6 :=
            ⟨_, rfl, PRh.out.d.set2 PRh.out.y4 (by omega) PRh.out.nr _ _, PRh.out.y4.set _ _, below_set2 hBr.out (by omega) _ _⟩
          rw [← hw6]
          have y0 := K6.c0
          have DD : DA w6.drew w.heap.size w.heap.size Z4 r4 R4 a4 c4 := D6.below ((Below.refl w6.heap.size w6).drew)
          have LEN := Lib.hid (len_any w6.drew _ _ _ _ _ DD.g)
          have ALL := Lib.hid (all_any w6.drew _ _ _ _ _ DD.g)
          have I6 := Lib.hid DD.i
          have D6h := Lib.hid D6
          have K6h := Lib.hid K6
          have B6h := Lib.hid B6
          have hR4 : R4.length ≤ 4096 := by omega
          clear hw6 y60 y61 y40 y41 yf0 yf1 D6 K6 B6 DD hBr
          go_region_held3 (fun w' => w'.cell? ⟨Y4, 0, none⟩ = some (.slice a4 R4.length c4))
            (first | assumption)
            (first | ((go_at_call 12; refine LEN.out.mono ?_; rintro r0 w7 ⟨rfl, rfl⟩)) | ((go_at_call 15; refine ALL.out.mono ?_; rintro r0 w7 ⟨a7, c7, rfl, i7, b7⟩; have y7 := cell_below (w := w6.drew) y0 b7; have j7 := I6.out.below b7)) | ((go_at_call 14; refine (refs2_any a7 c7 R4 w7 hR4 i7).mono ?_; rintro r0 w8 ⟨a8, c8, rfl, i8, b8⟩; have y8 := cell_below y7 b8; have j8 := j7.below b8)) | ((go_at_call 13; refine (same_any a8 a4 c8 c4 R4 w8 (by omega) i8 j8).mono ?_; rintro r0 w9 ⟨rfl, b9⟩; have y9 := cell_below y8 b9)))
          have b69 : Below w6.heap.size w6 w9 := ((Below.refl w6.heap.size w6).drew).trans ((b7.trans ((b8.trans (b9.mono b8.size)).mono b7.size)).mono (Nat.le_refl _))
          have D9 := Lib.hid (D6h.out.below b69)
          have K9 := Lib.hid (K6h.out.below b69 K6h.out.lt)
          have B9 := Lib.hid (B6h.out.trans (b69.mono B6h.out.size))
          clear b7 b8 b9 y7 y8 y9 i7 i8 j7 j8 b69 y0
          go_wp2_with fail
          go_roundw
          case rel => exact ⟨k + 1, r4, R4, a4, c4, Z4, by go_num, by omega, by omega, D9.out, hln, by omega, by omega, K9.out, PRh.out.nr, B9.out⟩
          case measure => simp [intOf]; omega
      · clear hAY
        go_wp2_with fail
        go_ret
        exact ⟨rfl, HB.out⟩
    · have hkn' : (n : Int) ≤ k := by omega
      clear hAY
      go_wp2_with fail
      go_ret
      exact ⟨rfl, HB.out⟩
end Go.Proofs.Ytiklaaganiafjab
