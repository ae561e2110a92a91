/-
  FOR AgendaPlays: an act on both: one that drops.
-/
import Derived.Test.YtiklaaganiafjabDoes2
namespace Go.Proofs.Ytiklaaganiafjab
open Go.RowKit
theorem own_any {w : World} {B : Nat} {v : Value} {l : List It} (h : w.ownsRow B 60 3 v l.length (cells l)) : ∃ a c, v = .slice a l.length c ∧ Its w a l ∧ l.length ≤ c ∧ c ≤ 9223372036854775807 ∧ ∀ g o, a = some ⟨g, o, none⟩ → B ≤ g ∧ g < w.heap.size := by
  rcases h.2 with ⟨rfl, e⟩ | ⟨g, cap, cur, rfl, hb, hh, h1, h2, _⟩
  · exact ⟨none, 0, by rw [e], by rw [List.eq_nil_of_length_eq_zero e]; exact its_nil _ _, by omega, by omega, fun g o e => by cases e⟩
  · have hg := (Array.getElem?_eq_some_iff.1 hh).1
    exact ⟨_, cap, rfl, its_own h hg, h1, by unfold maxLen at h2; omega, fun g' o e => by simp at e; omega⟩
theorem filter_lt (R : List It) (p : Int) : decide ((R.filter (fun x => x.i != p)).length < R.length) = decide (∃ x ∈ R, x.i = p) := by
  apply Bool.eq_iff_iff.2
  simp only [decide_eq_true_eq]
  constructor
  · intro h
    apply Classical.byContradiction
    intro hn
    have : R.filter (fun x => x.i != p) = R := List.filter_eq_self.2 (fun x hx => by
      have : x.i ≠ p := fun e => hn ⟨x, hx, e⟩
      simpa using this)
    rw [this] at h
    omega
  · rintro ⟨x, hx, e⟩
    exact List.length_filter_lt_length_iff_exists.2 ⟨x, hx, by simp [e]⟩
theorem cell_tch {w w' : World} {A b o : Nat} {r r' : Option Nat} {v : Value} (t : Tch w w' A r r') (hc : w.cell? ⟨b, o, none⟩ = some v) (h1 : b ≠ A) (h2 : some b ≠ r) : w'.cell? ⟨b, o, none⟩ = some v := by
  rw [World.cell?_of_block (t.block b (World.block_lt_of_cell? _ _ hc) h1 h2)]; exact hc
theorem free_tch {w w' : World} {A b o : Nat} {r r' : Option Nat} {v : Value} (t : Tch w w' A r r') (hc : w.cell? ⟨b, 0, none⟩ = some v) (hf : w.frozen? ⟨b, o, none⟩ = false) (h1 : b ≠ A) (h2 : some b ≠ r) : w'.frozen? ⟨b, o, none⟩ = false := by
  have := t.block b (World.block_lt_of_cell? _ _ hc) h1 h2
  unfold World.frozen? at *
  simp only [this]; exact hf
def atC (w : World) (b o : Nat) : Value := (w.cell? ⟨b, o, none⟩).getD (.bool false)
theorem atC_of {w : World} {b o : Nat} {v : Value} (h : w.cell? ⟨b, o, none⟩ = some v) : w.cell? ⟨b, o, none⟩ = some (atC w b o) := by unfold atC; rw [h]; rfl
/-- what the last region of an act reads and writes -/
abbrev S8 (Y5 Y6 Y8 : Nat) (p : Int) (u v : Value) (w' : World) : Prop :=
  w'.cell? ⟨Y5, 1, none⟩ = some (.int .i64 p) ∧ w'.cell? ⟨Y8, 0, none⟩ = some u ∧ w'.cell? ⟨Y8, 1, none⟩ = some v ∧ w'.cell? ⟨Y6, 0, none⟩ = some (atC w' Y6 0) ∧ w'.cell? ⟨Y6, 1, none⟩ = some (atC w' Y6 1) ∧ w'.frozen? ⟨Y6, 0, none⟩ = false ∧ w'.frozen? ⟨Y6, 1, none⟩ = false
theorem S8.drew {w' : World} {Y5 Y6 Y8 : Nat} {p : Int} {u v : Value} (h : S8 Y5 Y6 Y8 p u v w') : S8 Y5 Y6 Y8 p u v w'.drew := h
theorem S8.tch {w w' : World} {A Y5 Y6 Y8 : Nat} {r r' : Option Nat} {p : Int} {u v : Value} (h : S8 Y5 Y6 Y8 p u v w) (t : Tch w w' A r r') (h5 : Y5 ≠ A ∧ some Y5 ≠ r) (h6 : Y6 ≠ A ∧ some Y6 ≠ r) (h8 : Y8 ≠ A ∧ some Y8 ≠ r) : S8 Y5 Y6 Y8 p u v w' := by
  obtain ⟨c1, c2, c3, c4, c5, c6, c7⟩ := h
  exact ⟨cell_tch t c1 h5.1 h5.2, cell_tch t c2 h8.1 h8.2, cell_tch t c3 h8.1 h8.2, atC_of (cell_tch t c4 h6.1 h6.2), atC_of (cell_tch t c5 h6.1 h6.2), free_tch t c4 c6 h6.1 h6.2, free_tch t c4 c7 h6.1 h6.2⟩
theorem S8.below {w w' : World} {Y5 Y6 Y8 : Nat} {p : Int} {u v : Value} (h : S8 Y5 Y6 Y8 p u v w) (hb : Below w.heap.size w w') : S8 Y5 Y6 Y8 p u v w' := by
  obtain ⟨c1, c2, c3, c4, c5, c6, c7⟩ := h
  have e : ∀ {b o : Nat} {v : Value}, w.cell? ⟨b, o, none⟩ = some v → w'.cell? ⟨b, o, none⟩ = some v := fun hc => by rw [hb.cell (p := ⟨_, _, none⟩) (World.block_lt_of_cell? _ _ hc)]; exact hc
  have f : ∀ o, w.frozen? ⟨Y6, o, none⟩ = false → w'.frozen? ⟨Y6, o, none⟩ = false := fun o hf => by rw [hb.frozen (p := ⟨Y6, o, none⟩) (show Y6 < w.heap.size from World.block_lt_of_cell? _ _ c4)]; exact hf
  exact ⟨e c1, e c2, e c3, atC_of (e c4), atC_of (e c5), f 0 c6, f 1 c7⟩
theorem set2_cell {w : World} {b d o : Nat} {u v x : Value} (h : w.cell? ⟨d, o, none⟩ = some x) (hne : d ≠ b) : ((w.setCell ⟨b, 0, none⟩ u).setCell ⟨b, 1, none⟩ v).cell? ⟨d, o, none⟩ = some x := by
  rw [World.cell?_of_block ((set2_grown w b u v).block d (World.block_lt_of_cell? _ _ h) (fun e => hne (Option.some.inj e)))]
  exact h
theorem set2_own {w : World} {b : Nat} {u v x y : Value} (h0 : w.cell? ⟨b, 0, none⟩ = some x) (h1 : w.cell? ⟨b, 1, none⟩ = some y) : ((w.setCell ⟨b, 0, none⟩ u).setCell ⟨b, 1, none⟩ v).cell? ⟨b, 0, none⟩ = some u ∧ ((w.setCell ⟨b, 0, none⟩ u).setCell ⟨b, 1, none⟩ v).cell? ⟨b, 1, none⟩ = some v := by
  constructor <;> go_simp
theorem S8.set {w : World} {Y5 Y6 Y8 : Nat} {p : Int} {u v : Value} (h : S8 Y5 Y6 Y8 p u v w) (h5 : Y5 ≠ Y6) (h8 : Y8 ≠ Y6) (x y : Value) : S8 Y5 Y6 Y8 p u v ((w.setCell ⟨Y6, 0, none⟩ x).setCell ⟨Y6, 1, none⟩ y) := by
  obtain ⟨c1, c2, c3, c4, c5, c6, c7⟩ := h
  obtain ⟨d0, d1⟩ := set2_own (u := x) (v := y) c4 c5
  exact ⟨set2_cell c1 h5, set2_cell c2 h8, set2_cell c3 h8, atC_of d0, atC_of d1, by rw [World.frozen?_setCell, World.frozen?_setCell]; exact c6, by rw [World.frozen?_setCell, World.frozen?_setCell]; exact c7⟩
set_option maxHeartbeats 4000000 in
set_option maxRecDepth 100000 in
theorem does_drop (a : Option Addr) (c : Nat) (B A : Nat) (Z p q : Int) (r : Option Nat) (R : List It) (w : World) (h : DA w B A Z r R a c) (hR : R.length ≤ 4096) (hZ : 0 ≤ Z) :
    Calls Try.prog 11 #[.pointer (some ⟨A, 0, none⟩), .agg #[.slice a R.length c, .int .i64 Z], .agg #[.int .i64 1, .int .i64 p, .int .i64 q]] w (Doed w B A Z r R) := by
  have H := Lib.hid h
  obtain ⟨w1, hw1, k4, k5, k6, b1, hs⟩ := wD_ok w a R.length c Z 1 p q
  have W1 := Lib.hid hw1
  have K5 := Lib.hid k5
  have K6 := Lib.hid k6
  have B1 := Lib.hid b1
  have hsz : w.heap.size + 1 + 1 < w1.heap.size := by omega
  have F1 := Lib.hid (rdrop_any a c Z p R w1 hR (h.below b1).i)
  have hAlt := h.g.lt.1
  have hrlt := Lib.hid (fun k hk => (h.g.lt.2.1 k hk).2)
  have NR : ∀ k, w.heap.size ≤ k → k ≠ A ∧ some k ≠ r := fun k hk => ⟨by omega, fun e => by have := hrlt.out k e.symm; omega⟩
  have HNR := Lib.hid NR
  have y0 := k4.c0
  have y1 := k4.c1
  have z0 := k5.c0
  have z1 := k5.c1
  clear hs h hw1 b1 k4 k5 k6 NR
  go_enter Try.func11, Try.ntmps11
  go_wp2_with fail
  rw [← W1.out]
  clear W1
  refine F1.out.mono ?_
  rintro e w2 ⟨v, rfl, ho, b2⟩
  have hlen : (R.filter (fun x => x.i != p)).length ≤ R.length := List.length_filter_le _ _
  have FL := Lib.hid (filter_lt R p)
  have HG := Lib.hid H.out.g
  generalize hF : R.filter (fun x => x.i != p) = F at *
  have HF := Lib.hid hF
  clear hF
  obtain ⟨va, vc, rfl, hI, hc1, hc2, hgl⟩ := own_any ho
  generalize decide (F.length < R.length) = bb at *
  obtain ⟨w3, hw3, b3, k8⟩ : ∃ w3, w3 = w2.alloc (Obj.cells #[.slice va F.length vc, .int .i64 Z] 27) ∧ Below w2.heap.size w2 w3 ∧ Blk2 w3 w2.heap.size 27 (.slice va F.length vc) (.int .i64 Z) := ⟨_, rfl, (Below.refl _ _).alloc (Nat.le_refl _) _, heap_alloc_new _ _⟩
  have hs2 := b2.size
  have hs3 := b3.size
  have b13 := b2.trans (b3.mono b2.size)
  have K5' := K5.out.below b13 (by omega)
  have K6' := K6.out.below b13 (by omega)
  have I3 := Lib.hid (hI.below b3)
  have BW3 := Lib.hid (B1.out.trans (b13.mono B1.out.size))
  have hS8 : S8 (w.heap.size + 1) (w.heap.size + 1 + 1) w2.heap.size p (.slice va F.length vc) (.int .i64 Z) w3 := ⟨K5'.c1, k8.c0, k8.c1, atC_of K6'.c0, atC_of K6'.c1, K6'.f 0, K6'.f 1⟩
  have N5 := Lib.hid (HNR.out (w.heap.size + 1) (by omega))
  have N6 := Lib.hid (HNR.out (w.heap.size + 1 + 1) (by omega))
  have N8 := Lib.hid (HNR.out w2.heap.size (by omega))
  have HDR := Lib.hid (drop_any w3.drew B A Z r R p (HG.out.below BW3.out |> fun g => (g.below ((Below.refl w3.heap.size w3).drew))))
  have hAV : Hid (∀ g o, va = some ⟨g, o, none⟩ → w1.heap.size ≤ g ∧ g < w3.heap.size) := Lib.hid (fun g o e => ⟨(hgl g o e).1, Nat.lt_of_lt_of_le (hgl g o e).2 hs3⟩)
  have W3 := Lib.hid hw3
  have y0 := K5.out.below b2 (by omega) |>.c0
  have y1 := K5.out.below b2 (by omega) |>.c1
  have hlt5 : w.heap.size + 1 < w2.heap.size := by omega
  clear ho b2 b3 k8 hgl hI b13 K5' K6' F1
  go_wp2_with fail
  rw [← W3.out]
  clear W3 hw3
  go_region_held3 (fun w' => w'.cell? ⟨w.heap.size + 1, 1, none⟩ = some (.int .i64 p) ∧ w'.cell? ⟨w2.heap.size, 0, none⟩ = some (.slice va F.length vc) ∧ w'.cell? ⟨w2.heap.size, 1, none⟩ = some (.int .i64 Z) ∧ w'.cell? ⟨w.heap.size + 1 + 1, 0, none⟩ = some (atC w' (w.heap.size + 1 + 1) 0) ∧ w'.cell? ⟨w.heap.size + 1 + 1, 1, none⟩ = some (atC w' (w.heap.size + 1 + 1) 1) ∧ w'.frozen? ⟨w.heap.size + 1 + 1, 0, none⟩ = false ∧ w'.frozen? ⟨w.heap.size + 1 + 1, 1, none⟩ = false)
    (first | assumption | exact S8.drew (by assumption) | exact S8.set (by assumption) (by omega) (by omega) _ _)
    (first | (go_at_call 18; refine HDR.out.mono ?_; rintro r0 w4 ⟨r3, rfl, g4, t4⟩; have k4 : S8 (w.heap.size + 1) (w.heap.size + 1 + 1) w2.heap.size p (.slice va F.length vc) (.int .i64 Z) w4 := S8.tch (w := w3.drew) (S8.drew hS8) t4 N5.out N6.out N8.out))
  rw [HF.out] at g4
  have hbb : (decide (∃ x, x ∈ R ∧ x.i = p) == bb) = true := by rw [FL.out]; simp
  have TT := Tch.trans (Tch.of_below (A := A) (r := r) (BW3.out.trans ((Below.refl w3.heap.size w3).drew.mono (by have := BW3.out.size; exact this)))) t4
  have hs4 := t4.size
  have hs3' : w3.heap.size ≤ w4.heap.size := hs4
  have AV3 : Apart w3 A r va := fun g o e => ⟨(hAV.out g o e).2, HNR.out g (by have := (hAV.out g o e).1; omega)⟩
  have I4 := (I3.out.below ((Below.refl w3.heap.size w3).drew)).tch (fun _ => AV3.below (w' := w3.drew) (Nat.le_refl _)) t4
  have AV4 := (AV3.below (w' := w3.drew) (Nat.le_refl _)).tch t4
  obtain ⟨d0, d1⟩ := set2_own (u := .slice va F.length vc) (v := .int .i64 Z) k4.2.2.2.1 k4.2.2.2.2.1
  have hr3 : some (w.heap.size + 1 + 1) ≠ r3 := by
    rcases t4.own with e | ⟨k, e, hk⟩
    · rw [e]; exact N6.out.2
    · rw [e]; intro e'; simp at e' hk; omega
  obtain ⟨w5, hw5, z0, z1, I5, G5, T5, AV5⟩ : ∃ w5, w5 = (w4.setCell ⟨w.heap.size + 1 + 1, 0, none⟩ (.slice va F.length vc)).setCell ⟨w.heap.size + 1 + 1, 1, none⟩ (.int .i64 Z) ∧ w5.cell? ⟨w.heap.size + 1 + 1, 0, none⟩ = some (.slice va F.length vc) ∧ w5.cell? ⟨w.heap.size + 1 + 1, 1, none⟩ = some (.int .i64 Z) ∧ Its w5 va F ∧ Agd w5 B A Z r3 F ∧ Tch w w5 A r r3 ∧ Apart w5 A r3 va := by
    have G5 := set2_grown w4 (w.heap.size + 1 + 1) (.slice va F.length vc) (.int .i64 Z)
    refine ⟨_, rfl, d0, d1, ?_, g4.grown G5 (by simp; omega) (.inr hr3), TT.grow G5 (fun k hk => by simp at hk; omega), AV4.below G5.size⟩
    intro j hj
    obtain ⟨g', o', e, hl, c1, c2, c3⟩ := I4 j hj
    have hg1 := (hAV.out g' o' e).1
    have hb := G5.block g' hl (by simp; omega)
    exact ⟨g', _, e, Nat.lt_of_lt_of_le hl G5.size, by rw [World.cell?_of_block hb]; exact c1, by rw [World.cell?_of_block hb]; exact c2, by rw [World.cell?_of_block hb]; exact c3⟩
  have FIN : Hid (Doed w B A Z r R (.returned (.tuple #[.agg #[.slice va F.length vc, .int .i64 Z], .bool true])) w5) := Lib.hid
    ⟨va, vc, Z, r3, F, rfl, ⟨G5, I5, fun _ => AV5, hc1, hc2⟩, by omega, by omega, by omega, T5⟩
  rw [← hw5]
  clear I5 G5 T5 AV5 hw5 I4 AV4 AV3 TT t4 g4 k4 d0 d1 hr3 hS8 I3 H HG FL
  go_wp2_with fail
  refine bodyPost_ret (by simp [results, Try.results11, go_sem, z0, z1, hbb]; try rfl) rfl ?_
  exact FIN.out
end Go.Proofs.Ytiklaaganiafjab
