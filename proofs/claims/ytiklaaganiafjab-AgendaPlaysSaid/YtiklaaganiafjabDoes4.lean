/-
  FOR AgendaPlays: an act on both: what is due; and any act.
-/
import Derived.Test.YtiklaaganiafjabDoes3
namespace Go.Proofs.Ytiklaaganiafjab
open Go.RowKit
theorem due_parts {R : List It} (now : Int) (hs : Sorted R) : ∃ X R', R = X ++ R' ∧ (∀ x ∈ X, x.t ≤ now) ∧ (∀ x ∈ R', now < x.t) := by
  induction R with
  | nil => exact ⟨[], [], rfl, fun x h => by simp at h, fun x h => by simp at h⟩
  | cons x R ih =>
    by_cases h : x.t ≤ now
    · obtain ⟨X, R', e, h1, h2⟩ := ih (List.Pairwise.of_cons hs)
      refine ⟨x :: X, R', by rw [e]; rfl, fun y hy => ?_, h2⟩
      rcases List.mem_cons.1 hy with rfl | hy
      · exact h
      · exact h1 y hy
    · exact ⟨[], x :: R, rfl, fun x h => by simp at h, late hs (by omega)⟩
theorem own46_any {w : World} {B : Nat} {v : Value} {l : List It} (h : w.ownsRow B 46 3 v l.length (cells l)) : ∃ a c, v = .slice a l.length c ∧ Its w a l := by
  rcases h.2 with ⟨rfl, e⟩ | ⟨g, cap, cur, rfl, hb, hh, h1, h2, _⟩
  · exact ⟨none, 0, by rw [e], by rw [List.eq_nil_of_length_eq_zero e]; exact its_nil _ _⟩
  · exact ⟨_, cap, rfl, its_row h (Array.getElem?_eq_some_iff.1 hh).1⟩
def Dued2 (w : World) (B A : Nat) (Z : Int) (r : Option Nat) (X R' : List It) (e : Ending) (w' : World) : Prop :=
  ∃ a4 c4 r3, e = .returned (.slice a4 X.length c4) ∧ Its w' a4 X ∧ Agd w' B A Z r3 R' ∧ Tch w w' A r r3
theorem due2_any (w : World) (B A : Nat) (Z : Int) (r : Option Nat) (R X R' : List It) (now : Int) (h : Agd w B A Z r R) (hR : R.length ≤ 4096) (e : R = X ++ R') (h1 : ∀ x ∈ X, x.t ≤ now) (h2 : ∀ x ∈ R', now < x.t) :
    Calls Try.prog 17 #[.pointer (some ⟨A, 0, none⟩), .int .i64 now] w (Dued2 w B A Z r X R') :=
  (due_any w B A Z r R now h hR).mono fun e' w' ⟨v, X2, R2, r3, he, e2, q1, q2, g, t, o, _⟩ => by
    obtain ⟨s1, s2⟩ := due_split e h1 h2
    obtain ⟨t1, t2⟩ := due_split e2 q1 q2
    have eX : X = X2 := s1.trans t1.symm
    have eR : R' = R2 := s2.trans t2.symm
    subst eX
    subst eR
    obtain ⟨a, c, rfl, hI⟩ := own46_any o
    exact ⟨a, c, r3, he, hI, g, t⟩
theorem refs2_any (a : Option Addr) (c : Nat) (X : List It) (w : World) (hR : X.length ≤ 4096) (h : Its w a X) :
    Calls Try.prog 14 #[.slice a X.length c] w fun e w' => ∃ a' c', e = .returned (.slice a' X.length c') ∧ Its w' a' X ∧ Below w.heap.size w w' :=
  (refs_any a c X w hR h).mono fun e w' ⟨v, he, o, b⟩ => by
    obtain ⟨a', c', rfl, hI, _⟩ := own_any o
    exact ⟨a', c', he, hI, b⟩
set_option maxHeartbeats 4000000 in
set_option maxRecDepth 100000 in
theorem does_due (a : Option Addr) (c : Nat) (B A : Nat) (Z p q : Int) (r : Option Nat) (R : List It) (w : World) (h : DA w B A Z r R a c) (hR : R.length ≤ 4096) (hZ : 0 ≤ Z) :
    Calls Try.prog 11 #[.pointer (some ⟨A, 0, none⟩), .agg #[.slice a R.length c, .int .i64 Z], .agg #[.int .i64 3, .int .i64 p, .int .i64 q]] w (Doed w B A Z r R) := by
  have H := Lib.hid h
  obtain ⟨X, R', hXR, h1, h2⟩ := due_parts p (by obtain ⟨v, l, _, _, _, _, hs, _⟩ := h.g; exact hs)
  obtain ⟨w1, hw1, k4, k5, k6, b1, hs⟩ := wD_ok w a R.length c Z 3 p q
  have W1 := Lib.hid hw1
  have K5 := Lib.hid k5
  have K6 := Lib.hid k6
  have B1 := Lib.hid b1
  have hsz : w.heap.size + 1 + 1 < w1.heap.size := by omega
  have F1 := Lib.hid (rdue_any a c Z p R X R' w1 hXR hR h.l h.c (h.below b1).i h1 h2)
  have hAlt := h.g.lt.1
  have hrlt := Lib.hid (fun k hk => (h.g.lt.2.1 k hk).2)
  have NR : ∀ k, w.heap.size ≤ k → k ≠ A ∧ some k ≠ r := fun k hk => ⟨by omega, fun e => by have := hrlt.out k e.symm; omega⟩
  have HNR := Lib.hid NR
  have hll : R.length = X.length + R'.length := by rw [hXR, List.length_append]
  have HXR := Lib.hid hXR
  have H1 := Lib.hid h1
  have H2 := Lib.hid h2
  have y0 := k4.c0
  have y1 := k4.c1
  have z0 := k5.c0
  have z1 := k5.c1
  clear hs h hw1 b1 k4 k5 k6 NR h1 h2 hXR
  have hXl : X.length ≤ 4096 := by omega
  have hRl : R'.length ≤ R.length := by omega
  clear hll
  go_enter Try.func11, Try.ntmps11
  go_wp2_with fail
  rw [← W1.out]
  clear W1
  refine F1.out.mono ?_
  rintro e w2 ⟨va, vc, a2, c2, rfl, hI, hI2, hc1, hc2, b2, hsub, ha⟩
  have ha' := ha.symm
  subst ha'
  clear ha
  have HAS := Lib.hid H.out.s
  obtain ⟨w3, hw3, b3, k8⟩ : ∃ w3, w3 = w2.alloc (Obj.cells #[.slice va R'.length vc, .int .i64 Z] 27) ∧ Below w2.heap.size w2 w3 ∧ Blk2 w3 w2.heap.size 27 (.slice va R'.length vc) (.int .i64 Z) := ⟨_, rfl, (Below.refl _ _).alloc (Nat.le_refl _) _, heap_alloc_new _ _⟩
  have hs2 := b2.size
  have hs3 := b3.size
  have b13 := b2.trans (b3.mono b2.size)
  have K5' := K5.out.below b13 (by omega)
  have K6' := K6.out.below b13 (by omega)
  have BW3 := Lib.hid (B1.out.trans (b13.mono B1.out.size))
  have BD3 := Lib.hid (BW3.out.trans ((Below.refl w3.heap.size w3).drew.mono BW3.out.size))
  have I3 := Lib.hid ((hI.below b3).below ((Below.refl w3.heap.size w3).drew))
  have J3 := Lib.hid ((hI2.below b3).below ((Below.refl w3.heap.size w3).drew))
  have hS8 : S8 (w.heap.size + 1) (w.heap.size + 1 + 1) w2.heap.size p (.slice va R'.length vc) (.int .i64 Z) w3 := ⟨K5'.c1, k8.c0, k8.c1, atC_of K6'.c0, atC_of K6'.c1, K6'.f 0, K6'.f 1⟩
  have N5 := Lib.hid (HNR.out (w.heap.size + 1) (by omega))
  have N6 := Lib.hid (HNR.out (w.heap.size + 1 + 1) (by omega))
  have N8 := Lib.hid (HNR.out w2.heap.size (by omega))
  have HDU := Lib.hid (due2_any w3.drew B A Z r R X R' p (H.out.g.below BD3.out) hR HXR.out H1.out H2.out)
  have AW : Hid (R ≠ [] → Apart w3.drew A r a) := Lib.hid (fun hne => (HAS.out hne).below BD3.out.size)
  have XR : X ≠ [] → R ≠ [] := fun hx e => by rw [HXR.out] at e; exact hx (List.append_eq_nil_iff.1 e).1
  have RR : R' ≠ [] → R ≠ [] := fun hx e => by rw [HXR.out] at e; exact hx (List.append_eq_nil_iff.1 e).2
  have AX : Hid (X ≠ [] → Apart w3.drew A r a) := Lib.hid (fun hne => AW.out (XR hne))
  have AV : Hid (R' ≠ [] → Apart w3.drew A r va) := Lib.hid (fun hne g o e => by
    obtain ⟨o', e'⟩ := hsub hne g o e
    exact AW.out (RR hne) g o' e')
  have OUT : Hid (∀ g o, R' ≠ [] → va = some ⟨g, o, none⟩ → g < w.heap.size) := Lib.hid (fun g o hne e => by
    obtain ⟨o', e'⟩ := hsub hne g o e
    exact (HAS.out (RR hne) g o' e').1)
  have W3 := Lib.hid hw3
  have y0 := K5.out.below b2 (by omega) |>.c0
  have y1 := K5.out.below b2 (by omega) |>.c1
  have hlt5 : w.heap.size + 1 < w2.heap.size := by omega
  clear b2 b3 k8 hsub hI hI2 b13 K5' K6' F1 XR RR
  go_wp2_with fail
  rw [← W3.out]
  clear W3 hw3
  go_region_held3 (fun w' => w'.cell? ⟨w.heap.size + 1, 1, none⟩ = some (.int .i64 p) ∧ w'.cell? ⟨w2.heap.size, 0, none⟩ = some (.slice va R'.length vc) ∧ w'.cell? ⟨w2.heap.size, 1, none⟩ = some (.int .i64 Z) ∧ w'.cell? ⟨w.heap.size + 1 + 1, 0, none⟩ = some (atC w' (w.heap.size + 1 + 1) 0) ∧ w'.cell? ⟨w.heap.size + 1 + 1, 1, none⟩ = some (atC w' (w.heap.size + 1 + 1) 1) ∧ w'.frozen? ⟨w.heap.size + 1 + 1, 0, none⟩ = false ∧ w'.frozen? ⟨w.heap.size + 1 + 1, 1, none⟩ = false)
    (first | assumption | exact S8.drew (by assumption) | exact S8.set (by assumption) (by omega) (by omega) _ _)
    (first | (go_at_call 17; refine HDU.out.mono ?_; rintro r0 w4 ⟨a4, c4, r3, rfl, i4, g4, t4⟩; have k4 : S8 (w.heap.size + 1) (w.heap.size + 1 + 1) w2.heap.size p (.slice va R'.length vc) (.int .i64 Z) w4 := S8.tch (w := w3.drew) (S8.drew hS8) t4 N5.out N6.out N8.out; have j4 := J3.out.tch AX.out t4) | (go_at_call 14; refine (refs2_any a4 c4 X w4 hXl i4).mono ?_; rintro r0 w5 ⟨a5, c5, rfl, i5, b5⟩; have k5 := S8.below k4 b5; have j5 := j4.below b5) | (go_at_call 13; refine (same_any a5 a c5 c2 X w5 (by omega) i5 j5).mono ?_; rintro r0 w6 ⟨rfl, b6⟩; have k6 := S8.below k5 b6))
  have bD6 := b5.trans (b6.mono b5.size)
  have TT := ((Tch.trans (Tch.of_below (A := A) (r := r) BD3.out) t4).grow (row := none) (grown_below (bD6.mono (Nat.le_refl _)) none) (fun k hk => by cases hk))
  have hs4 := t4.size
  have hs5 := b5.size
  have hs6 := b6.size
  have hs3' : w3.heap.size ≤ w4.heap.size := hs4
  have I6 := (I3.out.tch AV.out t4).below bD6
  have AV6 : R' ≠ [] → Apart w6 A r3 va := fun hne => ((AV.out hne).tch t4).below (Nat.le_trans hs5 hs6)
  have G6 := g4.below bD6
  obtain ⟨d0, d1⟩ := set2_own (u := .slice va R'.length vc) (v := .int .i64 Z) k6.2.2.2.1 k6.2.2.2.2.1
  have hr3 : some (w.heap.size + 1 + 1) ≠ r3 := by
    rcases t4.own with e | ⟨k, e, hk⟩
    · rw [e]; exact N6.out.2
    · rw [e]; intro e'; simp at e' hk; omega
  obtain ⟨w7, hw7, z0, z1, I7, G7, T7, AV7⟩ : ∃ w7, w7 = (w6.setCell ⟨w.heap.size + 1 + 1, 0, none⟩ (.slice va R'.length vc)).setCell ⟨w.heap.size + 1 + 1, 1, none⟩ (.int .i64 Z) ∧ w7.cell? ⟨w.heap.size + 1 + 1, 0, none⟩ = some (.slice va R'.length vc) ∧ w7.cell? ⟨w.heap.size + 1 + 1, 1, none⟩ = some (.int .i64 Z) ∧ Its w7 va R' ∧ Agd w7 B A Z r3 R' ∧ Tch w w7 A r r3 ∧ (R' ≠ [] → Apart w7 A r3 va) := by
    have G5 := set2_grown w6 (w.heap.size + 1 + 1) (.slice va R'.length vc) (.int .i64 Z)
    refine ⟨_, rfl, d0, d1, ?_, G6.grown G5 (by simp; omega) (.inr hr3), TT.grow G5 (fun k hk => by simp at hk; omega), fun hne => (AV6 hne).below G5.size⟩
    intro j hj
    obtain ⟨g', o', e, hl, c1, c2, c3⟩ := I6 j hj
    have hg1 := OUT.out g' o' (fun e => by rw [e] at hj; simp at hj) e
    have hb := G5.block g' hl (by simp; omega)
    exact ⟨g', _, e, Nat.lt_of_lt_of_le hl G5.size, by rw [World.cell?_of_block hb]; exact c1, by rw [World.cell?_of_block hb]; exact c2, by rw [World.cell?_of_block hb]; exact c3⟩
  have FIN : Hid (Doed w B A Z r R (.returned (.tuple #[.agg #[.slice va R'.length vc, .int .i64 Z], .bool true])) w7) := Lib.hid
    ⟨va, vc, Z, r3, R', rfl, ⟨G7, I7, AV7, hc1, hc2⟩, by omega, by omega, by omega, T7⟩
  rw [← hw7]
  clear I7 G7 T7 AV7 hw7 I6 AV6 G6 TT t4 g4 k4 k5 k6 d0 d1 hr3 hS8 I3 J3 H bD6 b5 b6 i4 i5 j4 j5
  go_wp2_with fail
  refine bodyPost_ret (by simp [results, Try.results11, go_sem, z0, z1]; try rfl) rfl ?_
  exact FIN.out
/-- an act on both -/
theorem does_any (a : Option Addr) (c : Nat) (B A : Nat) (Z k p q : Int) (r : Option Nat) (R : List It) (w : World) (h : DA w B A Z r R a c) (hB : B ≤ w.heap.size) (hR : R.length < 4096) (hZ : 0 ≤ Z) (hZ2 : Z ≤ 100000) :
    Calls Try.prog 11 #[.pointer (some ⟨A, 0, none⟩), .agg #[.slice a R.length c, .int .i64 Z], .agg #[.int .i64 k, .int .i64 p, .int .i64 q]] w (Doed w B A Z r R) := by
  by_cases h0 : k = 0
  · subst h0; exact does_add a c B A Z p q r R w h hB hR hZ hZ2
  · by_cases h1 : k = 1
    · subst h1; exact does_drop a c B A Z p q r R w h (by omega) hZ
    · by_cases h2 : k = 2
      · subst h2; exact does_first a c B A Z p q r R w h hZ
      · by_cases h3 : k = 3
        · subst h3; exact does_due a c B A Z p q r R w h (by omega) hZ
        · exact does_other a c B A Z k p q r R w h hZ (by simpa using h0) (by simpa using h1) (by simpa using h2) (by simpa using h3)
end Go.Proofs.Ytiklaaganiafjab
