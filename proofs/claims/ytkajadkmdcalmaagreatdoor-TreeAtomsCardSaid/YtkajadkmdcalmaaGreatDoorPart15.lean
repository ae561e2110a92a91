/-
  WHAT THE ROWS REST ON, part 15: Trl3 Tgp Tgs.
-/
import Derived.IntWalk
import Derived.Test.YtkajadkmdcalmaaGreatDoorPart14
/-
  A Loop THAT MAY BE.
-/
namespace Go.Proofs.YtkajadkmdcalmaaGreatDoor
open Go.RowKit
theorem head_1 {ks : List Int} (h : 0 < ks.length) : ks.headD 0 = ks[0] := head_0 h
theorem lo_cases (lo hi : Int) : (loB' lo hi = true ∧ 0 ≤ lo ∧ lo ≤ 8 ∧ (hi = -1 ∨ hi ≠ -1 ∧ 1 ≤ hi ∧ lo ≤ hi ∧ hi ≤ 8)) ∨ (loB' lo hi = false ∧ (lo < 0 ∨ 0 ≤ lo ∧ 8 < lo ∨ 0 ≤ lo ∧ lo ≤ 8 ∧ hi ≠ -1 ∧ (hi < max 1 lo ∨ max 1 lo ≤ hi ∧ 8 < hi))) := by
  unfold loB'
  by_cases h1 : 0 ≤ lo ∧ lo ≤ 8
  · rw [decide_eq_true h1]
    by_cases h2 : hi = -1
    · exact .inl ⟨by simp [h2], h1.1, h1.2, .inl h2⟩
    · have e : (hi == -1) = false := by simpa using h2
      rw [e]
      by_cases h3 : max 1 lo ≤ hi ∧ hi ≤ 8
      · exact .inl ⟨by rw [decide_eq_true h3]; rfl, h1.1, h1.2, .inr ⟨h2, by omega, by omega, h3.2⟩⟩
      · exact .inr ⟨by rw [decide_eq_false h3]; rfl, .inr (.inr ⟨h1.1, h1.2, h2, by omega⟩)⟩
  · exact .inr ⟨by rw [decide_eq_false h1]; rfl, by omega⟩
set_option maxHeartbeats 4000000 in
set_option maxRecDepth 100000 in
theorem loopMay_any {w : World} {l : List Nd} {Bs : List Nat} {n : Nd} {g : Nat} (h : Parts w l Bs) (G : Good l Bs.length) (hp : PartOk w Bs n g) (hk : ∀ k ∈ n.kids, 0 ≤ k ∧ k < (Bs.length : Int)) (_hf : n.kids.length ≤ 200) (hc : n.conds.length ≤ 100) :
    Calls Tryz.prog 54 #[ptr g] w (Ruled w (loopB l n)) := by
  have BH := Lib.hid (bare_any hp hc)
  obtain ⟨ca, cc, ka, kc, pa, pc, hb, -, hr⟩ := hp.ex
  have c6 : w.cell? ⟨g, 6, none⟩ = some (.slice pa n.kids.length pc) := hb.cell 6
  have c3 : ∀ d, (w.drewN d).cell? ⟨g, 3, none⟩ = some (.int .i64 n.lo) := fun d => hb.cell 3
  have c4 : ∀ d, (w.drewN d).cell? ⟨g, 4, none⟩ = some (.int .i64 n.hi) := fun d => hb.cell 4
  have K := Lib.hid (fun (j : Nat) (hj : j < n.kids.length) => kid_at h hr hk hj)
  have EM := Lib.hid (empty_any h G)
  have FBH := Lib.hid (fun (d : Nat) => below_drewN (Below.refl w.heap.size w) d)
  have LC := lo_cases n.lo n.hi
  rw [show loopB l n = (bareB n && decide (n.kids.length = 1) && !isGuard l (n.kids.headD 0) && !emptyF l (n.kids.headD 0).toNat && loB' n.lo n.hi) from rfl]
  clear hb hr hk h hp
  unfold Ruled isGuard
  generalize bareB n = b1 at *
  generalize n.kids = ks at *
  generalize n.lo = lo at *
  generalize n.hi = hi at *
  cases b1
  · clear K EM
    unfold ptr at *
    go_enter Tryz.func54, Tryz.ntmps54
    go_wp2_with (go_at_call 86; refine BH.out.mono ?_; rintro e w' ⟨rfl, rfl⟩)
    go_ret
    exact ⟨rfl, Below.refl _ _⟩
  by_cases h1 : ks.length = 1
  · obtain ⟨pg, po, q, m, rfl, ck, hm, hq, hbq, hP⟩ := K.out 0 (by omega)
    have G1 := Lib.hid (guard_any hP)
    have E1 := EM.out _ hq
    rw [show Bs[ks[0].toNat] = q by rw [List.getElem?_eq_getElem hq] at hbq; exact Option.some.inj hbq] at E1
    have E1h := Lib.hid E1
    rw [head_0 (by omega), opAt_eq hm, decide_eq_true h1]
    rw [h1] at c6
    rw [Nat.add_zero] at ck
    clear K hP hm EM E1 hbq hq
    generalize (m.op == 5) = b3 at *
    generalize emptyF l ks[0].toNat = b4 at *
    clear h1
    unfold ptr at *
    cases b3
    · cases b4
      · have c3' := c3 0
        have c4' := c4 0
        rcases LC with ⟨e, h1, h2, h3⟩ | ⟨e, h3⟩
        · rw [e]
          clear e
          rcases h3 with rfl | ⟨h3, h4, h5, h6⟩
          · go_enter Tryz.func54, Tryz.ntmps54
            go_wp2_with (first | (go_at_call 86; refine BH.out.mono ?_; rintro e w' ⟨rfl, rfl⟩) | (go_at_call 58; refine G1.out.mono ?_; rintro e w' ⟨rfl, rfl⟩) | (go_at_call 59; refine E1h.out.mono ?_; rintro e w' ⟨rfl, rfl⟩))
            go_quiet (fail)
            go_wp2_with fail
            all_goals
              go_ret
              exact ⟨rfl, FBH.out _⟩
          · have e3 : (hi == -1) = false := by simpa using h3
            clear h3
            by_cases hm : lo ≤ 1
            · have e4 : decide ((1 : Int) ≤ hi) = true := decide_eq_true h4
              go_enter Tryz.func54, Tryz.ntmps54
              go_wp2_with (first | (go_at_call 86; refine BH.out.mono ?_; rintro e w' ⟨rfl, rfl⟩) | (go_at_call 58; refine G1.out.mono ?_; rintro e w' ⟨rfl, rfl⟩) | (go_at_call 59; refine E1h.out.mono ?_; rintro e w' ⟨rfl, rfl⟩))
              go_quiet (fail)
              go_wp2_with fail
              all_goals
                go_ret
                exact ⟨rfl, FBH.out _⟩
            · have e4 : decide (lo ≤ hi) = true := decide_eq_true h5
              go_enter Tryz.func54, Tryz.ntmps54
              go_wp2_with (first | (go_at_call 86; refine BH.out.mono ?_; rintro e w' ⟨rfl, rfl⟩) | (go_at_call 58; refine G1.out.mono ?_; rintro e w' ⟨rfl, rfl⟩) | (go_at_call 59; refine E1h.out.mono ?_; rintro e w' ⟨rfl, rfl⟩))
              go_quiet (fail)
              go_wp2_with fail
              all_goals
                go_ret
                exact ⟨rfl, FBH.out _⟩
        · rw [e]
          clear e
          rcases h3 with h3 | ⟨h3, h4⟩ | ⟨h1, h2, h3, h4⟩
          · have e4 : decide ((0 : Int) ≤ lo) = false := decide_eq_false (by omega)
            go_enter Tryz.func54, Tryz.ntmps54
            go_wp2_with (first | (go_at_call 86; refine BH.out.mono ?_; rintro e w' ⟨rfl, rfl⟩) | (go_at_call 58; refine G1.out.mono ?_; rintro e w' ⟨rfl, rfl⟩) | (go_at_call 59; refine E1h.out.mono ?_; rintro e w' ⟨rfl, rfl⟩))
            go_quiet (fail)
            go_wp2_with fail
            all_goals
              go_ret
              exact ⟨rfl, FBH.out _⟩
          · have e4 : decide (lo ≤ 8) = false := decide_eq_false (by omega)
            go_enter Tryz.func54, Tryz.ntmps54
            go_wp2_with (first | (go_at_call 86; refine BH.out.mono ?_; rintro e w' ⟨rfl, rfl⟩) | (go_at_call 58; refine G1.out.mono ?_; rintro e w' ⟨rfl, rfl⟩) | (go_at_call 59; refine E1h.out.mono ?_; rintro e w' ⟨rfl, rfl⟩))
            go_quiet (fail)
            go_wp2_with fail
            all_goals
              go_ret
              exact ⟨rfl, FBH.out _⟩
          · have e3 : (hi == -1) = false := by simpa using h3
            clear h3
            by_cases hm : lo ≤ 1
            · by_cases h5 : 1 ≤ hi
              · have e5 : decide (hi ≤ 8) = false := decide_eq_false (by omega)
                go_enter Tryz.func54, Tryz.ntmps54
                go_wp2_with (first | (go_at_call 86; refine BH.out.mono ?_; rintro e w' ⟨rfl, rfl⟩) | (go_at_call 58; refine G1.out.mono ?_; rintro e w' ⟨rfl, rfl⟩) | (go_at_call 59; refine E1h.out.mono ?_; rintro e w' ⟨rfl, rfl⟩))
                go_quiet (fail)
                go_wp2_with fail
                all_goals
                  go_ret
                  exact ⟨rfl, FBH.out _⟩
              · have e4 : decide ((1 : Int) ≤ hi) = false := decide_eq_false h5
                go_enter Tryz.func54, Tryz.ntmps54
                go_wp2_with (first | (go_at_call 86; refine BH.out.mono ?_; rintro e w' ⟨rfl, rfl⟩) | (go_at_call 58; refine G1.out.mono ?_; rintro e w' ⟨rfl, rfl⟩) | (go_at_call 59; refine E1h.out.mono ?_; rintro e w' ⟨rfl, rfl⟩))
                go_quiet (fail)
                go_wp2_with fail
                all_goals
                  go_ret
                  exact ⟨rfl, FBH.out _⟩
            · by_cases h5 : lo ≤ hi
              · have e5 : decide (hi ≤ 8) = false := decide_eq_false (by omega)
                go_enter Tryz.func54, Tryz.ntmps54
                go_wp2_with (first | (go_at_call 86; refine BH.out.mono ?_; rintro e w' ⟨rfl, rfl⟩) | (go_at_call 58; refine G1.out.mono ?_; rintro e w' ⟨rfl, rfl⟩) | (go_at_call 59; refine E1h.out.mono ?_; rintro e w' ⟨rfl, rfl⟩))
                go_quiet (fail)
                go_wp2_with fail
                all_goals
                  go_ret
                  exact ⟨rfl, FBH.out _⟩
              · have e4 : decide (lo ≤ hi) = false := decide_eq_false h5
                go_enter Tryz.func54, Tryz.ntmps54
                go_wp2_with (first | (go_at_call 86; refine BH.out.mono ?_; rintro e w' ⟨rfl, rfl⟩) | (go_at_call 58; refine G1.out.mono ?_; rintro e w' ⟨rfl, rfl⟩) | (go_at_call 59; refine E1h.out.mono ?_; rintro e w' ⟨rfl, rfl⟩))
                go_quiet (fail)
                go_wp2_with fail
                all_goals
                  go_ret
                  exact ⟨rfl, FBH.out _⟩
      · go_enter Tryz.func54, Tryz.ntmps54
        go_wp2_with (first | (go_at_call 86; refine BH.out.mono ?_; rintro e w' ⟨rfl, rfl⟩) | (go_at_call 58; refine G1.out.mono ?_; rintro e w' ⟨rfl, rfl⟩) | (go_at_call 59; refine E1h.out.mono ?_; rintro e w' ⟨rfl, rfl⟩))
        go_ret
        exact ⟨rfl, Below.refl _ _⟩
    · go_enter Tryz.func54, Tryz.ntmps54
      go_wp2_with (first | (go_at_call 86; refine BH.out.mono ?_; rintro e w' ⟨rfl, rfl⟩) | (go_at_call 58; refine G1.out.mono ?_; rintro e w' ⟨rfl, rfl⟩))
      go_ret
      exact ⟨rfl, Below.refl _ _⟩
  · rw [decide_eq_false h1]
    have e1 : ((ks.length : Int) == 1) = false := by simp; omega
    have e2 : ((ks.length : Int) != 1) = true := by simp; omega
    clear K EM
    generalize ks.length = m at *
    unfold ptr
    go_enter Tryz.func54, Tryz.ntmps54
    go_wp2_with (go_at_call 86; refine BH.out.mono ?_; rintro e w' ⟨rfl, rfl⟩)
    go_ret
    exact ⟨rfl, Below.refl _ _⟩
end Go.Proofs.YtkajadkmdcalmaaGreatDoor
/-
  NODES IN MEMORY; THE PARTS WHILE A PATTERN GROWS; rule; take of no parts.
-/
namespace Go.Proofs.YtkajadkmdcalmaaGreatDoor
open Go.RowKit
/-- conditions in blocks ahead of B -/
def CndsB (w : World) (B : Nat) (a : Option Addr) (L : List Cnd) : Prop := Cnds w a L ∧ ∀ g o, 0 < L.length → a = some ⟨g, o, none⟩ → g < B
theorem CndsB.below {w w' : World} {B : Nat} {a : Option Addr} {L : List Cnd} (h : CndsB w B a L) (hb : Below B w w') : CndsB w' B a L := ⟨fun p hp => by
  obtain ⟨g, o, e, hl, c0, c1, c2, c3, c4, c5⟩ := h.1 p hp
  have hg := h.2 g o (by omega) e
  have q : ∀ {i : Nat} {v : Value}, w.cell? ⟨g, i, none⟩ = some v → w'.cell? ⟨g, i, none⟩ = some v := fun hc => by rw [hb.cell (p := ⟨g, _, none⟩) hg]; exact hc
  exact ⟨g, o, e, Nat.lt_of_lt_of_le hl hb.size, q c0, q c1, q c2, q c3, q c4, q c5⟩, h.2⟩
/-- nodes in blocks ahead of B -/
def Nods (w : World) (B : Nat) (a : Option Addr) (L : List Nd) : Prop := ∀ p (h : p < L.length), ∃ g o ca cc ka kc, a = some ⟨g, o, none⟩ ∧ g < B ∧
  w.cell? ⟨g, o + p * 6, none⟩ = some (.int .i64 L[p].op) ∧ w.cell? ⟨g, o + p * 6 + 1, none⟩ = some (.string L[p].kind) ∧ w.cell? ⟨g, o + p * 6 + 2, none⟩ = some (.slice ca L[p].conds.length cc) ∧
  w.cell? ⟨g, o + p * 6 + 3, none⟩ = some (.int .i64 L[p].lo) ∧ w.cell? ⟨g, o + p * 6 + 4, none⟩ = some (.int .i64 L[p].hi) ∧ w.cell? ⟨g, o + p * 6 + 5, none⟩ = some (.slice ka L[p].kids.length kc) ∧
  CndsB w B ca L[p].conds ∧ Nums w B ka L[p].kids
theorem Nods.below {w w' : World} {B : Nat} {a : Option Addr} {L : List Nd} (h : Nods w B a L) (hb : Below B w w') : Nods w' B a L := fun p hp => by
  obtain ⟨g, o, ca, cc, ka, kc, e, hl, c0, c1, c2, c3, c4, c5, hc, hk⟩ := h p hp
  have q : ∀ {i : Nat} {v : Value}, w.cell? ⟨g, i, none⟩ = some v → w'.cell? ⟨g, i, none⟩ = some v := fun hc => by rw [hb.cell (p := ⟨g, _, none⟩) hl]; exact hc
  exact ⟨g, o, ca, cc, ka, kc, e, hl, q c0, q c1, q c2, q c3, q c4, q c5, hc.below hb, hk.below hb⟩
/-- a part, away from block X -/
structure PartX (w : World) (Y : Nat) (Bs : List Nat) (n : Nd) (g : Nat) (X : Option Nat) : Prop where
  ex : ∃ (ca : Option Addr) (cc : Nat) (ka : Option Addr) (kc : Nat) (pa : Option Addr) (pc : Nat),
    Blk w g 92 #[.int .i64 n.op, .string n.kind, .slice ca n.conds.length cc, .int .i64 n.lo, .int .i64 n.hi, .slice ka n.kids.length kc, .slice pa n.kids.length pc] ∧ CndsB w Y ca n.conds ∧
    (Row w pa (ptrs Bs n.kids) ∧ ∀ a, 0 < n.kids.length → pa = some a → some a.block ≠ X)
  ne : some g ≠ X
theorem PartX.ok {w : World} {Y : Nat} {Bs : List Nat} {n : Nd} {g : Nat} {X : Option Nat} (h : PartX w Y Bs n g X) : PartOk w Bs n g := by
  obtain ⟨ca, cc, ka, kc, pa, pc, h1, h2, h3, -⟩ := h.ex
  exact ⟨ca, cc, ka, kc, pa, pc, h1, h2.1, h3⟩
theorem PartX.lt {w : World} {Y : Nat} {Bs : List Nat} {n : Nd} {g : Nat} {X : Option Nat} (h : PartX w Y Bs n g X) : g < w.heap.size := h.ok.lt
theorem gb_low {u v : World} {X : Option Nat} {B : Nat} (h : u.grownBy v X) (hX : ∀ x, X = some x → B ≤ x) (hB : B ≤ u.heap.size) : Below B u v :=
  ⟨h.os, h.tape, h.output, h.size, fun k hk => h.block k (by omega) (fun e => by have := hX k e.symm; omega)⟩
theorem PartX.grown {w w' : World} {Y : Nat} {Bs : List Nat} {n : Nd} {g : Nat} {X : Option Nat} (h : PartX w Y Bs n g X) (hg : w.grownBy w' X) (hX : ∀ x, X = some x → Y ≤ x) (hY : Y ≤ w.heap.size) : PartX w' Y Bs n g X := by
  obtain ⟨ca, cc, ka, kc, pa, pc, h1, h2, h3, h4⟩ := h.ex
  refine ⟨⟨ca, cc, ka, kc, pa, pc, (hg.block g h1.lt h.ne).trans h1, h2.below (gb_low hg hX hY), fun p hp => ?_, h4⟩, h.ne⟩
  obtain ⟨g0, o, e, hl, c⟩ := h3 p hp
  have hb := hg.block g0 hl (h4 _ (by rw [ptrs_len] at hp; omega) e)
  exact ⟨g0, o, e, Nat.lt_of_lt_of_le hl hg.size, by rw [World.cell?_of_block (a := ⟨g0, o + p, none⟩) hb]; exact c⟩
theorem PartX.fresh {w : World} {Y : Nat} {Bs : List Nat} {n : Nd} {g : Nat} {X : Option Nat} (h : PartX w Y Bs n g X) {x : Nat} (hx : w.heap.size ≤ x) : PartX w Y Bs n g (some x) := by
  have hlt := h.lt
  obtain ⟨ca, cc, ka, kc, pa, pc, h1, h2, h3, h4⟩ := h.ex
  refine ⟨⟨ca, cc, ka, kc, pa, pc, h1, h2, h3, fun a hk e e2 => ?_⟩, fun e => by injection e with e; omega⟩
  obtain ⟨g0, o, e3, hl, -⟩ := h3 0 (by rw [ptrs_len]; exact hk)
  rw [e] at e3
  injection e3 with e3
  injection e2 with e2
  rw [e3] at e2
  have : g0 = x := e2
  omega
theorem ptrs_ext {Bs : List Nat} {ks : List Int} (g : Nat) (h : ∀ k ∈ ks, 0 ≤ k ∧ k < (Bs.length : Int)) : ptrs (Bs ++ [g]) ks = ptrs Bs ks := by
  unfold ptrs
  apply List.map_congr_left
  intro k hk
  have := h k hk
  rw [List.getD_eq_getElem?_getD, List.getD_eq_getElem?_getD, List.getElem?_append_left (by omega)]
theorem PartX.ext {w : World} {Y : Nat} {Bs : List Nat} {n : Nd} {g : Nat} {X : Option Nat} (h : PartX w Y Bs n g X) (G : Nat) (hk : ∀ k ∈ n.kids, 0 ≤ k ∧ k < (Bs.length : Int)) : PartX w Y (Bs ++ [G]) n g X := by
  obtain ⟨ca, cc, ka, kc, pa, pc, h1, h2, h3, h4⟩ := h.ex
  exact ⟨⟨ca, cc, ka, kc, pa, pc, h1, h2, by rw [ptrs_ext G hk]; exact h3, h4⟩, h.ne⟩
structure PartsX (w : World) (Y : Nat) (l : List Nd) (Bs : List Nat) (X : Option Nat) : Prop where
  le : Bs.length ≤ l.length
  at_ : ∀ i (h : i < Bs.length), PartX w Y Bs (l[i]'(by omega)) Bs[i] X
theorem PartsX.ok {w : World} {Y : Nat} {l : List Nd} {Bs : List Nat} {X : Option Nat} (h : PartsX w Y l Bs X) : Parts w l Bs := ⟨h.le, fun i hi => (h.at_ i hi).ok⟩
theorem PartsX.grown {w w' : World} {Y : Nat} {l : List Nd} {Bs : List Nat} {X : Option Nat} (h : PartsX w Y l Bs X) (hg : w.grownBy w' X) (hX : ∀ x, X = some x → Y ≤ x) (hY : Y ≤ w.heap.size) : PartsX w' Y l Bs X := ⟨h.le, fun i hi => (h.at_ i hi).grown hg hX hY⟩
theorem PartsX.fresh {w : World} {Y : Nat} {l : List Nd} {Bs : List Nat} {X : Option Nat} (h : PartsX w Y l Bs X) {x : Nat} (hx : w.heap.size ≤ x) : PartsX w Y l Bs (some x) := ⟨h.le, fun i hi => (h.at_ i hi).fresh hx⟩
theorem PartsX.push {w : World} {Y : Nat} {l : List Nd} {Bs : List Nat} {X : Option Nat} (h : PartsX w Y l Bs X) (G : Good l Bs.length) (hj : Bs.length < l.length) {g : Nat} (hp : PartX w Y Bs l[Bs.length] g X) (hk : kidsIn l[Bs.length] Bs.length) : PartsX w Y l (Bs ++ [g]) X := by
  refine ⟨by rw [List.length_append, List.length_singleton]; omega, fun i hi => ?_⟩
  rw [List.length_append, List.length_singleton] at hi
  by_cases e : i < Bs.length
  · have h2 : (Bs ++ [g])[i]'(by simp; omega) = Bs[i] := List.getElem_append_left e
    rw [h2]
    exact (h.at_ i e).ext g fun k hm => by have := G.kids i e k hm; omega
  · obtain rfl : i = Bs.length := by omega
    have h2 : (Bs ++ [g])[Bs.length]'(by simp) = g := by rw [List.getElem_append_right (Nat.le_refl _)]; simp
    rw [h2]
    exact hp.ext g hk
/-- what rule hands out -/
theorem rule1 (w : World) : Calls Tryz.prog 36 #[.int .i64 1] w fun e w' => e = .returned (.func (.func 51) #[] #[]) ∧ w = w' := by
  go_enter Tryz.func36, Tryz.ntmps36
  go_wp2_with fail
  go_ret
  exact ⟨rfl, rfl⟩
theorem rule2 (w : World) : Calls Tryz.prog 36 #[.int .i64 2] w fun e w' => e = .returned (.func (.func 52) #[] #[]) ∧ w = w' := by
  go_enter Tryz.func36, Tryz.ntmps36
  go_wp2_with fail
  go_ret
  exact ⟨rfl, rfl⟩
theorem rule3 (w : World) : Calls Tryz.prog 36 #[.int .i64 3] w fun e w' => e = .returned (.func (.func 53) #[] #[]) ∧ w = w' := by
  go_enter Tryz.func36, Tryz.ntmps36
  go_wp2_with fail
  go_ret
  exact ⟨rfl, rfl⟩
theorem rule4 (w : World) : Calls Tryz.prog 36 #[.int .i64 4] w fun e w' => e = .returned (.func (.func 54) #[] #[]) ∧ w = w' := by
  go_enter Tryz.func36, Tryz.ntmps36
  go_wp2_with fail
  go_ret
  exact ⟨rfl, rfl⟩
theorem rule5 (w : World) : Calls Tryz.prog 36 #[.int .i64 5] w fun e w' => e = .returned (.func (.func 55) #[] #[]) ∧ w = w' := by
  go_enter Tryz.func36, Tryz.ntmps36
  go_wp2_with fail
  go_ret
  exact ⟨rfl, rfl⟩
theorem rule0 (op : Int) (w : World) (h : op ≠ 1 ∧ op ≠ 2 ∧ op ≠ 3 ∧ op ≠ 4 ∧ op ≠ 5) : Calls Tryz.prog 36 #[.int .i64 op] w fun e w' => e = .returned (.func (.func 56) #[] #[]) ∧ w = w' := by
  have e1 : (op == 1) = false := by simpa using h.1
  have e2 : (op == 2) = false := by simpa using h.2.1
  have e3 : (op == 3) = false := by simpa using h.2.2.1
  have e4 : (op == 4) = false := by simpa using h.2.2.2.1
  have e5 : (op == 5) = false := by simpa using h.2.2.2.2
  clear h
  go_enter Tryz.func36, Tryz.ntmps36
  go_wp2_with fail
  go_ret
  exact ⟨rfl, rfl⟩
/-- what take answers, of any row -/
def TakenV (w : World) (B : Nat) (pv : Value) (Bs : List Nat) (T ks : List Int) (e : Ending) (w' : World) : Prop :=
  (takeOk T Bs.length ks = true ∧ ∃ a c, e = .returned (.tuple #[.slice a ks.length c, .bool true]) ∧ w'.ownsRow w.heap.size 62 1 (.slice a ks.length c) ks.length (ptrs Bs ks) ∧ w'.ownsRow B 62 1 pv Bs.length (pcells Bs (T ++ ks)) ∧ w.grownBy w' pv.ownBlock) ∨
  (takeOk T Bs.length ks = false ∧ e = .returned (.tuple #[.slice none 0 0, .bool false]) ∧ w.grownBy w' pv.ownBlock)
theorem take_none {w : World} {B : Nat} {T ks : List Int} {ka : Option Addr} (kc : Nat) (hk : ks.length ≤ 200) (hN : Nums w B ka ks) :
    Calls Tryz.prog 35 #[.slice none 0 0, .slice ka ks.length kc] w (TakenV w B (.slice none 0 0) [] T ks) := by
  have G0 : w.grownBy w none := ⟨rfl, rfl, rfl, Nat.le_refl _, fun _ _ _ => rfl⟩
  cases ks with
  | nil =>
    have FIN := Lib.hid (show TakenV w B (.slice none 0 0) [] T [] (.returned (.tuple #[.slice none 0 0, .bool true])) w from .inl ⟨rfl, none, 0, rfl, World.ownsRow_nil _ _ _ _, World.ownsRow_nil _ _ _ _, G0⟩)
    rw [List.length_nil]
    clear hN G0
    go_enter Tryz.func35, Tryz.ntmps35
    go_wp2_with fail
    go_rounds 1
    go_wp2_with fail
    go_ret2
    exact FIN.out
  | cons k ks =>
    obtain ⟨g, o, rfl, hg, ck⟩ := hN 0 (by simp)
    have FIN := Lib.hid (show TakenV w B (.slice none 0 0) [] T (k :: ks) (.returned (.tuple #[.slice none 0 0, .bool false])) w from .inr ⟨by rw [takeOk_cons, decide_eq_false (fun h => by have h1 := h.1; have h2 : k < 0 := h.2; omega)]; rfl, rfl, G0⟩)
    have ck2 : w.cell? ⟨g, o, none⟩ = some (.int .i64 k) := by simpa using ck
    obtain ⟨n, hn⟩ : ∃ n, n = (k :: ks).length := ⟨_, rfl⟩
    have hn0 : 0 < n := by rw [hn]; simp
    have hnI : (0 : Int) < (n : Int) := by omega
    have hnI2 : (n : Int) ≤ 200 := by omega
    rw [← hn] at hk ⊢
    clear hN G0 ck hn
    by_cases k0 : k < 0
    · go_enter Tryz.func35, Tryz.ntmps35
      go_wp2_with fail
      go_rounds 1
      go_wp2_with fail
      go_ret2
      exact FIN.out
    · have k1 : (0 : Int) ≤ k := by omega
      go_enter Tryz.func35, Tryz.ntmps35
      go_wp2_with fail
      go_rounds 1
      go_wp2_with fail
      go_ret2
      exact FIN.out
theorem takeV_any {w : World} {B : Nat} {pv : Value} {Bs : List Nat} {T ks : List Int} {ka : Option Addr} (kc : Nat) (hb : Bs.length ≤ 200) (hk : ks.length ≤ 200) (hN : Nums w B ka ks)
    (hr : w.ownsRow B 62 1 pv Bs.length (pcells Bs T)) : Calls Tryz.prog 35 #[pv, .slice ka ks.length kc] w (TakenV w B pv Bs T ks) := by
  rcases hr.2 with ⟨rfl, e0⟩ | ⟨X, c, cur, rfl, hbX, hX, -⟩
  · obtain rfl : Bs = [] := List.length_eq_zero_iff.1 e0
    exact take_none kc hk hN
  · refine (take_any kc hb hk hN hr).mono fun e w' h => ?_
    rcases h with ⟨h1, u, h2, h3⟩ | ⟨h1, h2, h3⟩
    · have hkk := h3.kids
      rw [List.take_length] at hkk
      have hrr := h3.row
      rw [List.take_length] at hrr
      obtain ⟨a, c', hu⟩ := slice_form hkk
      subst hu
      exact .inl ⟨h1, a, c', h2, hkk, hrr, h3.gb⟩
    · exact .inr ⟨h1, h2, h3⟩
end Go.Proofs.YtkajadkmdcalmaaGreatDoor
/-
  grow: wholeMay; the steps of a round.
-/
namespace Go.Proofs.YtkajadkmdcalmaaGreatDoor
open Go.RowKit
theorem growTo_true {l : List Nd} {j i : Nat} (h : growTo l j = true) (hi : i < j) (hj : j ≤ l.length) : takeOk (kidsTo l i) i (l[i]'(by omega)).kids = true ∧ ruleB l (l[i]'(by omega)) = true := by
  unfold growTo at h
  rw [List.all_eq_true] at h
  have := h i (by simpa using hi)
  unfold stepB at this
  rw [Bool.and_eq_true] at this
  have hl : i < l.length := by omega
  have e1 : (l.map (·.kids)).getD i [] = l[i].kids := by simp [List.getD_eq_getElem?_getD, hl]
  have e2 : ((l[i]?).map (ruleB l)).getD false = ruleB l l[i] := by simp [hl]
  rw [e1, e2] at this
  exact this
theorem good_of {l : List Nd} {j : Nat} (h : growTo l j = true) (hj : j ≤ l.length) (hf : ∀ i (h : i < l.length), l[i].kids.length ≤ 200) : Good l j := by
  refine ⟨hj, fun i hi => ?_, fun i hi => ?_, hf⟩
  · exact takeOk_in (growTo_true h hi hj).1
  · have := (growTo_true h hi hj).2
    unfold ruleB at this
    by_cases h1 : (l[i]'(by omega)).op = 1
    · omega
    by_cases h2 : (l[i]'(by omega)).op = 2
    · omega
    by_cases h3 : (l[i]'(by omega)).op = 3
    · omega
    by_cases h4 : (l[i]'(by omega)).op = 4
    · omega
    by_cases h5 : (l[i]'(by omega)).op = 5
    · omega
    rw [if_neg h1, if_neg h2, if_neg h3, if_neg h4, if_neg h5] at this
    exact absurd this (by decide)
theorem kidsTo_lt {l : List Nd} {j : Nat} (h : growTo l j = true) (hj : j ≤ l.length) : ∀ k ∈ kidsTo l j, 0 ≤ k ∧ k + 1 < (j : Int) := by
  have : takeAll l j = true := by
    have := growTo_eq hj
    rw [h] at this
    have := this.symm
    rw [Bool.and_eq_true] at this
    exact this.1
  exact (takeAll_nodup hj this).2
theorem PartX.move {w w' : World} {Y : Nat} {Bs : List Nat} {n : Nd} {q : Nat} {X : Option Nat} (h : PartX w Y Bs n q X) (hg : w.grownBy w' X) (hX : ∀ x, X = some x → Y ≤ x) (hY : Y ≤ w.heap.size) {g : Nat} (hat : X = some g ∨ w.heap.size ≤ g) : PartX w' Y Bs n q (some g) := by
  have hlt := h.lt
  obtain ⟨ca, cc, ka, kc, pa, pc, h1, h2, h3, h4⟩ := h.ex
  refine ⟨⟨ca, cc, ka, kc, pa, pc, (hg.block q h1.lt h.ne).trans h1, h2.below (gb_low hg hX hY), fun p hp => ?_, fun a hk e e2 => ?_⟩, fun e => ?_⟩
  · obtain ⟨g0, o, e, hl, c⟩ := h3 p hp
    have hb := hg.block g0 hl (h4 _ (by rw [ptrs_len] at hp; omega) e)
    exact ⟨g0, o, e, Nat.lt_of_lt_of_le hl hg.size, by rw [World.cell?_of_block (a := ⟨g0, o + p, none⟩) hb]; exact c⟩
  · obtain ⟨g0, o, e3, hl, -⟩ := h3 0 (by rw [ptrs_len]; exact hk)
    rcases hat with hat | hat
    · exact h4 a hk e (by rw [hat]; exact e2)
    · rw [e] at e3
      injection e3 with e3
      injection e2 with e2
      rw [e3] at e2
      have : g0 = g := e2
      omega
  · rcases hat with hat | hat
    · exact h.ne (by rw [hat]; exact e)
    · injection e with e; omega
/-- the parts while a pattern grows -/
structure GrI (w wr : World) (l : List Nd) (Bs : List Nat) (pv : Value) : Prop where
  row : wr.ownsRow (w.heap.size + 1) 62 1 pv Bs.length (pcells Bs (kidsTo l Bs.length))
  parts : PartsX wr w.heap.size l Bs pv.ownBlock
  b : Below w.heap.size w wr
  sz : w.heap.size + 1 ≤ wr.heap.size
theorem GrI.x {w wr : World} {l : List Nd} {Bs : List Nat} {pv : Value} (h : GrI w wr l Bs pv) : ∀ x, pv.ownBlock = some x → w.heap.size + 1 ≤ x ∧ x < wr.heap.size := fun x e => World.ownsRow.lt h.row x e
theorem GrI.alloc {w wr : World} {l : List Nd} {Bs : List Nat} {pv : Value} (h : GrI w wr l Bs pv) (o : Obj) : GrI w (wr.alloc o) l Bs pv :=
  ⟨h.row.alloc o, h.parts.grown (World.grownBy_alloc wr o _) (fun x e => by have := (h.x x e).1; omega) (by have := h.sz; omega), h.b.alloc (by have := h.sz; omega) o, by have := h.sz; simp; omega⟩
/-- the kids of the next node are taken, and its part is laid -/
structure GrT (w w3 : World) (l : List Nd) (Bs : List Nat) (pv : Value) (n : Nd) (G : Nat) : Prop where
  row : w3.ownsRow (w.heap.size + 1) 62 1 pv Bs.length (pcells Bs (kidsTo l Bs.length ++ n.kids))
  parts : PartsX w3 w.heap.size l Bs pv.ownBlock
  part : PartX w3 w.heap.size Bs n G pv.ownBlock
  b : Below w.heap.size w w3
  sz : w.heap.size + 1 ≤ w3.heap.size
theorem GrT.below {w w3 w4 : World} {l : List Nd} {Bs : List Nat} {pv : Value} {n : Nd} {G : Nat} (h : GrT w w3 l Bs pv n G) (hb : Below w3.heap.size w3 w4) : GrT w w4 l Bs pv n G := by
  have hx : ∀ x, pv.ownBlock = some x → w.heap.size + 1 ≤ x ∧ x < w3.heap.size := fun x e => World.ownsRow.lt h.row x e
  have hg : w3.grownBy w4 pv.ownBlock := ⟨hb.os, hb.tape, hb.output, hb.size, fun k hk _ => hb.block k hk⟩
  have hX : ∀ x, pv.ownBlock = some x → w.heap.size ≤ x := fun x e => by have := (hx x e).1; omega
  have hY : w.heap.size ≤ w3.heap.size := by have := h.sz; omega
  refine ⟨World.ownsRow.kept (row := none) h.row ⟨hb.os, hb.tape, hb.output, hb.size, fun k hk _ => hb.block k hk⟩ (by cases pv.ownBlock <;> simp), h.parts.grown hg hX hY, h.part.grown hg hX hY, h.b.trans (hb.mono hY), Nat.le_trans h.sz hb.size⟩
theorem GrI.take {w wr w2 : World} {l : List Nd} {Bs : List Nat} {pv : Value} (h : GrI w wr l Bs pv) {n : Nd} {a : Option Addr} {c : Nat} {ca ka : Option Addr} {cc kc : Nat}
    (hk : w2.ownsRow wr.heap.size 62 1 (.slice a n.kids.length c) n.kids.length (ptrs Bs n.kids)) (hr : w2.ownsRow (w.heap.size + 1) 62 1 pv Bs.length (pcells Bs (kidsTo l Bs.length ++ n.kids))) (hg : wr.grownBy w2 pv.ownBlock)
    (hc : CndsB w2 w.heap.size ca n.conds) : GrT w (w2.alloc (.cells #[.int .i64 n.op, .string n.kind, .slice ca n.conds.length cc, .int .i64 n.lo, .int .i64 n.hi, .slice ka n.kids.length kc, .slice a n.kids.length c] 92)) l Bs pv n w2.heap.size := by
  have hX : ∀ x, pv.ownBlock = some x → w.heap.size ≤ x := fun x e => by have := (h.x x e).1; omega
  have hY : w.heap.size ≤ wr.heap.size := by have := h.sz; omega
  have hY2 : w.heap.size ≤ w2.heap.size := Nat.le_trans hY hg.size
  have ga := World.grownBy_alloc w2 (.cells #[.int .i64 n.op, .string n.kind, .slice ca n.conds.length cc, .int .i64 n.lo, .int .i64 n.hi, .slice ka n.kids.length kc, .slice a n.kids.length c] 92) pv.ownBlock
  refine ⟨hr.alloc _, (h.parts.grown hg hX hY).grown ga hX hY2, ⟨⟨ca, cc, ka, kc, a, c, heap_alloc_new w2 _, hc.below ((Below.refl _ _).alloc hY2 _), row_own (hk.alloc _), fun q hq e e2 => ?_⟩, fun e => ?_⟩, (h.b.trans (gb_low hg hX hY)).alloc hY2 _, by have := h.sz; have := hg.size; simp; omega⟩
  · have hb := (World.ownsRow.lt hk q.block (by
      rcases hk.2 with ⟨e3, _⟩ | ⟨g, cap, cur, e3, _⟩
      · injection e3 with e3; rw [e3] at e; exact absurd e (by simp)
      · injection e3 with e3; rw [e3] at e; injection e with e; rw [← e]; rw [e3]; rfl)).1
    have := (h.x _ e2.symm).2
    omega
  · have := (h.x _ e.symm).2
    have := hg.size
    omega
theorem GrT.push {w w3 W5 : World} {l : List Nd} {Bs : List Nat} {pv : Value} {G g cap : Nat} (hj : Bs.length < l.length) (h : GrT w w3 l Bs pv l[Bs.length] G) (GG : Good l Bs.length) (hk : kidsIn l[Bs.length] Bs.length) (hT : ∀ k ∈ kidsTo l Bs.length, k < (Bs.length : Int))
    (ho : W5.ownsRow (w.heap.size + 1) 62 1 (.slice (some ⟨g, 0, none⟩) (Bs.length + 1) cap) (Bs.length + 1) (pcells Bs (kidsTo l Bs.length ++ l[Bs.length].kids) ++ [ptr G])) (hg : w3.grownBy W5 pv.ownBlock) (hat : pv.ownBlock = some g ∨ w3.heap.size < g) :
    GrI w W5 l (Bs ++ [G]) (.slice (some ⟨g, 0, none⟩) (Bs.length + 1) cap) := by
  have hx : ∀ x, pv.ownBlock = some x → w.heap.size + 1 ≤ x ∧ x < w3.heap.size := fun x e => World.ownsRow.lt h.row x e
  have hX : ∀ x, pv.ownBlock = some x → w.heap.size ≤ x := fun x e => by have := (hx x e).1; omega
  have hY : w.heap.size ≤ w3.heap.size := by have := h.sz; omega
  have hat' : pv.ownBlock = some g ∨ w3.heap.size ≤ g := hat.imp id (fun h => by omega)
  have el : (Bs ++ [G]).length = Bs.length + 1 := by simp
  refine ⟨?_, ?_, h.b.trans (gb_low hg hX hY), Nat.le_trans h.sz hg.size⟩
  · rw [el, kidsTo_succ hj, ← pcells_more (fun k hm => by
      rcases List.mem_append.1 hm with hm | hm
      · exact hT k hm
      · have := hk k hm; omega)]
    exact ho
  · refine PartsX.push ⟨h.parts.le, fun i hi => (h.parts.at_ i hi).move hg hX hY hat'⟩ GG hj (h.part.move hg hX hY hat') hk
/-- wholeMay -/
def topB (l : List Nd) (i : Nat) : Bool := !isGuard l (i : Int) && !emptyF l i && decide (deepF l i ≤ 12)
set_option maxHeartbeats 2000000 in
theorem top_any {w : World} {l : List Nd} {Bs : List Nat} (h : Parts w l Bs) (G : Good l Bs.length) (hB : Bs.length ≤ 200) (i : Nat) (hi : i < Bs.length) :
    Calls Tryz.prog 39 #[ptr Bs[i]] w fun e w' => e = .returned (.bool (topB l i)) ∧ w = w' := by
  have hil : i < l.length := Nat.lt_of_lt_of_le hi G.le
  have G1 := guard_any (h.at_ i hi)
  have E1 := empty_any h G i hi
  have D1 := deep_any h G hB i hi
  unfold topB
  rw [show isGuard l (i : Int) = (l[i].op == 5) by unfold isGuard opAt; simp [hil]]
  have G1h := Lib.hid G1
  have E1h := Lib.hid E1
  have D1h := Lib.hid D1
  clear G1 E1 D1
  generalize (l[i].op == 5) = b1 at *
  generalize emptyF l i = b2 at *
  generalize deepF l i = d at *
  generalize Bs[i] = g at *
  unfold ptr at *
  cases b1
  · cases b2
    · by_cases hd : d ≤ 12
      · rw [decide_eq_true hd]
        have dI : (d : Int) ≤ 12 := by omega
        go_enter Tryz.func39, Tryz.ntmps39
        go_wp2_with (first | (go_at_call 58; refine G1h.out.mono ?_; rintro e w' ⟨rfl, rfl⟩) | (go_at_call 59; refine E1h.out.mono ?_; rintro e w' ⟨rfl, rfl⟩) | (go_at_call 60; refine D1h.out.mono ?_; rintro e w' ⟨rfl, rfl⟩))
        go_ret
        exact ⟨rfl, rfl⟩
      · rw [decide_eq_false hd]
        have dI : decide ((d : Int) ≤ 12) = false := decide_eq_false (by omega)
        go_enter Tryz.func39, Tryz.ntmps39
        go_wp2_with (first | (go_at_call 58; refine G1h.out.mono ?_; rintro e w' ⟨rfl, rfl⟩) | (go_at_call 59; refine E1h.out.mono ?_; rintro e w' ⟨rfl, rfl⟩) | (go_at_call 60; refine D1h.out.mono ?_; rintro e w' ⟨rfl, rfl⟩))
        go_ret
        exact ⟨rfl, rfl⟩
    · go_enter Tryz.func39, Tryz.ntmps39
      go_wp2_with (first | (go_at_call 58; refine G1h.out.mono ?_; rintro e w' ⟨rfl, rfl⟩) | (go_at_call 59; refine E1h.out.mono ?_; rintro e w' ⟨rfl, rfl⟩))
      go_ret
      exact ⟨rfl, rfl⟩
  · go_enter Tryz.func39, Tryz.ntmps39
    go_wp2_with (go_at_call 58; refine G1h.out.mono ?_; rintro e w' ⟨rfl, rfl⟩)
    go_ret
    exact ⟨rfl, rfl⟩
end Go.Proofs.YtkajadkmdcalmaaGreatDoor
