/-
  RUNS IN MEMORY; which may be kept: index, picksMay.
-/
import Derived.Test.YtifdljdnpdefgaaBWrites
import Derived.Lib.QuietBelow
import Derived.Deep.QuietTactic
import Derived.BigQuiet
namespace Go.Proofs.Ytifdljdnpdefgaa
open Go.RowKit
theorem ret_b {a b : Bool} (h : a = b) : Ending.returned (.bool a) = .returned (.bool b) := by rw [h]
/-- a block that is known whole -/
def Blk (w : World) (g : Nat) (t : TypeId) (cs : Array Value) : Prop := w.heap[g]? = some (.cells cs t (0, 0))
section
variable {w w' : World} {g : Nat} {t : TypeId} {cs : Array Value}
theorem Blk.lt (h : Blk w g t cs) : g < w.heap.size := (Array.getElem?_eq_some_iff.1 h).1
theorem Blk.cell (h : Blk w g t cs) (i : Nat) : w.cell? ⟨g, i, none⟩ = cs[i]? := cell_of_row w g i cs t (0, 0) h
theorem Blk.free (h : Blk w g t cs) (i : Nat) : w.frozen? ⟨g, i, none⟩ = false := by unfold Blk at h; simp [World.frozen?, h]
theorem Blk.new (w : World) (t : TypeId) (cs : Array Value) : Blk (w.alloc (.cells cs t)) w.heap.size t cs := heap_alloc_new w _
theorem Blk.below {B : Nat} (h : Blk w g t cs) (hb : Below B w w') (hg : g < B) : Blk w' g t cs := (hb.block g hg).trans h
theorem Blk.set (h : Blk w g t cs) (i : Nat) (u : Value) : Blk (w.setCell ⟨g, i, none⟩ u) g t (cs.setIfInBounds i u) := by
  unfold Blk at h ⊢
  simp [World.setCell, Array.getElem?_modify, h]
end
theorem below_drewN {B : Nat} {w w' : World} (h : Below B w w') (n : Nat) : Below B w (w'.drewN n) := ⟨h.os, h.tape, h.output, h.size, h.block⟩
/-- whole numbers in memory -/
def Ints (w : World) (a : Option Addr) (xs : List Int) : Prop := ∀ i (h : i < xs.length), ∃ b o, a = some ⟨b, o, none⟩ ∧ b < w.heap.size ∧ w.cell? ⟨b, o + i, none⟩ = some (.int .i64 xs[i])
theorem Ints.below {w w' : World} {a : Option Addr} {xs : List Int} (h : Ints w a xs) (hb : Below w.heap.size w w') : Ints w' a xs := fun i hi => by
  obtain ⟨b, o, e, hl, hc⟩ := h i hi
  exact ⟨b, o, e, Nat.lt_of_lt_of_le hl hb.size, by rw [hb.cell (p := ⟨b, _, none⟩) hl]; exact hc⟩
/-- a run -/
structure Rn where
  b : Int
  t : Int
  s : Int
  n : Int
  P : List Int
def Rns (w : World) (a : Option Addr) (L : List Rn) : Prop := ∀ p (h : p < L.length), ∃ g o q c, a = some ⟨g, o, none⟩ ∧ g < w.heap.size ∧
  w.cell? ⟨g, o + p * 5, none⟩ = some (.int .i64 L[p].b) ∧ w.cell? ⟨g, o + p * 5 + 1, none⟩ = some (.int .i64 L[p].t) ∧ w.cell? ⟨g, o + p * 5 + 2, none⟩ = some (.int .i64 L[p].s) ∧ w.cell? ⟨g, o + p * 5 + 3, none⟩ = some (.int .u64 L[p].n) ∧ w.cell? ⟨g, o + p * 5 + 4, none⟩ = some (.slice q L[p].P.length c) ∧ Ints w q L[p].P ∧ L[p].P.length ≤ c
theorem Rns.below {w w' : World} {a : Option Addr} {L : List Rn} (h : Rns w a L) (hb : Below w.heap.size w w') : Rns w' a L := fun p hp => by
  obtain ⟨g, o, q, c, e, hg, c0, c1, c2, c3, c4, hi, hcap⟩ := h p hp
  have x : ∀ {k : Nat} {v : Value}, w.cell? ⟨g, k, none⟩ = some v → w'.cell? ⟨g, k, none⟩ = some v := fun hc => by rw [hb.cell (p := ⟨g, _, none⟩) hg]; exact hc
  exact ⟨g, o, q, c, e, Nat.lt_of_lt_of_le hg hb.size, x c0, x c1, x c2, x c3, x c4, hi.below hb, hcap⟩
def idxB (n : Int) : Bool := decide (0 ≤ n) && decide (n ≤ 549755813888)
theorem index_any (n : Int) (w : World) : Calls Try.prog 30 #[.int .i64 n] w fun e w' => e = .returned (.bool (idxB n)) ∧ w = w' := by
  unfold idxB
  by_cases h0 : 0 ≤ n
  · by_cases h1 : n ≤ 549755813888
    · rw [decide_eq_true h0, decide_eq_true h1]
      go_enter Try.func30, Try.ntmps30
      go_wp2_with fail
      go_ret
      exact ⟨rfl, rfl⟩
    · rw [decide_eq_true h0, decide_eq_false h1]
      go_enter Try.func30, Try.ntmps30
      go_wp2_with fail
      go_ret
      exact ⟨rfl, rfl⟩
  · rw [decide_eq_false h0]
    go_enter Try.func30, Try.ntmps30
    go_wp2_with fail
    go_ret
    exact ⟨rfl, rfl⟩
/-- may a pick stand at its place -/
def okAt (P : List Int) (i : Nat) : Bool := idxB (P.getD i 0) && (i == 0 || decide (P.getD (i - 1) 0 < P.getD i 0))
def riseB (P : List Int) : Bool := (List.range P.length).all (okAt P)
theorem rise_true {P : List Int} (h : ∀ i, i < P.length → okAt P i = true) : riseB P = true := by
  unfold riseB
  rw [List.all_eq_true]
  exact fun i hi => h i (List.mem_range.1 hi)
theorem rise_false {P : List Int} {i : Nat} (hi : i < P.length) (h : okAt P i = false) : riseB P = false := by
  unfold riseB
  rw [List.all_eq_false]
  exact ⟨i, List.mem_range.2 hi, by rw [h]; decide⟩
theorem getD_at {P : List Int} {i : Nat} (h : i < P.length) : P.getD i 0 = P[i] := by
  rw [List.getD_eq_getElem?_getD, List.getElem?_eq_getElem h]; rfl
def pickB (b : Int) (P : List Int) : Bool := decide (0 < P.length) && (decide (P.length < 16) && (P.getD 0 0 == b && riseB P))
set_option maxHeartbeats 8000000 in
set_option maxRecDepth 100000 in
theorem picks_any (b t s n : Int) (P : List Int) (q : Option Addr) (c : Nat) (w : World) (hP : Ints w q P) (hl : P.length ≤ 140737488355328) : Calls Try.prog 31 #[.agg #[.int .i64 b, .int .i64 t, .int .i64 s, .int .u64 n, .slice q P.length c]] w fun e w' => e = .returned (.bool (pickB b P)) ∧ Below w.heap.size w w' := by
  have bA := (Below.refl _ w).alloc (Nat.le_refl _) (.cells #[.int .i64 b, .int .i64 t, .int .i64 s, .int .u64 n, .slice q P.length c] 46)
  have BA := Lib.hid bA
  have IA := Lib.hid (hP.below bA)
  have K := Blk.new w 46 #[.int .i64 b, .int .i64 t, .int .i64 s, .int .u64 n, .slice q P.length c]
  clear hP bA
  generalize hm : P.length = m at *
  have HM := Lib.hid hm
  clear hm
  have c0 := K.cell 0
  have c4 := K.cell 4
  simp only [List.getElem?_toArray, List.getElem?_cons_zero, List.getElem?_cons_succ] at c0 c4
  clear K
  generalize hW : w.alloc (.cells #[.int .i64 b, .int .i64 t, .int .i64 s, .int .u64 n, .slice q m c] 46) = W at *
  have HW := Lib.hid hW
  clear hW
  by_cases h0 : m = 0
  · have R : pickB b P = false := by unfold pickB; rw [HM.out, h0]; rfl
    rw [R]
    subst h0
    go_enter Try.func31, Try.ntmps31
    go_wp2_with fail
    rw [HW.out]
    go_quiet (fail)
    go_wp2_with fail
    go_ret
    exact ⟨rfl, below_drewN BA.out nq⟩
  have hm0 : 0 < m := by omega
  have hmI : ¬ ((m : Int) < 1) := by omega
  have hmB : (decide ((m : Int) < 1)) = false := decide_eq_false hmI
  by_cases h16 : 16 ≤ m
  · have R : pickB b P = false := by unfold pickB; rw [HM.out, decide_eq_false (by omega : ¬ m < 16)]; simp
    rw [R]
    have h16I : (16 : Int) ≤ (m : Int) := by omega
    have h16B : (decide ((16 : Int) ≤ (m : Int))) = true := decide_eq_true h16I
    go_enter Try.func31, Try.ntmps31
    go_wp2_with fail
    rw [HW.out]
    go_quiet (fail)
    go_wp2_with fail
    go_ret
    exact ⟨rfl, below_drewN BA.out nq⟩
  have h16I : ¬ (16 : Int) ≤ (m : Int) := by omega
  have h16B : (decide ((16 : Int) ≤ (m : Int))) = false := decide_eq_false h16I
  have hmL : 0 < P.length := by rw [HM.out]; exact hm0
  obtain ⟨g, o, hq, hg, f0⟩ := IA.out 0 hmL
  rw [Nat.add_zero] at f0
  have HG0 := Lib.hid (getD_at hmL)
  generalize hp0 : P[0] = p0 at *
  subst hq
  by_cases hb : p0 = b
  rotate_left
  · have R : pickB b P = false := by unfold pickB; rw [HG0.out, show (p0 == b) = false from by simpa using hb]; simp
    rw [R]
    have hbB : (p0 == b) = false := by simpa using hb
    have hbB2 : (p0 != b) = true := by simpa using hb
    clear IA HG0 hp0 hg
    go_enter Try.func31, Try.ntmps31
    go_wp2_with fail
    rw [HW.out]
    go_quiet (fail)
    go_wp2_with fail
    go_ret
    exact ⟨rfl, below_drewN BA.out nq⟩
  subst hb
  have R : pickB p0 P = riseB P := by
    unfold pickB
    rw [HG0.out, HM.out, decide_eq_true hm0, decide_eq_true (by omega : m < 16)]
    simp
  rw [R]
  have IX := Lib.hid (index_any)
  clear HG0 hp0 hg R
  go_enter Try.func31, Try.ntmps31
  go_wp2_with fail
  rw [HW.out]
  go_quiet (fail)
  have BB := Lib.hid (below_drewN BA.out nq)
  have IB := Lib.hid (fun i h => show ∃ b' o', some (⟨g, o, none⟩ : Addr) = some ⟨b', o', none⟩ ∧ b' < (W.drewN nq).heap.size ∧ (W.drewN nq).cell? ⟨b', o' + i, none⟩ = some (.int .i64 P[i]) from IA.out i h)
  have e4 : (W.drewN nq).cell? ⟨w.heap.size, 4, none⟩ = some (.slice (some ⟨g, o, none⟩) m c) := c4
  clear f0 c0 c4 IA BA HW
  generalize W.drewN nq = V at *
  go_wp2_with fail
  go_loop [27] (fun i => ∃ j : Nat, i = .int .i64 (j : Int) ∧ j ≤ m ∧ ∀ k, k < j → okAt P k = true) (fun i => m - (intOf i).toNat)
  case atStart => exact ⟨0, rfl, Nat.zero_le _, fun k hk => absurd hk (Nat.not_lt_zero k)⟩
  case round =>
    obtain ⟨j, rfl, hjm, hj⟩ := hrel
    have HJ := Lib.hid hj
    clear hj
    by_cases hlt : j < m
    rotate_left
    · have hlt' : ¬ (j : Int) < (m : Int) := by omega
      have R : riseB P = true := rise_true (fun i hi => HJ.out i (by rw [HM.out] at hi; omega))
      have RH := Lib.hid R
      clear R
      go_wp2_with fail
      go_ret
      exact ⟨by first | (rw [RH.out]; done) | (rw [RH.out]; rfl), BB.out⟩
    have hlt' : (j : Int) < (m : Int) := by omega
    have hjL : j < P.length := by rw [HM.out]; exact hlt
    obtain ⟨g1, o1, e1, hg1, f1⟩ := IB.out j hjL
    cases e1
    have HGJ := Lib.hid (getD_at hjL)
    have F : ∀ b, okAt P j = b → b = false → riseB P = false := fun b h1 h2 => rise_false hjL (by rw [h1, h2])
    have IX1 := Lib.hid (IX.out P[j])
    cases hx : idxB P[j]
    · have R : riseB P = false := F _ rfl (by unfold okAt; rw [HGJ.out, hx]; rfl)
      have RH := Lib.hid R
      rw [hx] at IX1
      have IXb := Lib.hid (IX1.out V)
      clear HGJ F hx IX1 hg1 R
      generalize P[j] = pj at *
      go_wp2_with fail
      refine IXb.out.mono ?_
      rintro e w1 ⟨rfl, rfl⟩
      go_wp2_with fail
      go_ret
      exact ⟨by first | (rw [RH.out]; done) | (rw [RH.out]; rfl), BB.out⟩
    rw [hx] at IX1
    have IXb := Lib.hid (IX1.out V)
    clear IX1 hg1
    by_cases hj0 : j = 0
    · subst hj0
      rw [Nat.add_zero] at f1
      have OK : okAt P 0 = true := by unfold okAt; rw [HGJ.out, hx]; rfl
      have NX := Lib.hid (fun k (hk : k < 1) => show okAt P k = true from by
        rw [show k = 0 by omega]; exact OK)
      clear HGJ F hx OK
      generalize P[0] = pj at *
      go_wp2_with fail
      refine IXb.out.mono ?_
      rintro e w1 ⟨rfl, rfl⟩
      go_wp2_with fail
      exact ⟨⟨1, rfl, by omega, NX.out⟩, by simp [intOf]; omega⟩
    have hjp : (0 : Int) < (j : Int) := by omega
    have hj1 : j - 1 < P.length := by omega
    obtain ⟨g2, o2, e2, hg2, f2⟩ := IB.out (j - 1) hj1
    cases e2
    have HGK := Lib.hid (getD_at hj1)
    obtain ⟨j', rfl⟩ : ∃ j', j = j' + 1 := ⟨j - 1, by omega⟩
    simp only [Nat.add_sub_cancel] at f2 HGK
    have hB : okAt P (j' + 1) = decide (P[j'] < P[j' + 1]) := by
      unfold okAt
      rw [HGJ.out, hx, Nat.add_sub_cancel, HGK.out]
      simp
    by_cases hc : P[j'] < P[j' + 1]
    · have NX := Lib.hid (fun k (hk : k < j' + 1 + 1) => show okAt P k = true from by
        by_cases h : k < j' + 1
        · exact HJ.out k h
        · rw [show k = j' + 1 by omega, hB]; exact decide_eq_true hc)
      have hcn : ¬ P[j' + 1] ≤ P[j'] := by omega
      clear HGJ HGK F hx hB hg2
      generalize P[j' + 1] = pj at *
      generalize P[j'] = pk at *
      go_wp2_with fail
      refine IXb.out.mono ?_
      rintro e w1 ⟨rfl, rfl⟩
      go_wp2_with fail
      exact ⟨⟨j' + 2, by go_num, by omega, NX.out⟩, by simp [intOf]; omega⟩
    · have R : riseB P = false := F _ hB (decide_eq_false hc)
      have RH := Lib.hid R
      have hcn : P[j' + 1] ≤ P[j'] := by omega
      clear HGJ HGK F hx hB hg2 R
      generalize P[j' + 1] = pj at *
      generalize P[j'] = pk at *
      go_wp2_with fail
      refine IXb.out.mono ?_
      rintro e w1 ⟨rfl, rfl⟩
      go_wp2_with fail
      go_ret
      exact ⟨by first | (rw [RH.out]; done) | (rw [RH.out]; rfl), BB.out⟩
end Go.Proofs.Ytifdljdnpdefgaa
