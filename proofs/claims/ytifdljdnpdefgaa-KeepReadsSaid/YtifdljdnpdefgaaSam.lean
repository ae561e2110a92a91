/-
  TWO TRACKS THAT ARE ONE: the document's Same.
-/
import Derived.Test.YtifdljdnpdefgaaWr2
import Derived.BigQuiet
import Derived.Deep.RegionHeld3
import Derived.Deep.DeepCutAuto
import Derived.Deep.CutBlock
namespace Go.Proofs.Ytifdljdnpdefgaa
open Go.RowKit
set_option maxHeartbeats 8000000 in
set_option maxRecDepth 100000 in
theorem ordP_any (P : List Int) (a a' : Option Addr) (c c' : Nat) (w : World) (h : Ints w a P) (h' : Ints w a' P) (hl : P.length ≤ 140737488355328) :
    Calls Try.prog 41 #[.slice a P.length c, .slice a' P.length c'] w fun e w' => e = .returned (.int .i64 0) ∧ Below w.heap.size w w' := by
  have H := Lib.hid h
  have H' := Lib.hid h'
  clear h h'
  generalize hm : P.length = m at *
  have HM := Lib.hid hm
  clear hm
  go_enter Try.func41, Try.ntmps41
  go_wp2_with fail
  go_loopw [5] (fun i wq => ∃ j : Nat, i = .int .i64 (j : Int) ∧ j ≤ m ∧ Below w.heap.size w wq) (fun i _ => m - (intOf i).toNat)
  case atStart => exact ⟨0, rfl, Nat.zero_le _, Below.refl _ _⟩
  case round =>
    obtain ⟨j, rfl, hj, hb⟩ := hrel
    have HB := Lib.hid hb
    clear hb
    by_cases hjm : j < m
    · have l1 : (j : Int) < (m : Int) := by omega
      have hjP : j < P.length := by rw [HM.out]; exact hjm
      obtain ⟨g, o, e, _, z⟩ := H.out.below HB.out j hjP
      obtain ⟨g', o', e', _, z'⟩ := H'.out.below HB.out j hjP
      subst e e'
      generalize P[j] = x at *
      have d1 : decide (x < x) = false := decide_eq_false (by omega)
      have zD : ∀ n, (wr.drewN n).cell? ⟨g, o + j, none⟩ = some (.int .i64 x) := fun _ => z
      have zD' : ∀ n, (wr.drewN n).cell? ⟨g', o' + j, none⟩ = some (.int .i64 x) := fun _ => z'
      go_wp2_with fail
      go_quiet (fail)
      have B1 := Lib.hid (below_drewN HB.out nq)
      have y := zD nq
      have y' := zD' nq
      clear z z' zD zD' HB
      generalize wr.drewN nq = wa at *
      go_wp2_with fail
      go_quiet (fail)
      have B2 := Lib.hid (below_drewN B1.out nq)
      clear y y' B1
      go_wp2_with fail
      go_roundw
      case rel => exact ⟨j + 1, by go_num, by omega, B2.out⟩
      case measure => simp [intOf]; omega
    · have l1 : ¬ (j : Int) < (m : Int) := by omega
      go_wp2_with fail
      go_ret
      exact ⟨rfl, HB.out⟩
def runV (r : Rn) (q : Option Addr) (c : Nat) : Value := .agg #[.int .i64 r.b, .int .i64 r.t, .int .i64 r.s, .int .u64 r.n, .slice q r.P.length c]
set_option maxHeartbeats 8000000 in
set_option maxRecDepth 100000 in
theorem ordR_any (r : Rn) (a a' : Option Addr) (c c' : Nat) (w : World) (h : Ints w a r.P) (h' : Ints w a' r.P) (hl : r.P.length ≤ 140737488355328) :
    Calls Try.prog 29 #[runV r a c, runV r a' c'] w fun e w' => e = .returned (.int .i64 0) ∧ Below w.heap.size w w' := by
  obtain ⟨rb, rt, rs, rn, P⟩ := r
  unfold runV
  simp only at h h' hl ⊢
  have OP := Lib.hid (fun W (b : Below w.heap.size w W) => ordP_any P a a' c c' W (h.below b) (h'.below b) hl)
  clear h h' hl
  generalize P.length = m at *
  have b1 := (Below.refl w.heap.size w).alloc (Nat.le_refl _) (.cells #[.int .i64 rb, .int .i64 rt, .int .i64 rs, .int .u64 rn, .slice a m c] 51)
  have k1 := Blk.new w 51 #[.int .i64 rb, .int .i64 rt, .int .i64 rs, .int .u64 rn, .slice a m c]
  have z1 : (w.alloc (.cells #[.int .i64 rb, .int .i64 rt, .int .i64 rs, .int .u64 rn, .slice a m c] 51)).heap.size = w.heap.size + 1 := by simp
  generalize hw1 : w.alloc (.cells #[.int .i64 rb, .int .i64 rt, .int .i64 rs, .int .u64 rn, .slice a m c] 51) = w1 at *
  have b2 := b1.alloc b1.size (.cells #[.int .i64 rb, .int .i64 rt, .int .i64 rs, .int .u64 rn, .slice a' m c'] 51)
  have k2 := Blk.new w1 51 #[.int .i64 rb, .int .i64 rt, .int .i64 rs, .int .u64 rn, .slice a' m c']
  have k1' := k1.al (.cells #[.int .i64 rb, .int .i64 rt, .int .i64 rs, .int .u64 rn, .slice a' m c'] 51)
  rw [z1] at k2
  generalize hw2 : w1.alloc (.cells #[.int .i64 rb, .int .i64 rt, .int .i64 rs, .int .u64 rn, .slice a' m c'] 51) = w2 at *
  have HW : Hid ((w.alloc (.cells #[.int .i64 rb, .int .i64 rt, .int .i64 rs, .int .u64 rn, .slice a m c] 51)).alloc (.cells #[.int .i64 rb, .int .i64 rt, .int .i64 rs, .int .u64 rn, .slice a' m c'] 51) = w2) := Lib.hid (by rw [hw1, hw2])
  have B2 := Lib.hid b2
  have K1 := Lib.hid k1'
  have K2 := Lib.hid k2
  clear hw1 hw2 b1 k1 z1 b2 k2 k1'
  generalize hY : w.heap.size = Y at *
  have OPh := Lib.hid (OP.out w2 B2.out)
  clear OP
  have c0 : w2.cell? ⟨Y, 0, none⟩ = some (.int .i64 rb) := K1.out.cell 0
  have c2 : w2.cell? ⟨Y, 2, none⟩ = some (.int .i64 rs) := K1.out.cell 2
  have c3 : w2.cell? ⟨Y, 3, none⟩ = some (.int .u64 rn) := K1.out.cell 3
  have c4 : w2.cell? ⟨Y, 4, none⟩ = some (.slice a m c) := K1.out.cell 4
  have d0 : w2.cell? ⟨Y + 1, 0, none⟩ = some (.int .i64 rb) := K2.out.cell 0
  have d2 : w2.cell? ⟨Y + 1, 2, none⟩ = some (.int .i64 rs) := K2.out.cell 2
  have d3 : w2.cell? ⟨Y + 1, 3, none⟩ = some (.int .u64 rn) := K2.out.cell 3
  have d4 : w2.cell? ⟨Y + 1, 4, none⟩ = some (.slice a' m c') := K2.out.cell 4
  have x1 : decide (rs < rs) = false := decide_eq_false (by omega)
  have x2 : decide (rn < rn) = false := decide_eq_false (by omega)
  have x3 : ¬ rs < rs := by omega
  have x4 : ¬ rn < rn := by omega
  go_enter Try.func29, Try.ntmps29
  go_upto_region 1 with fail
  rw [HW.out]
  go_wp2_with fail
  refine OPh.out.mono ?_
  rintro e w3 ⟨rfl, b3⟩
  have B3 := Lib.hid (B2.out.trans (b3.mono (by rw [← hY]; exact B2.out.size)))
  have K13 := Lib.hid (K1.out.over b3)
  have K23 := Lib.hid (K2.out.over b3)
  clear b3 c0 c2 c3 c4 d0 d2 d3 d4 OPh K1 K2 HW B2
  have c2 : w3.cell? ⟨Y, 2, none⟩ = some (.int .i64 rs) := K13.out.cell 2
  have c3 : w3.cell? ⟨Y, 3, none⟩ = some (.int .u64 rn) := K13.out.cell 3
  have d2 : w3.cell? ⟨Y + 1, 2, none⟩ = some (.int .i64 rs) := K23.out.cell 2
  have d3 : w3.cell? ⟨Y + 1, 3, none⟩ = some (.int .u64 rn) := K23.out.cell 3
  go_wp2_with fail
  go_ret
  exact ⟨rfl, B3.out⟩
abbrev SV (W : World) (Y Y2 : Nat) (v v2 : Value) (g o g2 o2 : Nat) (r : Rn) (q q2 : Option Addr) (c c2 : Nat) (w' : World) : Prop := w'.cell? ⟨Y, 3, none⟩ = some v ∧ w'.cell? ⟨Y2, 3, none⟩ = some v2 ∧ w'.cell? ⟨g, o, none⟩ = some (.int .i64 r.b) ∧ w'.cell? ⟨g, o + 1, none⟩ = some (.int .i64 r.t) ∧ w'.cell? ⟨g, o + 2, none⟩ = some (.int .i64 r.s) ∧ w'.cell? ⟨g, o + 3, none⟩ = some (.int .u64 r.n) ∧ w'.cell? ⟨g, o + 4, none⟩ = some (.slice q r.P.length c) ∧ w'.cell? ⟨g2, o2, none⟩ = some (.int .i64 r.b) ∧ w'.cell? ⟨g2, o2 + 1, none⟩ = some (.int .i64 r.t) ∧ w'.cell? ⟨g2, o2 + 2, none⟩ = some (.int .i64 r.s) ∧ w'.cell? ⟨g2, o2 + 3, none⟩ = some (.int .u64 r.n) ∧ w'.cell? ⟨g2, o2 + 4, none⟩ = some (.slice q2 r.P.length c2) ∧ Below W.heap.size W w'
theorem SV.of {W w' : World} {Y Y2 : Nat} {v v2 : Value} {g o g2 o2 : Nat} {r : Rn} {q q2 : Option Addr} {c c2 : Nat} (K : SV W Y Y2 v v2 g o g2 o2 r q q2 c c2 W) (h : Below W.heap.size W w') : SV W Y Y2 v v2 g o g2 o2 r q q2 c c2 w' := by
  obtain ⟨h0, h1, h2, h3, h4, h5, h6, h7, h8, h9, h10, h11, _⟩ := K
  have k : ∀ {b i : Nat} {u : Value}, W.cell? ⟨b, i, none⟩ = some u → w'.cell? ⟨b, i, none⟩ = some u := fun hc => by rw [h.cell (p := ⟨_, _, none⟩) (World.block_lt_of_cell? _ _ hc)]; exact hc
  exact ⟨k h0, k h1, k h2, k h3, k h4, k h5, k h6, k h7, k h8, k h9, k h10, k h11, h⟩
set_option maxHeartbeats 16000000 in
set_option maxRecDepth 100000 in
theorem same_any (c t l : Int) (L : List Rn) (a a' : Option Addr) (cp cp' : Nat) (w : World) (h : Rns w a L) (h' : Rns w a' L) (hl : L.length ≤ 140737488355328) (hP : ∀ r ∈ L, r.P.length ≤ 140737488355328) :
    Calls Try.prog 13 #[trackV c t l (.slice a L.length cp), trackV c t l (.slice a' L.length cp')] w fun e w' => e = .returned (.bool true) ∧ Below w.heap.size w w' := by
  unfold trackV
  have H := Lib.hid h
  have H' := Lib.hid h'
  have HP := Lib.hid hP
  clear h h' hP
  generalize hm : L.length = m at *
  have HM := Lib.hid hm
  clear hm
  have b1 := (Below.refl w.heap.size w).alloc (Nat.le_refl _) (.cells #[.int .i64 c, .int .i64 t, .int .i64 l, .slice a m cp] 34)
  have k1 := Blk.new w 34 #[.int .i64 c, .int .i64 t, .int .i64 l, .slice a m cp]
  have z1 : (w.alloc (.cells #[.int .i64 c, .int .i64 t, .int .i64 l, .slice a m cp] 34)).heap.size = w.heap.size + 1 := by simp
  generalize hw1 : w.alloc (.cells #[.int .i64 c, .int .i64 t, .int .i64 l, .slice a m cp] 34) = w1 at *
  have b2 := b1.alloc b1.size (.cells #[.int .i64 c, .int .i64 t, .int .i64 l, .slice a' m cp'] 34)
  have k2 := Blk.new w1 34 #[.int .i64 c, .int .i64 t, .int .i64 l, .slice a' m cp']
  have k1' := k1.al (.cells #[.int .i64 c, .int .i64 t, .int .i64 l, .slice a' m cp'] 34)
  rw [z1] at k2
  generalize hw2 : w1.alloc (.cells #[.int .i64 c, .int .i64 t, .int .i64 l, .slice a' m cp'] 34) = w2 at *
  have HW : Hid ((w.alloc (.cells #[.int .i64 c, .int .i64 t, .int .i64 l, .slice a m cp] 34)).alloc (.cells #[.int .i64 c, .int .i64 t, .int .i64 l, .slice a' m cp'] 34) = w2) := Lib.hid (by rw [hw1, hw2])
  have B2 := Lib.hid b2
  have K1 := Lib.hid k1'
  have K2 := Lib.hid k2
  clear hw1 hw2 b1 k1 z1 b2 k2 k1'
  generalize hY : w.heap.size = Y at *
  have hYw : Hid (w.heap.size = Y) := Lib.hid hY
  have c0 : w2.cell? ⟨Y, 0, none⟩ = some (.int .i64 c) := K1.out.cell 0
  have c1 : w2.cell? ⟨Y, 1, none⟩ = some (.int .i64 t) := K1.out.cell 1
  have c2 : w2.cell? ⟨Y, 2, none⟩ = some (.int .i64 l) := K1.out.cell 2
  have c3 : w2.cell? ⟨Y, 3, none⟩ = some (.slice a m cp) := K1.out.cell 3
  have d0 : w2.cell? ⟨Y + 1, 0, none⟩ = some (.int .i64 c) := K2.out.cell 0
  have d1 : w2.cell? ⟨Y + 1, 1, none⟩ = some (.int .i64 t) := K2.out.cell 1
  have d2 : w2.cell? ⟨Y + 1, 2, none⟩ = some (.int .i64 l) := K2.out.cell 2
  have d3 : w2.cell? ⟨Y + 1, 3, none⟩ = some (.slice a' m cp') := K2.out.cell 3
  go_enter Try.func13, Try.ntmps13
  go_upto_region 1 with fail
  rw [HW.out]
  go_wp2_with fail
  clear c0 c1 c2 c3 d0 d1 d2 d3 HW
  go_loopw [5] (fun i wq => ∃ j : Nat, i = .int .i64 (j : Int) ∧ j ≤ m ∧ Below Y w wq ∧ Below w2.heap.size w2 wq) (fun i _ => m - (intOf i).toNat)
  case atStart => exact ⟨0, rfl, Nat.zero_le _, B2.out, Below.refl _ _⟩
  case round =>
    obtain ⟨j, rfl, hj, hb, hu⟩ := hrel
    have HB := Lib.hid hb
    have HU := Lib.hid hu
    have c3 : wr.cell? ⟨Y, 3, none⟩ = some (.slice a m cp) := (K1.out.over hu).cell 3
    have d3 : wr.cell? ⟨Y + 1, 3, none⟩ = some (.slice a' m cp') := (K2.out.over hu).cell 3
    clear hb hu
    by_cases hjm : j < m
    · have l1 : (j : Int) < (m : Int) := by omega
      have hjL : j < L.length := by rw [HM.out]; exact hjm
      have bw : Below w.heap.size w wr := by rw [hYw.out]; exact HB.out
      obtain ⟨g, o, q, k, e, _, x0, x1, x2, x3, x4, xi, _⟩ := H.out.below bw j hjL
      obtain ⟨g2, o2, q2, k2, e2, _, y0, y1, y2, y3, y4, yi, _⟩ := H'.out.below bw j hjL
      subst e e2
      have hpl := HP.out L[j] (List.getElem_mem hjL)
      generalize L[j] = r at *
      have K3 : SV wr Y (Y + 1) (.slice (some ⟨g, o, none⟩) m cp) (.slice (some ⟨g2, o2, none⟩) m cp') g (o + j * 5) g2 (o2 + j * 5) r q q2 k k2 wr := ⟨c3, d3, x0, x1, x2, x3, x4, y0, y1, y2, y3, y4, Below.refl _ _⟩
      have K3h := Lib.hid K3
      have S3 := SV.of K3 ((Below.refl wr.heap.size wr).drew)
      have OR := Lib.hid (fun W (b : Below wr.heap.size wr W) => show Calls Try.prog 29 #[.agg #[.int .i64 r.b, .int .i64 r.t, .int .i64 r.s, .int .u64 r.n, .slice q r.P.length k], .agg #[.int .i64 r.b, .int .i64 r.t, .int .i64 r.s, .int .u64 r.n, .slice q2 r.P.length k2]] W _ from ordR_any r q q2 k k2 W (xi.below b) (yi.below b) hpl)
      have nb : (r.t != r.t) = false := by simp
      clear xi yi hpl bw
      go_wp2_with fail
      clear x0 x1 x2 x3 x4 y0 y1 y2 y3 y4 c3 d3
      go_region_held3 (fun w' => w'.cell? ⟨Y, 3, none⟩ = some (.slice (some ⟨g, o, none⟩) m cp) ∧ w'.cell? ⟨Y + 1, 3, none⟩ = some (.slice (some ⟨g2, o2, none⟩) m cp') ∧ w'.cell? ⟨g, o + j * 5, none⟩ = some (.int .i64 r.b) ∧ w'.cell? ⟨g, o + j * 5 + 1, none⟩ = some (.int .i64 r.t) ∧ w'.cell? ⟨g, o + j * 5 + 2, none⟩ = some (.int .i64 r.s) ∧ w'.cell? ⟨g, o + j * 5 + 3, none⟩ = some (.int .u64 r.n) ∧ w'.cell? ⟨g, o + j * 5 + 4, none⟩ = some (.slice q r.P.length k) ∧ w'.cell? ⟨g2, o2 + j * 5, none⟩ = some (.int .i64 r.b) ∧ w'.cell? ⟨g2, o2 + j * 5 + 1, none⟩ = some (.int .i64 r.t) ∧ w'.cell? ⟨g2, o2 + j * 5 + 2, none⟩ = some (.int .i64 r.s) ∧ w'.cell? ⟨g2, o2 + j * 5 + 3, none⟩ = some (.int .u64 r.n) ∧ w'.cell? ⟨g2, o2 + j * 5 + 4, none⟩ = some (.slice q2 r.P.length k2) ∧ Below wr.heap.size wr w')
        (first | (with_reducible exact S3) | (refine SV.of K3h.out ?_; (repeat (with_reducible first | assumption | exact Below.refl _ _ | refine Below.drew ?_ | refine belowAlloc ?_ _)); done))
        (first
          | (go_at_call 29; refine (OR.out _ (by (repeat (with_reducible first | assumption | exact Below.refl _ _ | refine Below.drew ?_ | refine belowAlloc ?_ _)))).mono ?_; rintro e w3 ⟨rfl, b3⟩; have d3 : Below wr.heap.size wr w3 := belowTrans (by (repeat (with_reducible first | assumption | exact Below.refl _ _ | refine Below.drew ?_ | refine belowAlloc ?_ _))) b3))
      have B3 := Lib.hid (HB.out.trans (d3.mono (by rw [← hYw.out]; exact HB.out.size)))
      have U3 := Lib.hid (HU.out.trans (d3.mono HU.out.size))
      clear d3 b3 S3 K3 K3h OR
      go_wp2_with fail
      go_roundw
      case rel => exact ⟨j + 1, by go_num, by omega, B3.out, U3.out⟩
      case measure => simp [intOf]; omega
    · have l1 : ¬ (j : Int) < (m : Int) := by omega
      go_wp2_with fail
      go_ret
      exact ⟨rfl, HB.out⟩
end Go.Proofs.Ytifdljdnpdefgaa
