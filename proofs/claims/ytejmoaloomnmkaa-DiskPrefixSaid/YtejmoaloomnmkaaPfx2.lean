/-
  THE DOCUMENT's FILES: Same of other files, Do of a Put.
-/
import Derived.Test.YtejmoaloomnmkaaPfx1
import Derived.Deep.RegionHeld3
namespace Go.Proofs.Ytejmoaloomnmkaa
open Go.RowKit
theorem ft_ext {l m : List FT} (h : l.length = m.length) (he : ∀ j (h1 : j < l.length) (h2 : j < m.length), l[j] = m[j]) : l = m := List.ext_getElem h (fun j h1 h2 => he j h1 h2)
set_option maxHeartbeats 4000000 in
set_option maxRecDepth 100000 in
theorem same_no (L1 L2 : List FT) (n1 n2 : Nat) (hn1 : L1.length = n1) (hn2 : L2.length = n2) (h4 : n1 ≤ 200001) (h5 : n2 ≤ 200001) (p q : Option Addr) (cp cq : Nat) (w : World) (T1 : Filed w p L1) (T2 : Filed w q L2) (hne : L1 ≠ L2) : Calls Try.prog 17 #[.slice p n1 cp, .slice q n2 cq] w fun e w' => e = .returned (.bool false) ∧ Below w.heap.size w w' := by
  by_cases hnn : n1 = n2
  · subst hnn
    have HN1 := Lib.hid hn1
    have HN2 := Lib.hid hn2
    have H1 := Lib.hid T1
    have H2 := Lib.hid T2
    have HNE := Lib.hid hne
    clear T1 T2 hn1 hn2 hne
    have hB0 := Lib.hid (Below.refl w.heap.size w)
    generalize hy : w.heap.size = Y at *
    go_enter Try.func17, Try.ntmps17
    go_wp2_with fail
    go_loopw [5] (fun i wq => ∃ k : Nat, i = .int .i64 k ∧ k ≤ n1 ∧ Below Y w wq ∧ Filed wq p L1 ∧ Filed wq q L2 ∧ Hid (∀ j, j < k → ∀ (h1 : j < L1.length) (h2 : j < L2.length), L1[j] = L2[j])) (fun i _ => n1 - (intOf i).toNat)
    case atStart => exact ⟨0, rfl, Nat.zero_le _, hB0.out, H1.out, H2.out, Lib.hid (fun j hj => absurd hj (Nat.not_lt_zero j))⟩
    case round =>
      obtain ⟨k, rfl, hk, hB, hT1, hT2, hall⟩ := hrel
      have HB := Lib.hid hB
      have HT1 := Lib.hid hT1
      have HT2 := Lib.hid hT2
      clear hB hT1 hT2
      by_cases hkn : k < n1
      · have hk1 : k < L1.length := by rw [HN1.out]; exact hkn
        have hk2 : k < L2.length := by rw [HN2.out]; exact hkn
        obtain ⟨g0, o, rfl, hg0, c0, c1⟩ := HT1.out k hk1
        obtain ⟨g1, o1, rfl, hg1, d0, d1⟩ := HT2.out k hk2
        have NX := Lib.hid (fun (h : L1[k] = L2[k]) => (show ∀ j, j < k + 1 → ∀ (h1 : j < L1.length) (h2 : j < L2.length), L1[j] = L2[j] from fun j hj h1 h2 => by
          by_cases e : j = k
          · subst e; exact h
          · exact hall.out j (by omega) h1 h2))
        generalize L1[k] = x at *
        generalize L2[k] = y at *
        obtain ⟨xn, xs⟩ := x
        obtain ⟨yn, ys⟩ := y
        simp only at c0 c1 d0 d1
        clear hk1 hk2 hall
        by_cases e : xn = yn ∧ xs = ys
        · obtain ⟨rfl, rfl⟩ := e
          have NX2 := Lib.hid (NX.out rfl)
          clear NX
          go_upto_region 6 with fail
          go_quiet (fail)
          have B6h := Lib.hid (below_drewN HB.out nq)
          have T6h : Hid (Filed (wr.drewN nq) (some ⟨g0, o, none⟩) L1) := HT1
          have T6i : Hid (Filed (wr.drewN nq) (some ⟨g1, o1, none⟩) L2) := HT2
          clear c0 c1 d0 d1 HB HT1 HT2 hg0 hg1
          generalize wr.drewN nq = w6 at *
          go_wp2_with fail
          go_roundw
          case rel => exact ⟨k + 1, by go_num, by omega, B6h.out, T6h.out, T6i.out, NX2⟩
          case measure => simp [intOf]; omega
        · have e1 : (xn.toList == yn.toList) = decide (xn = yn) := str_eq xn yn
          have e2 : (xs.toList == ys.toList) = decide (xs = ys) := str_eq xs ys
          have e3 : ((xn.toList == yn.toList) = false ∧ True) ∨ ((xn.toList == yn.toList) = true ∧ (xs.toList == ys.toList) = false) := by
            by_cases h : xn = yn
            · exact .inr ⟨by rw [e1]; exact decide_eq_true h, by rw [e2]; exact decide_eq_false (fun h2 => e ⟨h, h2⟩)⟩
            · exact .inl ⟨by rw [e1]; exact decide_eq_false h, trivial⟩
          clear e e1 e2 NX
          rcases e3 with ⟨e1, _⟩ | ⟨e1, e2⟩
          all_goals
            go_upto_region 6 with fail
            go_quiet (fail)
            have B6h := Lib.hid (below_drewN HB.out nq)
            clear c0 c1 d0 d1 HB HT1 HT2 hg0 hg1
            generalize wr.drewN nq = w6 at *
            go_wp2_with fail
            go_ret
            exact ⟨rfl, B6h.out⟩
      · obtain rfl : k = n1 := by omega
        exact absurd (ft_ext (by rw [HN1.out, HN2.out]) (fun j h1 h2 => hall.out j (by rw [HN1.out] at h1; exact h1) h1 h2)) HNE.out
  · have hnn' : ((n1 : Int) == (n2 : Int)) = false := by simp; omega
    have hnn2 : ((n1 : Int) != (n2 : Int)) = true := by simp; omega
    go_enter Try.func17, Try.ntmps17
    go_wp2_with fail
    go_ret
    exact ⟨rfl, Below.refl _ _⟩
/-- a Put, as the document does it -/
theorem put_text {g : List UInt8} {a : Nat} {s : ByteArray} (hlt : ¬ a + s.size < g.length) : (str g).extract 0 a ++ s = str (splice g a (bl s)) := by
  have e : bl ((str g).extract 0 a ++ s) = splice g a (bl s) := by
    unfold splice
    rw [List.drop_of_length_le (by rw [bl_len]; omega), List.append_nil]
    unfold bl str
    simp [ByteArray.data_append, ByteArray.data_extract]
  rw [← e, str_bl]
theorem put_text2 {g : List UInt8} {a : Nat} {s : ByteArray} (_hlt : a + s.size < g.length) : ((str g).extract 0 a ++ s) ++ (str g).extract (a + s.size) g.length = str (splice g a (bl s)) := by
  have e : bl (((str g).extract 0 a ++ s) ++ (str g).extract (a + s.size) g.length) = splice g a (bl s) := by
    unfold splice
    unfold bl str
    simp [ByteArray.data_append, ByteArray.data_extract]
    exact List.take_of_length_le (by rw [List.length_drop]; exact Nat.le_refl _)
  rw [← e, str_bl]
theorem str_size (l : List UInt8) : (str l).size = l.length := by unfold str; simp [ByteArray.size]
theorem without_few (fs : Fm) (f : Nm) : (withoutL (filesF fs) f).length ≤ fs.length := Nat.le_trans (without_len _ _) (Nat.le_of_eq (filesF_len fs))
theorem below_drew1 {B : Nat} {a w : World} (h : Below B a w) : Below B a w.drew := ⟨h.os, h.tape, h.output, h.size, h.block⟩
set_option maxHeartbeats 8000000 in
set_option maxRecDepth 100000 in
/-- the document's Do of a Put, at the files of a disk -/
theorem rdo_put (fs : Fm) (hu : Uniq fs) (n : Nat) (hn : (filesF fs).length = n) (hn4 : n ≤ 100000) (p : Option Addr) (cp : Nat) (f : Nm) (a : Nat) (s : ByteArray) (w : World) (T : Filed w p (filesF fs)) (_hf : f.size ≤ 64) (ha : a ≤ (gl fs f).length) (hg : (gl fs f).length ≤ 4194304) (hs : s.size ≤ 4194304) :
    Calls Try.prog 18 #[.slice p n cp, .agg #[.int .i64 0, .string f, .int .i64 a, .string s]] w (Filesd w (filesF ((Chg.put f a s).doF fs))) := by
  obtain ⟨w0, hw0, N0, b0⟩ : ∃ w0, w0 = w.alloc (.cells #[.int .i64 0, .string f, .int .i64 a, .string s] 41) ∧ Blk w0 w.heap.size 41 #[.int .i64 0, .string f, .int .i64 a, .string s] ∧ Below w.heap.size w w0 := ⟨_, rfl, Blk.new w 41 _, (Below.refl _ w).alloc (Nat.le_refl _) _⟩
  have T0 := T.below b0
  have GC := Lib.hid (rget_any (filesF fs) n hn hn4 p cp f w0 T0)
  rw [getL_files] at GC
  have HPUT := Lib.hid (with_put hu f (splice (gl fs f) a (bl s)))
  have hz := str_size (gl fs f)
  have PT1 := Lib.hid (fun h => put_text (g := gl fs f) (a := a) (s := s) h)
  have PT2 := Lib.hid (fun h => put_text2 (g := gl fs f) (a := a) (s := s) h)
  obtain ⟨W0n, hWL⟩ : ∃ m, (withoutL (filesF fs) f).length = m := ⟨_, rfl⟩
  have hWl := without_few fs f
  rw [hWL] at hWl
  have hfl : fs.length = n := by rw [← hn, filesF_len]
  have WO := Lib.hid (fun W (b : Below w0.heap.size w0 W) => (show Calls Try.prog 41 #[.slice p n cp, .string f] W fun e w' => ∃ p3 cp3, e = .returned (.slice p3 W0n cp3) ∧ Filed w' p3 (withoutL (filesF fs) f) ∧ Below W.heap.size W w' from (without_any (filesF fs) n hn hn4 p cp f W (T0.below b)).mono fun e w' ⟨p3, cp3, h1, h2, h3, _⟩ => ⟨p3, cp3, by rw [h1, hWL], h2, h3⟩))
  have WI := Lib.hid (fun t W p2 cp2 T2 => with_any (withoutL (filesF fs) f) W0n hWL (by omega) p2 cp2 f t W T2)
  have HRES := Lib.hid (show filesF ((Chg.put f a s).doF fs) = filesF (put fs f (splice (gl fs f) a (bl s))) from rfl)
  obtain ⟨R, hR⟩ : ∃ R, filesF ((Chg.put f a s).doF fs) = R := ⟨_, rfl⟩
  have HR := Lib.hid hR
  rw [hR]
  rw [← HRES.out] at HPUT
  rw [hR] at HPUT
  obtain ⟨G, hG⟩ : ∃ G, str (gl fs f) = G := ⟨_, rfl⟩
  rw [hG] at GC PT1 PT2 hz
  obtain ⟨SP, hSP⟩ : ∃ SP, str (splice (gl fs f) a (bl s)) = SP := ⟨_, rfl⟩
  rw [hSP] at PT1 PT2 HPUT
  rw [← hz] at ha hg PT1 PT2
  have N0h := Lib.hid N0
  have W0 := Lib.hid hw0
  have B0 := Lib.hid b0
  have y1 : w0.cell? ⟨w.heap.size, 1, none⟩ = some (.string f) := N0.cell 1
  have y0 : w0.cell? ⟨w.heap.size, 0, none⟩ = some (.int .i64 0) := N0.cell 0
  have y2 : w0.cell? ⟨w.heap.size, 2, none⟩ = some (.int .i64 a) := N0.cell 2
  have y3 : w0.cell? ⟨w.heap.size, 3, none⟩ = some (.string s) := N0.cell 3
  have hX1 : w.heap.size < w0.heap.size := N0.lt
  clear T hn hw0 N0 b0 T0 hu hWL hfl hR hG hSP hz HRES
  generalize hy : w.heap.size = X at *
  go_enter Try.func18, Try.ntmps18
  go_wp2_with fail
  rw [← W0.out]
  refine (GC.out).mono ?_
  rintro e w1 ⟨b, rfl, rfl⟩
  have ov : ¬ (9223372036854775807 < (G.extract 0 a).size + s.size) := by rw [ByteArray.size_extract]; omega
  have hai : (a : Int) ≤ (G.size : Int) := by omega
  go_upto_region 3 with fail
  go_quiet (fail)
  have B1 := Lib.hid (below_drewN (Below.refl w0.heap.size w0) nq)
  have BX := Lib.hid (below_drewN B0.out nq)
  have x1 : (w0.drewN nq).cell? ⟨X, 1, none⟩ = some (.string f) := y1
  have hX2 : X < (w0.drewN nq).heap.size := hX1
  clear y0 y1 y2 y3
  have hts : (G.extract 0 a ++ s).size = a + s.size := by rw [ByteArray.size_append, ByteArray.size_extract]; omega
  by_cases hlt : a + s.size < G.size
  · have PT := Lib.hid (PT2.out hlt)
    have ht1 : (G.extract 0 a ++ s).size < G.size := by omega
    have ht2 : decide ((G.extract 0 a ++ s).size < G.size) = true := decide_eq_true ht1
    rw [← hts] at PT
    have ov2 : ¬ (9223372036854775807 < (G.extract 0 a ++ s).size + (G.extract (G.extract 0 a ++ s).size G.size).size) := by rw [ByteArray.size_extract]; omega
    have x2 := x1
    clear PT1 PT2 hts ov hai hlt
    generalize w0.drewN nq = w2 at *
    generalize G.extract 0 a ++ s = t at *
    go_upto_region 6 with fail
    rw [PT.out]
    go_wp2_with fail
    have IR := Lib.hid (WI.out SP)
    rw [HPUT.out] at IR
    go_region_held3 (fun w' => w'.cell? ⟨X, 1, none⟩ = some (.string f))
      (first | assumption | exact x3 | exact x4)
      (first
        | (go_at_call 41; refine (WO.out _ (below_drew1 B1.out)).mono ?_; rintro e w3 ⟨p3, cp3, rfl, F3, b3⟩; have F3h := Lib.hid F3; have B3 : Hid (Below X w w3) := Lib.hid (BX.out.drew.trans (b3.mono (by have := BX.out.size; show X ≤ w2.heap.size; omega))); have x3 : w3.cell? ⟨X, 1, none⟩ = some (.string f) := by { rw [b3.cell (p := ⟨X, _, none⟩) (by show X < w2.heap.size; exact hX2)]; exact x2 }; have hX3 : X < w3.heap.size := Nat.lt_of_lt_of_le hX2 b3.size; clear b3 F3)
        | (go_at_call 40; refine (IR.out _ _ _ F3h.out).mono ?_; rintro e w4 ⟨p4, cp4, rfl, F4, b4, q4⟩; have F4h := Lib.hid F4; have B4 : Hid (Below X w w4) := Lib.hid (B3.out.trans (b4.mono (by omega))); have Q4 : Hid (∀ ad : Addr, p4 = some ad → X ≤ ad.block) := Lib.hid (fun ad h => Nat.le_trans (by omega) (q4 ad h)); have x4 : w4.cell? ⟨X, 1, none⟩ = some (.string f) := by { rw [b4.cell (p := ⟨X, _, none⟩) hX3]; exact x3 }; clear b4 F4 q4))
    all_goals
      go_wp2_with fail
      go_ret
      exact ⟨p4, cp4, rfl, F4h.out, hy ▸ B4.out, hy ▸ Q4.out⟩
  · have PT := Lib.hid (PT1.out hlt)
    have ht1 : ¬ (G.extract 0 a ++ s).size < G.size := by omega
    have ht2 : decide ((G.extract 0 a ++ s).size < G.size) = false := decide_eq_false ht1
    have x2 := x1
    clear PT1 PT2 hts ov hai hlt
    generalize w0.drewN nq = w2 at *
    generalize G.extract 0 a ++ s = t at *
    go_upto_region 6 with fail
    rw [PT.out]
    go_wp2_with fail
    have IR := Lib.hid (WI.out SP)
    rw [HPUT.out] at IR
    go_region_held3 (fun w' => w'.cell? ⟨X, 1, none⟩ = some (.string f))
      (first | assumption | exact x3 | exact x4)
      (first
        | (go_at_call 41; refine (WO.out _ (below_drew1 B1.out)).mono ?_; rintro e w3 ⟨p3, cp3, rfl, F3, b3⟩; have F3h := Lib.hid F3; have B3 : Hid (Below X w w3) := Lib.hid (BX.out.drew.trans (b3.mono (by have := BX.out.size; show X ≤ w2.heap.size; omega))); have x3 : w3.cell? ⟨X, 1, none⟩ = some (.string f) := by { rw [b3.cell (p := ⟨X, _, none⟩) (by show X < w2.heap.size; exact hX2)]; exact x2 }; have hX3 : X < w3.heap.size := Nat.lt_of_lt_of_le hX2 b3.size; clear b3 F3)
        | (go_at_call 40; refine (IR.out _ _ _ F3h.out).mono ?_; rintro e w4 ⟨p4, cp4, rfl, F4, b4, q4⟩; have F4h := Lib.hid F4; have B4 : Hid (Below X w w4) := Lib.hid (B3.out.trans (b4.mono (by omega))); have Q4 : Hid (∀ ad : Addr, p4 = some ad → X ≤ ad.block) := Lib.hid (fun ad h => Nat.le_trans (by omega) (q4 ad h)); have x4 : w4.cell? ⟨X, 1, none⟩ = some (.string f) := by { rw [b4.cell (p := ⟨X, _, none⟩) hX3]; exact x3 }; clear b4 F4 q4))
    all_goals
      go_wp2_with fail
      go_ret
      exact ⟨p4, cp4, rfl, F4h.out, hy ▸ B4.out, hy ▸ Q4.out⟩
end Go.Proofs.Ytejmoaloomnmkaa
