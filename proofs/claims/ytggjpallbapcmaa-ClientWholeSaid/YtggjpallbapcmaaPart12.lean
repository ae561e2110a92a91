/-
  WHAT THE ROWS REST ON, part 12: Rdu Ord Rlp.
-/
import Derived.BigQuiet
import Derived.Deep.QuietTactic
import Derived.Test.YtggjpallbapcmaaPart11
/-
  THE DOCUMENT's READER IS TOLD: it takes matches.
-/
namespace Go.Proofs.Ytggjpallbapcmaa
open Go.RowKit
theorem info3' : (Try.prog.info? 3).map (fun i => (i.zero, i.size, i.bytes)) = some (some (.int .i64 0), 1, 8) := by kernel_rfl
theorem one_int (x : Int) : ∀ u ∈ ([.int .i64 x] : List Value), u.oneCell' = true := by
  intro u hu
  rw [List.mem_singleton.1 hu]; rfl
theorem map_fst_numb : ∀ (a : Int) (l : List (List Int)), (numb a l).map (·.2) = l
  | _, [] => rfl
  | a, x :: l => by show x :: (numb (a + 1) l).map (·.2) = x :: l; rw [map_fst_numb]
set_option maxHeartbeats 8000000 in
set_option maxRecDepth 100000 in
theorem rtold_take {w : World} {V : Nat → Prop} {nodes to at_ gone : Int} {an ag : Option Addr} {cn cg : Nat} {LG : List (Int × List Int)} {a : Option Addr} {LL : List (List Int)} (c : Nat) (n : Int) (h : DocA w V an ag LG) (hV : ∀ q, V q → q < w.heap.size) (hR : RwsD w V a LL)
    (hl : LL.length ≤ 20) (hg : LG.length ≤ 5000) (ha : 0 ≤ at_) (hn : n ≤ 9223372036854775807) (h1 : n - at_ = (LL.length : Int)) :
    Calls Try.prog 19 #[docV nodes to at_ gone (.slice an LG.length cn) (.slice ag LG.length cg), .slice a LL.length c, .int .i64 n, .int .i64 0] w (DocR w V nodes to n gone (LG ++ numb at_ LL)) := by
  obtain ⟨i3, gi, gz0, gz1, gz2⟩ := info_parts info3'
  obtain ⟨i55, hi, hz0, hz1, hz2⟩ := info_parts info55
  obtain ⟨w1, hw1, K1, Z1, B1, hs1⟩ := boxes58 w nodes to at_ gone (.slice an LG.length cn) (.slice ag LG.length cg)
  have W1 := Lib.hid hw1
  have hV1 : Hid (∀ q, V q → q < w1.heap.size) := Lib.hid (fun q hq => by have := hV q hq; omega)
  have T0 : Hid (TwoA w1 w1 V [] [] (.slice none 0 0) (.slice none 0 0) []) := Lib.hid ⟨World.ownsRow_nil _ _ _ _, World.ownsRow_nil _ _ _ _, celD_nil _ _, Below.refl _ _⟩
  have KK := Lib.hid (fun (wr : World) (b : Below w1.heap.size w1 wr) => K1.below b)
  have ZZ := Lib.hid (fun (wr : World) (b : Below w1.heap.size w1 wr) => Z1.below b)
  have NN := Lib.hid (fun (wr : World) (b : Below w1.heap.size w1 wr) => (h.n.next B1).next b)
  have GG := Lib.hid (fun (wr : World) (b : Below w1.heap.size w1 wr) => (h.g.next B1).next b)
  have RR := Lib.hid (fun (wr : World) (b : Below w1.heap.size w1 wr) => (hR.next B1).next b)
  have BB := Lib.hid B1
  obtain ⟨r, hr⟩ : ∃ r, r = LG.length := ⟨_, rfl⟩
  obtain ⟨m, hm⟩ : ∃ m, m = LL.length := ⟨_, rfl⟩
  have HR := Lib.hid hr
  have HM := Lib.hid hm
  have F9 : Hid (∀ w9 va ca vb cb cs, TwoA w1 w9 V ((LG ++ numb at_ LL).map (·.1)) ((LG ++ numb at_ LL).map (·.2)) (.slice va (r + m) ca) (.slice vb (r + m) cb) cs →
      ∀ x0 x1 x2 y0 y1 y2 y3 y4 y5, DocR w V nodes to n gone (LG ++ numb at_ LL) (.returned (docV nodes to n gone (.slice va (r + m) ca) (.slice vb (r + m) cb))) ((((((((( w9.setCell ⟨w.heap.size, 4, none⟩ x0).setCell ⟨w.heap.size, 5, none⟩ x1).setCell ⟨w.heap.size, 2, none⟩ x2).setCell ⟨w.heap.size + 1, 0, none⟩ y0).setCell ⟨w.heap.size + 1, 1, none⟩ y1).setCell ⟨w.heap.size + 1, 2, none⟩ y2).setCell ⟨w.heap.size + 1, 3, none⟩ y3).setCell ⟨w.heap.size + 1, 4, none⟩ y4).setCell ⟨w.heap.size + 1, 5, none⟩ y5)) := Lib.hid (by
    intro w9 va ca vb cb cs T x0 x1 x2 y0 y1 y2 y3 y4 y5
    have ln : (LG ++ numb at_ LL).length = r + m := by rw [List.length_append, numb_len, hr, hm]
    have b1 : Below w.heap.size w w9 := BB.out.trans (T.rows.b.mono (by omega))
    have fx : Fr w9 ((((((((( w9.setCell ⟨w.heap.size, 4, none⟩ x0).setCell ⟨w.heap.size, 5, none⟩ x1).setCell ⟨w.heap.size, 2, none⟩ x2).setCell ⟨w.heap.size + 1, 0, none⟩ y0).setCell ⟨w.heap.size + 1, 1, none⟩ y1).setCell ⟨w.heap.size + 1, 2, none⟩ y2).setCell ⟨w.heap.size + 1, 3, none⟩ y3).setCell ⟨w.heap.size + 1, 4, none⟩ y4).setCell ⟨w.heap.size + 1, 5, none⟩ y5) (fun q => q = w.heap.size ∨ q = w.heap.size + 1) :=
      ((((((((((Fr.refl w9 _).set _ 4 x0 (.inl (.inl rfl))).set _ 5 x1 (.inl (.inl rfl))).set _ 2 x2 (.inl (.inl rfl))).set _ 0 y0 (.inl (.inr rfl))).set _ 1 y1 (.inl (.inr rfl))).set _ 2 y2 (.inl (.inr rfl))).set _ 3 y3 (.inl (.inr rfl))).set _ 4 y4 (.inl (.inr rfl))).set _ 5 y5 (.inl (.inr rfl)))
    have lmap1 : ((LG ++ numb at_ LL).map (·.1)).length = r + m := by rw [List.length_map, ln]
    have lmap2 : ((LG ++ numb at_ LL).map (·.2)).length = r + m := by rw [List.length_map, ln]
    have nA : NumsD w9 (fun q => V q ∨ w1.heap.size ≤ q) va ((LG ++ numb at_ LL).map (·.1)) := nums_own T.ints (fun q hq => .inr hq)
    have gA : RwsD w9 (fun q => V q ∨ w1.heap.size ≤ q) vb ((LG ++ numb at_ LL).map (·.2)) := T.rows.cel.rws T.rows.own (fun _ hq => .inl hq) (fun _ hq => .inr hq)
    have hP : ∀ q, (V q ∨ w1.heap.size ≤ q) → ¬ (q = w.heap.size ∨ q = w.heap.size + 1) := fun q hq hh => by
      rcases hq with hq | hq
      · have := hV q hq; omega
      · omega
    refine ⟨va, ca, vb, cb, by rw [ln], (nA.fr fx hP).mono (fun q hq => ?_), (gA.fr fx hP).mono (fun q hq => ?_), b1.trans (fx.below (fun q hq => by omega) b1.size)⟩
    · rcases hq with hq | hq
      · exact .inl hq
      · right; omega
    · rcases hq with hq | hq
      · exact .inl hq
      · right; omega)
  have hw : wrap64 (n - at_) = n - at_ := by unfold wrap64; omega
  have hd1 : decide (at_ ≤ n) = true := decide_eq_true (by omega)
  have hd2 : (n - at_ == (m : Int)) = true := by rw [beq_iff_eq, hm]; exact h1
  have hn2 : at_ + (m : Int) = n := by rw [hm]; omega
  rw [← hr] at W1 hg KK ⊢
  rw [← hm] at hl ⊢
  unfold docV at F9 ⊢
  generalize DocR w V nodes to n gone (LG ++ numb at_ LL) = Q at *
  clear K1 Z1 B1 hw1 h hV hR h1 hr hm
  have hlI : (m : Int) ≤ 20 := by omega
  have hgI : (r : Int) ≤ 5000 := by omega
  generalize hy : w.heap.size = Y at *
  go_enter Try.func19, Try.ntmps19
  go_wp2_with fail
  rw [← W1.out]
  go_loopw [9, 10, 11] (fun va vb i wr => ∃ (j : Nat) (cs : List Value), i = .int .i64 j ∧ j ≤ r ∧ Hid (TwoA w1 wr V ((LG.take j).map (·.1)) ((LG.take j).map (·.2)) va vb cs))
    (fun va vb i wr => r - (intOf i).toNat)
  case atStart => exact ⟨0, [], rfl, Nat.zero_le _, T0⟩
  case round =>
    obtain ⟨j, cs, rfl, hj, hR⟩ := hrel
    clear T0
    have l1 : ((LG.take j).map (·.1)).length = j := by rw [List.length_map, List.length_take, Nat.min_eq_left (by rw [← HR.out]; exact hj)]
    have l2 : ((LG.take j).map (·.2)).length = j := by rw [List.length_map, List.length_take, Nat.min_eq_left (by rw [← HR.out]; exact hj)]
    have O1 := hR.out.ints
    have O2 := hR.out.rows.own
    rw [l1] at O1
    rw [l2] at O2
    obtain ⟨va, ca, rfl⟩ := own_slice O1
    obtain ⟨vb, cb, rfl⟩ := own_slice O2
    have k4 : wr.cell? ⟨Y, 4, none⟩ = some (.slice an r cn) := (KK.out wr hR.out.rows.b).cell 4
    by_cases hjn : j < r
    · have jI : (j : Int) < (r : Int) := by omega
      have jB := decide_eq_true jI
      have hjL : j < LG.length := by rw [← HR.out]; exact hjn
      obtain ⟨x, hx⟩ : ∃ x, x = LG[j]'hjL := ⟨_, rfl⟩
      have hTk : LG.take (j + 1) = LG.take j ++ [x] := by rw [hx]; exact List.take_succ_eq_append_getElem hjL
      have hm1 : (LG.take (j + 1)).map (·.1) = (LG.take j).map (·.1) ++ [x.1] := by rw [hTk]; simp
      have hm2 : (LG.take (j + 1)).map (·.2) = (LG.take j).map (·.2) ++ [x.2] := by rw [hTk]; simp
      obtain ⟨gn, on, rfl, hgn, cn1⟩ := (NN.out wr hR.out.rows.b).1 j (by rw [List.length_map]; exact hjL)
      rw [show (LG.map (·.1))[j]'(by rw [List.length_map]; exact hjL) = x.1 by rw [hx]; simp] at cn1
      have GR : Hid (∀ w3, Below w1.heap.size w1 w3 → ∃ gg og q cq, ag = some ⟨gg, og, none⟩ ∧ w3.cell? ⟨gg, og + j, none⟩ = some (.slice q x.2.length cq) ∧ NumsD w3 V q x.2) := Lib.hid (fun w3 b => by
        obtain ⟨gg, og, q, cq, e, _, _, ck, nn⟩ := (GG.out w3 b) j (by rw [List.length_map]; exact hjL)
        have e2 : (LG.map (·.2))[j]'(by rw [List.length_map]; exact hjL) = x.2 := by rw [hx]; simp
        rw [e2] at ck nn
        exact ⟨gg, og, q, cq, e, ck, nn⟩)
      have PU1 := Lib.hid (fun (w4 : World) (v' : Value) (o : Obj) ho hg => hR.out.int (w4 := w4) (v' := v') (x := x.1) o hV1.out ho hg)
      rw [l1, ← hm1] at PU1
      have PU2 := Lib.hid (fun (w3 w4 : World) (v1 v' : Value) (o : Obj) (q : Option Addr) (cq : Nat) (T : TwoA w1 w3 V ((LG.take (j + 1)).map (·.1)) ((LG.take j).map (·.2)) v1 (.slice vb j cb) cs) hn ho hg => T.row (w4 := w4) (v' := v') (q := q) (c := cq) (xs := x.2) o hV1.out hn ho hg)
      rw [l2, ← hm2] at PU2
      have OWI := Lib.hid O1
      have OWR := Lib.hid (fun (w3 : World) (v1 : Value) (T : TwoA w1 w3 V ((LG.take (j + 1)).map (·.1)) ((LG.take j).map (·.2)) v1 (.slice vb j cb) cs) => T.rows.own)
      rw [l2] at OWR
      have OWJ := Lib.hid (fun (w3 : World) (v1 : Value) (T : TwoA w1 w3 V ((LG.take (j + 1)).map (·.1)) ((LG.take j).map (·.2)) v1 (.slice vb j cb) cs) => T.ints)
      have hbs := hR.out.rows.b.size
      clear hR O1 O2 l1 l2 hTk hm1 hm2 hx hgn
      obtain ⟨xn, xg⟩ := x
      simp only at cn1 GR PU1 PU2
      generalize hmI : ((LG.take j).map (·.1)).map (Value.int .i64) = mI at *
      generalize xg.length = mm at *
      go_wp2_with (at_builtin; (first
        | (refine wpList_append_own _ rfl _ _ 55 rfl w1.heap.size 3 i3 (.int .i64 0) 1 8 Try.underlying55 gi gz0 gz1 gz2 rfl (by decide) (.slice va j ca) j mI rfl (OWI.out.alloc _) ⟨wr.heap.size, 0, none⟩ 1 1 [.int .i64 xn] rfl rfl (World.news_of_block (cs := #[.int .i64 xn]) (heap_alloc_new wr _)) (one_int xn) (by unfold maxLen; omega) (by omega) (by simp; omega) ?_; intro v3 w3 ho hg2 _; have T3 := Lib.hid (PU1.out w3 v3 _ ho hg2); obtain ⟨va3, ca3, rfl⟩ := own_slice ho; have k5 : w3.cell? ⟨Y, 5, none⟩ = some (.slice ag r cg) := (KK.out w3 T3.out.rows.b).cell 5; obtain ⟨gg, og, q, cq, rfl, ck, nn⟩ := GR.out w3 T3.out.rows.b; have nn3 := Lib.hid nn; have OW3 := Lib.hid (OWR.out w3 _ T3.out); have hb3 := T3.out.rows.b.size; clear ho hg2 nn)
        | (refine wpList_append_own _ rfl _ _ 56 rfl w1.heap.size 55 i55 (.slice none 0 0) 1 24 Try.underlying56 hi hz0 hz1 hz2 rfl (by decide) (.slice vb j cb) j cs rfl (OW3.out.alloc _) ⟨w3.heap.size, 0, none⟩ 1 1 [.slice q mm cq] rfl rfl (World.news_of_block (cs := #[.slice q mm cq]) (heap_alloc_new w3 _)) (one_sl q mm cq) (by unfold maxLen; omega) (by omega) (by simp; omega) ?_; intro v4 w4 ho4 hg4 _; have T4 := Lib.hid (PU2.out w3 w4 _ v4 _ q cq T3.out nn3.out ho4 hg4); clear ho4 hg4)))
      go_roundw
      case rel => exact ⟨j + 1, _, by go_num, by omega, T4⟩
      case measure => simp [intOf]; omega
    · obtain rfl : j = r := by omega
      have jI : ¬ (j : Int) < (j : Int) := by omega
      have hT : LG.take j = LG := List.take_of_length_le (Nat.le_of_eq HR.out.symm)
      have T1 : Hid (TwoA w1 wr V (LG.map (·.1)) (LG.map (·.2)) (.slice va j ca) (.slice vb j cb) cs) := Lib.hid (by have := hR.out; rw [hT] at this; exact this)
      clear hR O1 O2 l1 l2
      go_wp2_with fail
      clear k4 GG NN
      go_loopw [9, 10, 12] (fun va vb i wr => ∃ (j2 : Nat) (cs : List Value), i = .int .i64 j2 ∧ j2 ≤ m ∧ Hid (TwoA w1 wr V ((LG ++ numb at_ (LL.take j2)).map (·.1)) ((LG ++ numb at_ (LL.take j2)).map (·.2)) va vb cs))
        (fun va vb i wr => m - (intOf i).toNat)
      case atStart => exact ⟨0, cs, rfl, Nat.zero_le _, by simpa [numb] using T1⟩
      case round =>
        obtain ⟨j2, cs, rfl, hj2, hR⟩ := hrel
        clear T1
        have ln : (LG ++ numb at_ (LL.take j2)).length = j + j2 := by rw [List.length_append, numb_len, List.length_take, Nat.min_eq_left (by rw [← HM.out]; exact hj2), ← HR.out]
        have l1 : ((LG ++ numb at_ (LL.take j2)).map (·.1)).length = j + j2 := by rw [List.length_map, ln]
        have l2 : ((LG ++ numb at_ (LL.take j2)).map (·.2)).length = j + j2 := by rw [List.length_map, ln]
        have O1 := hR.out.ints
        have O2 := hR.out.rows.own
        rw [l1] at O1
        rw [l2] at O2
        obtain ⟨va, ca, rfl⟩ := own_slice O1
        obtain ⟨vb, cb, rfl⟩ := own_slice O2
        have k2 : wr.cell? ⟨Y, 2, none⟩ = some (.int .i64 at_) := (KK.out wr hR.out.rows.b).cell 2
        by_cases hjn2 : j2 < m
        · have jI2 : (j2 : Int) < (m : Int) := by omega
          have jB2 := decide_eq_true jI2
          have hjL2 : j2 < LL.length := by rw [← HM.out]; exact hjn2
          obtain ⟨x, hx⟩ : ∃ x, x = LL[j2]'hjL2 := ⟨_, rfl⟩
          have hTk : numb at_ (LL.take (j2 + 1)) = numb at_ (LL.take j2) ++ [(at_ + (j2 : Int), x)] := by rw [hx]; exact numb_take hjL2
          have hm1 : (LG ++ numb at_ (LL.take (j2 + 1))).map (·.1) = (LG ++ numb at_ (LL.take j2)).map (·.1) ++ [at_ + (j2 : Int)] := by rw [hTk, ← List.append_assoc]; simp
          have hm2 : (LG ++ numb at_ (LL.take (j2 + 1))).map (·.2) = (LG ++ numb at_ (LL.take j2)).map (·.2) ++ [x] := by rw [hTk, ← List.append_assoc]; simp
          have GR : Hid (∀ w3, Below w1.heap.size w1 w3 → ∃ gg og q cq, a = some ⟨gg, og, none⟩ ∧ w3.cell? ⟨gg, og + j2, none⟩ = some (.slice q x.length cq) ∧ NumsD w3 V q x) := Lib.hid (fun w3 b => by
            obtain ⟨gg, og, q, cq, e, _, _, ck, nn⟩ := (RR.out w3 b) j2 hjL2
            rw [← hx] at ck nn
            exact ⟨gg, og, q, cq, e, ck, nn⟩)
          have PU1 := Lib.hid (fun (w4 : World) (v' : Value) (o : Obj) ho hg => hR.out.int (w4 := w4) (v' := v') (x := at_ + (j2 : Int)) o hV1.out ho hg)
          rw [l1, ← hm1] at PU1
          have PU2 := Lib.hid (fun (w3 w4 : World) (v1 v' : Value) (o : Obj) (q : Option Addr) (cq : Nat) (T : TwoA w1 w3 V ((LG ++ numb at_ (LL.take (j2 + 1))).map (·.1)) ((LG ++ numb at_ (LL.take j2)).map (·.2)) v1 (.slice vb (j + j2) cb) cs) hn ho hg => T.row (w4 := w4) (v' := v') (q := q) (c := cq) (xs := x) o hV1.out hn ho hg)
          rw [l2, ← hm2] at PU2
          have OWI := Lib.hid O1
          have OWR := Lib.hid (fun (w3 : World) (v1 : Value) (T : TwoA w1 w3 V ((LG ++ numb at_ (LL.take (j2 + 1))).map (·.1)) ((LG ++ numb at_ (LL.take j2)).map (·.2)) v1 (.slice vb (j + j2) cb) cs) => T.rows.own)
          rw [l2] at OWR
          have hbs := hR.out.rows.b.size
          have hwr : wrap64 (at_ + (j2 : Int)) = at_ + (j2 : Int) := by unfold wrap64; omega
          have hjj : j + j2 ≤ 5020 := by omega
          clear hR O1 O2 l1 l2 ln hTk hm1 hm2 hx
          generalize hmI : ((LG ++ numb at_ (LL.take j2)).map (·.1)).map (Value.int .i64) = mI at *
          generalize x.length = mm at *
          generalize j + j2 = jj at *
          go_wp2_with (at_builtin; (first
            | (refine wpList_append_own _ rfl _ _ 55 rfl w1.heap.size 3 i3 (.int .i64 0) 1 8 Try.underlying55 gi gz0 gz1 gz2 rfl (by decide) (.slice va jj ca) jj mI rfl (OWI.out.alloc _) ⟨wr.heap.size, 0, none⟩ 1 1 [.int .i64 (at_ + (j2 : Int))] rfl rfl (World.news_of_block (cs := #[.int .i64 (at_ + (j2 : Int))]) (heap_alloc_new wr _)) (one_int _) (by unfold maxLen; omega) (by omega) (by simp; omega) ?_; intro v3 w3 ho hg2 _; have T3 := Lib.hid (PU1.out w3 v3 _ ho hg2); obtain ⟨va3, ca3, rfl⟩ := own_slice ho; obtain ⟨gg, og, q, cq, rfl, ck, nn⟩ := GR.out w3 T3.out.rows.b; have nn3 := Lib.hid nn; have OW3 := Lib.hid (OWR.out w3 _ T3.out); have hb3 := T3.out.rows.b.size; clear ho hg2 nn)
            | (refine wpList_append_own _ rfl _ _ 56 rfl w1.heap.size 55 i55 (.slice none 0 0) 1 24 Try.underlying56 hi hz0 hz1 hz2 rfl (by decide) (.slice vb jj cb) jj cs rfl (OW3.out.alloc _) ⟨w3.heap.size, 0, none⟩ 1 1 [.slice q mm cq] rfl rfl (World.news_of_block (cs := #[.slice q mm cq]) (heap_alloc_new w3 _)) (one_sl q mm cq) (by unfold maxLen; omega) (by omega) (by simp; omega) ?_; intro v4 w4 ho4 hg4 _; have T4 := Lib.hid (PU2.out w3 w4 _ v4 _ q cq T3.out nn3.out ho4 hg4); clear ho4 hg4)))
          go_roundw
          case rel => exact ⟨j2 + 1, _, by go_num, by omega, T4⟩
          case measure => simp [intOf]; omega
        · obtain rfl : j2 = m := by omega
          have jI2 : ¬ (j2 : Int) < (j2 : Int) := by omega
          have hT2 : LL.take j2 = LL := List.take_of_length_le (Nat.le_of_eq HM.out.symm)
          have F8 := Lib.hid (F9.out wr va ca vb cb cs (by have := hR.out; rw [hT2] at this; exact this))
          have KW := KK.out wr hR.out.rows.b
          have ZW := ZZ.out wr hR.out.rows.b
          have k0 : wr.cell? ⟨Y, 0, none⟩ = some (.int .i64 nodes) := KW.cell 0
          have k1 : wr.cell? ⟨Y, 1, none⟩ = some (.int .i64 to) := KW.cell 1
          have k3 : wr.cell? ⟨Y, 3, none⟩ = some (.int .i64 gone) := KW.cell 3
          have k4 : wr.cell? ⟨Y, 4, none⟩ = some (.slice an j cn) := KW.cell 4
          have k5 : wr.cell? ⟨Y, 5, none⟩ = some (.slice ag j cg) := KW.cell 5
          have fk : ∀ i, wr.frozen? ⟨Y, i, none⟩ = false := KW.free
          have z0 : wr.cell? ⟨Y + 1, 0, none⟩ = some (.int .i64 0) := ZW.cell 0
          have z1 : wr.cell? ⟨Y + 1, 1, none⟩ = some (.int .i64 0) := ZW.cell 1
          have z2 : wr.cell? ⟨Y + 1, 2, none⟩ = some (.int .i64 0) := ZW.cell 2
          have z3 : wr.cell? ⟨Y + 1, 3, none⟩ = some (.int .i64 0) := ZW.cell 3
          have z4 : wr.cell? ⟨Y + 1, 4, none⟩ = some (.slice none 0 0) := ZW.cell 4
          have z5 : wr.cell? ⟨Y + 1, 5, none⟩ = some (.slice none 0 0) := ZW.cell 5
          have fz : ∀ i, wr.frozen? ⟨Y + 1, i, none⟩ = false := ZW.free
          clear hR O1 O2 l1 l2 ln KK ZZ RR F9 KW ZW
          generalize j + j2 = jj at *
          go_wp2_with fail
          refine bodyPost_ret (by simp [results, Try.results19, go_sem, z0, z1, z2, z3, z4, z5]; try rfl) rfl ?_
          exact F8.out _ _ _ _ _ _ _ _ _
end Go.Proofs.Ytggjpallbapcmaa
/-
  THE DOCUMENT's Order OF TWO EQUAL LISTS.
-/
namespace Go.Proofs.Ytggjpallbapcmaa
open Go.RowKit
set_option maxHeartbeats 2000000 in
set_option maxRecDepth 100000 in
theorem order_same {w : World} {a b : Option Addr} {xs : List Int} (ca cb : Nat) (ha : Bk.Nums w a xs) (hb : Bk.Nums w b xs) (hl : xs.length ≤ 9223372036854775000) :
    Calls Try.prog 27 #[.slice a xs.length ca, .slice b xs.length cb] w fun e w' => e = .returned (.int .i64 0) ∧ Below w.heap.size w w' := by
  have HA := Lib.hid ha
  have HB := Lib.hid hb
  have B0 := Lib.hid (Below.refl w.heap.size w)
  have hlI : (xs.length : Int) ≤ 9223372036854775000 := by omega
  obtain ⟨n, hn⟩ : ∃ n, n = xs.length := ⟨_, rfl⟩
  have HN := Lib.hid hn
  rw [← hn] at hlI ⊢
  clear ha hb hl hn
  go_enter Try.func27, Try.ntmps27
  go_wp2_with fail
  go_loopw [5] (fun i wr => ∃ (j : Nat), i = .int .i64 j ∧ j ≤ n ∧ Hid (Below w.heap.size w wr)) (fun i wr => n - (intOf i).toNat)
  case atStart => exact ⟨0, rfl, Nat.zero_le _, B0⟩
  case round =>
    obtain ⟨j, rfl, hj, hB⟩ := hrel
    clear B0
    by_cases hjn : j < n
    · have jI : (j : Int) < (n : Int) := by omega
      have jB := decide_eq_true jI
      have hjL : j < xs.length := by rw [← HN.out]; exact hjn
      obtain ⟨ga, oa, rfl, hga, cka⟩ := HA.out j hjL
      obtain ⟨gb, ob, rfl, hgb, ckb⟩ := HB.out j hjL
      have ca' : ∀ d, (wr.drewN d).cell? ⟨ga, oa + j, none⟩ = some (.int .i64 xs[j]) := fun d => (hB.out.cell (p := ⟨ga, _, none⟩) hga).trans cka
      have cb' : ∀ d, (wr.drewN d).cell? ⟨gb, ob + j, none⟩ = some (.int .i64 xs[j]) := fun d => (hB.out.cell (p := ⟨gb, _, none⟩) hgb).trans ckb
      have ca0 : wr.cell? ⟨ga, oa + j, none⟩ = some (.int .i64 xs[j]) := (hB.out.cell (p := ⟨ga, _, none⟩) hga).trans cka
      have cb0 : wr.cell? ⟨gb, ob + j, none⟩ = some (.int .i64 xs[j]) := (hB.out.cell (p := ⟨gb, _, none⟩) hgb).trans ckb
      have BD := Lib.hid (fun d => drewB hB.out d)
      clear cka ckb hB
      generalize xs[j] = x at *
      go_wp2_with fail
      go_quiet (fail)
      go_wp2_with fail
      go_quiet (fail)
      go_wp2_with fail
      go_roundw
      case rel => exact ⟨j + 1, by go_num, by omega, Lib.hid (BD.out _)⟩
      case measure => simp [intOf]; omega
    · obtain rfl : j = n := by omega
      have jI : ¬ (j : Int) < (j : Int) := by omega
      go_wp2_with fail
      go_ret
      exact ⟨rfl, hB.out⟩
end Go.Proofs.Ytggjpallbapcmaa
/-
  BOTH READERS SIDE BY SIDE.
-/
namespace Go.Proofs.Ytggjpallbapcmaa
open Go.RowKit
/-- what a reader knows -/
structure RS where
  to : Int
  at_ : Int
  gone : Int
  LG : List (Int × List Int)
/-- a reader is told -/
def RS.told (nodes : Int) (LL : List (List Int)) (n e : Int) (s : RS) : RS :=
  if e = 0 ∧ s.at_ ≤ n ∧ n - s.at_ = (LL.length : Int) then ⟨s.to, n, s.gone, s.LG ++ numb s.at_ LL⟩
  else if e = 180 ∧ s.at_ < n then ⟨s.to, n, s.gone + (n - s.at_), s.LG⟩
  else ⟨nextN s.to nodes, s.at_, s.gone, s.LG⟩
structure RS.Ok (s : RS) (m : Nat) : Prop where
  to : 0 ≤ s.to ∧ s.to ≤ 7
  at_ : 0 ≤ s.at_ ∧ s.at_ ≤ 9223372036854775807
  gone : 0 ≤ s.gone ∧ s.gone ≤ s.at_
  n : s.LG.length ≤ m
  sm : ∀ x ∈ s.LG, x.2.length ≤ 17592186043904
theorem nextN_ok {to nodes : Int} (h : 0 ≤ to ∧ to ≤ 7) (hn : nodes ≤ 7) : 0 ≤ nextN to nodes ∧ nextN to nodes ≤ 7 := by
  unfold nextN; split <;> omega
theorem numb_small : ∀ (a : Int) (LL : List (List Int)), Small LL → ∀ x ∈ numb a LL, x.2.length ≤ 17592186043904
  | _, [], _, x, hx => by simp [numb] at hx
  | a, y :: l, h, x, hx => by
    rcases List.mem_cons.1 hx with rfl | hx
    · exact h y (List.mem_cons_self)
    · exact numb_small (a + 1) l (fun z hz => h z (List.mem_cons_of_mem _ hz)) x hx
theorem RS.Ok.told {s : RS} {m : Nat} {nodes n e : Int} {LL : List (List Int)} (h : s.Ok m) (hN : nodes ≤ 7) (hl : LL.length ≤ 20) (hS : Small LL) (hn : n ≤ 9223372036854775807) : (s.told nodes LL n e).Ok (m + 20) := by
  have h0 := h.at_
  have h1 := h.gone
  have h2 := h.n
  unfold RS.told
  split
  · rename_i c
    exact ⟨h.to, ⟨by show 0 ≤ n; omega, hn⟩, ⟨h1.1, by show s.gone ≤ n; omega⟩, by show (s.LG ++ numb s.at_ LL).length ≤ m + 20; rw [List.length_append, numb_len]; omega, fun x hx => by
      rcases List.mem_append.1 hx with hx | hx
      · exact h.sm x hx
      · exact numb_small _ _ hS x hx⟩
  · split
    · rename_i c
      exact ⟨h.to, ⟨by show 0 ≤ n; omega, hn⟩, ⟨by show 0 ≤ s.gone + (n - s.at_); omega, by show s.gone + (n - s.at_) ≤ n; omega⟩, by show s.LG.length ≤ m + 20; omega, h.sm⟩
    · exact ⟨nextN_ok h.to hN, h0, h1, by show s.LG.length ≤ m + 20; omega, h.sm⟩
theorem told_all {w : World} {U : Nat → Prop} {t : Nat} {nodes : Int} {nm : ByteArray} {most : Int} {s : RS} {m : Nat} {a : Option Addr} {LL : List (List Int)} (c : Nat) (n e : Int)
    (h : RdM w U t nodes s.to nm most s.at_ s.gone s.LG) (ok : s.Ok m) (hm : m ≤ 4900) (hN : nodes ≤ 7) (RW : ∀ w', Fr w w' U → Bk.Rws w' a LL) (hS : Small LL) (hl : LL.length ≤ 20) (hn : n ≤ 9223372036854775807) :
    Calls Try.prog 21 #[.pointer (some ⟨t, 0, none⟩), .slice a LL.length c, .int .i64 n, .int .i64 e] w fun r w' => r = .returned (.tuple #[]) ∧ Rch w U t nodes (s.told nodes LL n e).to nm most (s.told nodes LL n e).at_ (s.told nodes LL n e).gone (s.told nodes LL n e).LG w' := by
  have h0 := ok.at_
  have h1 := ok.gone
  have h2 := ok.n
  have h3 := ok.to
  unfold RS.told
  by_cases c1 : e = 0 ∧ s.at_ ≤ n ∧ n - s.at_ = (LL.length : Int)
  · rw [if_pos c1]
    obtain ⟨rfl, c2, c3⟩ := c1
    exact told_take c n h RW hS hl (by omega) h0.1 hn c3
  · rw [if_neg c1]
    by_cases c2 : e = 180 ∧ s.at_ < n
    · rw [if_pos c2]
      obtain ⟨rfl, c3⟩ := c2
      exact told_gone c n h ⟨h0.1, h1.1, h1.2⟩ hn c3
    · rw [if_neg c2]
      exact told_next c n e h ⟨h3.1, by omega⟩ (by omega) h0.1 hn (fun he hh => c1 ⟨he, hh.1, hh.2⟩) (fun he hh => c2 ⟨he, hh⟩)
theorem rtold_all {w : World} {V : Nat → Prop} {nodes : Int} {an ag : Option Addr} {cn cg : Nat} {s : RS} {m : Nat} {a : Option Addr} {LL : List (List Int)} (c : Nat) (n e : Int) (h : DocA w V an ag s.LG) (ok : s.Ok m) (hm : m ≤ 4900) (hV : ∀ q, V q → q < w.heap.size) (hR : RwsD w V a LL)
    (hl : LL.length ≤ 20) (hn : n ≤ 9223372036854775807) :
    Calls Try.prog 19 #[docV nodes s.to s.at_ s.gone (.slice an s.LG.length cn) (.slice ag s.LG.length cg), .slice a LL.length c, .int .i64 n, .int .i64 e] w (DocR w V nodes (s.told nodes LL n e).to (s.told nodes LL n e).at_ (s.told nodes LL n e).gone (s.told nodes LL n e).LG) := by
  have h0 := ok.at_
  have h1 := ok.gone
  have h2 := ok.n
  have h3 := ok.to
  unfold RS.told
  by_cases c1 : e = 0 ∧ s.at_ ≤ n ∧ n - s.at_ = (LL.length : Int)
  · rw [if_pos c1]
    obtain ⟨rfl, c2, c3⟩ := c1
    exact rtold_take c n h hV hR hl (by omega) h0.1 hn c3
  · rw [if_neg c1]
    by_cases c2 : e = 180 ∧ s.at_ < n
    · rw [if_pos c2]
      obtain ⟨rfl, c3⟩ := c2
      exact rtold_gone a LL.length c n h ⟨h0.1, h1.1, h1.2⟩ hn c3
    · rw [if_neg c2]
      exact rtold_next a LL.length c n e h ⟨h3.1, by omega⟩ h0.1 hn (fun he hh => c1 ⟨he, hh.1, hh.2⟩) (fun he hh => c2 ⟨he, hh⟩)
/-- the document's reader in its block -/
def boxD (nodes : Int) (s : RS) (an : Option Addr) (cn : Nat) (ag : Option Addr) (cg : Nat) : Array Value := #[.int .i64 nodes, .int .i64 s.to, .int .i64 s.at_, .int .i64 s.gone, .slice an s.LG.length cn, .slice ag s.LG.length cg]
/-- both readers: the program's at s, the document's at s2 -/
structure LRa (W0 w : World) (t bx : Nat) (nodes : Int) (nm : ByteArray) (most : Int) (U V : Nat → Prop) (s s2 : RS) (an : Option Addr) (cn : Nat) (ag : Option Addr) (cg : Nat) : Prop where
  rd : RdM w U t nodes s.to nm most s.at_ s.gone s.LG
  bk : Blk w bx 58 (boxD nodes s2 an cn ag cg)
  dc : DocA w V an ag s2.LG
  vl : ∀ q, V q → q < w.heap.size ∧ ¬ U q ∧ q ≠ bx
  va : ∀ q, q < W0.heap.size → V q
  ul : ∀ q, U q → W0.heap.size ≤ q
  ub : ¬ U bx
  bb : W0.heap.size ≤ bx
  b : Below W0.heap.size W0 w
def LR (W0 : World) (t bx : Nat) (nodes : Int) (nm : ByteArray) (most : Int) (s s2 : RS) (w : World) : Prop := ∃ U V an cn ag cg, LRa W0 w t bx nodes nm most U V s s2 an cn ag cg
section
variable {W0 w w' : World} {t bx : Nat} {nodes : Int} {nm : ByteArray} {most : Int} {U V : Nat → Prop} {s s2 : RS} {an : Option Addr} {cn : Nat} {ag : Option Addr} {cg : Nat}
theorem LRa.next (h : LRa W0 w t bx nodes nm most U V s s2 an cn ag cg) (b : Below w.heap.size w w') : LRa W0 w' t bx nodes nm most U V s s2 an cn ag cg :=
  ⟨h.rd.next b, h.bk.below b, h.dc.next b, fun q hq => ⟨Nat.lt_of_lt_of_le (h.vl q hq).1 b.size, (h.vl q hq).2⟩, h.va, h.ul, h.ub, h.bb, h.b.trans (b.mono h.b.size)⟩
theorem LR.next (h : LR W0 t bx nodes nm most s s2 w) (b : Below w.heap.size w w') : LR W0 t bx nodes nm most s s2 w' := by
  obtain ⟨U, V, an, cn, ag, cg, h⟩ := h
  exact ⟨U, V, an, cn, ag, cg, h.next b⟩
/-- the program's reader was told -/
theorem LRa.reader {s' : RS} (h : LRa W0 w t bx nodes nm most U V s s2 an cn ag cg) (k : Rch w U t nodes s'.to nm most s'.at_ s'.gone s'.LG w') : LR W0 t bx nodes nm most s' s2 w' := by
  obtain ⟨U', hr, f, hu⟩ := k
  have hbl := h.bk.lt
  refine ⟨U', V, an, cn, ag, cg, hr, h.bk.fr f h.ub, ⟨h.dc.n.fr f (fun q hq => (h.vl q hq).2.1), h.dc.g.fr f (fun q hq => (h.vl q hq).2.1)⟩, fun q hq => ⟨Nat.lt_of_lt_of_le (h.vl q hq).1 f.size, fun hh => ?_, (h.vl q hq).2.2⟩, h.va, fun q hq => ?_, fun hh => ?_, h.bb, h.b.trans (f.below h.ul h.b.size)⟩
  · rcases hu q hh with h1 | h1
    · exact (h.vl q hq).2.1 h1
    · have := (h.vl q hq).1; omega
  · rcases hu q hq with h1 | h1
    · exact h.ul q h1
    · have := h.b.size; omega
  · rcases hu bx hh with h1 | h1
    · exact h.ub h1
    · omega
/-- the document's reader was told: its answer is stored -/
theorem LRa.doc {s' : RS} {an' : Option Addr} {cn' : Nat} {ag' : Option Addr} {cg' : Nat} {w3 : World} (h : LRa W0 w t bx nodes nm most U V s s2 an cn ag cg)
    (b : Below w.heap.size w w') (n' : NumsD w' (fun q => V q ∨ w.heap.size ≤ q) an' (s'.LG.map (·.1))) (g' : RwsD w' (fun q => V q ∨ w.heap.size ≤ q) ag' (s'.LG.map (·.2)))
    (f : Fr w' w3 (fun q => q = bx)) (bk : Blk w3 bx 58 (boxD nodes s' an' cn' ag' cg')) : LR W0 t bx nodes nm most s s' w3 := by
  have hbl := h.bk.lt
  have hP : ∀ q, (V q ∨ w.heap.size ≤ q) → ¬ q = bx := fun q hq e => by
    rcases hq with hq | hq
    · exact (h.vl q hq).2.2 e
    · omega
  have hw := b.size
  have hw3 := f.size
  have ultop : ∀ q, U q → q < w.heap.size := by
    obtain ⟨gv, cs, A⟩ := h.rd
    exact A.ul
  refine ⟨U, fun q => V q ∨ (w.heap.size ≤ q ∧ q < w3.heap.size), an', cn', ag', cg', (h.rd.next b).fr f (fun q e hu => by subst e; exact h.ub hu), bk, ⟨?_, ?_⟩, fun q hq => ?_, fun q hq => .inl (h.va q hq), h.ul, h.ub, h.bb, (h.b.trans (b.mono h.b.size)).trans (f.below (fun q e => by subst e; exact h.bb) (Nat.le_trans h.b.size hw))⟩
  · have k := n'.fr f hP
    refine ⟨k.1, fun p e hx => ?_⟩
    rcases k.2 p e hx with hv | hv
    · exact .inl hv
    · refine .inr ⟨hv, ?_⟩
      obtain ⟨y, l, hyl⟩ := List.exists_cons_of_ne_nil hx
      obtain ⟨g, o, e2, hg, _⟩ := k.1 0 (by rw [hyl]; simp)
      rw [e2] at e; cases e; exact hg
  · have k := g'.fr f hP
    intro i hi
    obtain ⟨g, o, q, c, e, hl, hv, ck, nn⟩ := k i hi
    refine ⟨g, o, q, c, e, hl, ?_, ck, nn.1, fun p e2 hx => ?_⟩
    · rcases hv with hv | hv
      · exact .inl hv
      · exact .inr ⟨hv, hl⟩
    · rcases nn.2 p e2 hx with hv | hv
      · exact .inl hv
      · refine .inr ⟨hv, ?_⟩
        obtain ⟨y, l, hyl⟩ := List.exists_cons_of_ne_nil hx
        obtain ⟨g3, o3, e3, hg3, _⟩ := nn.1 0 (by rw [hyl]; simp)
        rw [e3] at e2; cases e2; exact hg3
  · rcases hq with hq | ⟨h1, h2⟩
    · exact ⟨Nat.lt_of_lt_of_le (h.vl q hq).1 (Nat.le_trans hw hw3), (h.vl q hq).2⟩
    · exact ⟨h2, fun hu => by have := ultop q hu; omega, fun e => by omega⟩
end
end Go.Proofs.Ytggjpallbapcmaa
