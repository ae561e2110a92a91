/-
  THE WALK OF THE DOCUMENT's OWN Decode.
-/
import Derived.Test.YtgenefamhhncbaaRdec0
import Derived.Test.YtgenefamhhncbaaChk5
import Derived.Deep.DeepCutAuto
import Derived.Deep.CutBlock
namespace Go.Proofs.Ytgenefamhhncbaa
open Go.RowKit
theorem step_box {w W W' : World} {Y : Nat} {t : TypeId} {cs : Array Value} {o : Obj} (K : Blk W Y t cs) (B : Below Y w W) (b : Below (W.alloc o).heap.size (W.alloc o) W') : Blk W' Y t cs ∧ Below Y w W' := by
  have b0 : Below W.heap.size W (W.alloc o) := (Below.refl _ _).alloc (Nat.le_refl _) o
  have b1 : Below W.heap.size W W' := b0.trans (b.mono (by simp))
  exact ⟨K.below b1, B.trans (b1.mono (Nat.le_of_lt K.lt))⟩
set_option maxHeartbeats 4000000 in
set_option maxRecDepth 100000 in
theorem rdecode_any (s : ByteArray) (hs : s.size ≤ 281474976710656) (w : World) : Calls Try.prog 19 #[.string s] w (Decd w (decC s) (decE s)) := by
  obtain ⟨w1, hw1, K1, B1⟩ : ∃ w1, w1 = w.alloc (.cells #[.int .i64 0, .int .i64 0, .int .i64 0, .string ⟨#[]⟩, .slice none 0 0] 32) ∧ Blk w1 w.heap.size 32 #[.int .i64 0, .int .i64 0, .int .i64 0, .string ⟨#[]⟩, .slice none 0 0] ∧ Below w.heap.size w w1 :=
    ⟨_, rfl, heap_alloc_new w _, (Below.refl _ w).alloc (Nat.le_refl _) _⟩
  have W1 := Lib.hid hw1
  have K1h := Lib.hid K1
  have B1h := Lib.hid B1
  have ZS : (d1 s).2.1.size ≤ s.size := tk_size _ _ _ _
  have ZS2 : (d2 s).2.1.size ≤ (d1 s).2.1.size := tk_size _ _ _ _
  have ZS3 : (d3 s).2.1.size ≤ (d2 s).2.1.size := tk_size _ _ _ _
  have ZS4 : (d4 s).2.1.size ≤ (d3 s).2.1.size := tk_size _ _ _ _
  have ZS5 : (d5 s).2.1.size ≤ (d4 s).2.1.size := tk_size _ _ _ _
  have ZK : (d4 s).1.size ≤ (d3 s).2.1.size := tText_size _ _ _
  have N1 : Hid (∀ (W : World), Calls Try.prog 45 #[.agg #[.string s, .int .i64 0]] W fun r w' => r = .returned (.tuple #[.agg #[.string (d1 s).2.1, .int .i64 (d1 s).2.2], .int .u64 ((d1 s).1 : Int)]) ∧ Below W.heap.size W w') := Lib.hid (fun W => Bt.rnumT_any s 0 hs W)
  have N2 : Hid (∀ (W : World), Calls Try.prog 45 #[.agg #[.string (d1 s).2.1, .int .i64 (d1 s).2.2]] W fun r w' => r = .returned (.tuple #[.agg #[.string (d2 s).2.1, .int .i64 (d2 s).2.2], .int .u64 ((d2 s).1 : Int)]) ∧ Below W.heap.size W w') := Lib.hid (fun W => Bt.rnumT_any _ _ (by omega) W)
  have N3 : Hid (∀ (W : World), Calls Try.prog 45 #[.agg #[.string (d2 s).2.1, .int .i64 (d2 s).2.2]] W fun r w' => r = .returned (.tuple #[.agg #[.string (d3 s).2.1, .int .i64 (d3 s).2.2], .int .u64 ((d3 s).1 : Int)]) ∧ Below W.heap.size W w') := Lib.hid (fun W => Bt.rnumT_any _ _ (by omega) W)
  have N4 : Hid (∀ (W : World), Calls Try.prog 46 #[.agg #[.string (d3 s).2.1, .int .i64 (d3 s).2.2], .int .i64 16] W fun r w' => r = .returned (.tuple #[.agg #[.string (d4 s).2.1, .int .i64 (d4 s).2.2], .string (d4 s).1]) ∧ Below W.heap.size W w') := Lib.hid (fun W => Bt.rtextT_any _ _ 16 (by omega) (by decide) W)
  have N5 : Hid (∀ (W : World), Calls Try.prog 45 #[.agg #[.string (d4 s).2.1, .int .i64 (d4 s).2.2]] W fun r w' => r = .returned (.tuple #[.agg #[.string (d5 s).2.1, .int .i64 (d5 s).2.2], .int .u64 ((d5 s).1 : Int)]) ∧ Below W.heap.size W w') := Lib.hid (fun W => Bt.rnumT_any _ _ (by omega) W)
  have L1 := Lib.hid (fun W => limited_any (d1 s).1 549755813888 (Bt.tNum_lt _ _) (by decide) W)
  have L2 := Lib.hid (fun W => limited_any (d2 s).1 549755813888 (Bt.tNum_lt _ _) (by decide) W)
  have L3 := Lib.hid (fun W => limited_any (d3 s).1 549755813888 (Bt.tNum_lt _ _) (by decide) W)
  rw [← decR_same]
  have RES : Hid (∀ (L : List Fld) (s6 : ByteArray) (e6 : Int), rF s = (L, s6, e6) → (okC s = true → decR s = ⟨lim (d1 s).1 549755813888, lim (d2 s).1 549755813888, lim (d3 s).1 549755813888, (d4 s).1, L⟩ ∧ decE s = 0) ∧ (okC s = false → decR s = evNil ∧ decE s = 3) ∧ okC s = (decide ((d5 s).1 ≤ 8) && (decide (Bt.endE s6 e6 = 0) && chkB (lim (d1 s).1 549755813888) (lim (d2 s).1 549755813888) (lim (d3 s).1 549755813888) (d4 s).1 L))) := Lib.hid (by
    intro L s6 e6 h
    rw [(ok_alike s).1]
    have hE : decE s = if okR s = true then 0 else 3 := by unfold decE; rw [(ok_alike s).1]
    refine ⟨fun ho => ?_, fun ho => ?_, ?_⟩
    · unfold decR; rw [hE, if_pos ho, if_pos ho, h]; exact ⟨rfl, rfl⟩
    · unfold decR; rw [hE, ho]; exact ⟨rfl, rfl⟩
    · unfold okR; rw [h])
  have hdF : Hid (rF s = dFlds rVal (d5 s).2.1 (d5 s).2.2 (d5 s).1) := Lib.hid rfl
  have SZF := Lib.hid (fun j => dFlds_size rVal_size (d5 s).2.1 (d5 s).2.2 j)
  have LNF := Lib.hid (fun j => dFlds_len rVal (d5 s).2.1 (d5 s).2.2 j)
  have hn0 : (d5 s).1 < 18446744073709551616 := Bt.tNum_lt _ _
  generalize decR s = DC at *
  generalize decE s = DE at *
  generalize okC s = OK at *
  generalize rF s = DF at *
  generalize lim (d1 s).1 549755813888 = a1 at *
  generalize lim (d2 s).1 549755813888 = a2 at *
  generalize lim (d3 s).1 549755813888 = a3 at *
  generalize (d1 s).1 = n1 at *
  generalize (d2 s).1 = n2 at *
  generalize (d3 s).1 = n3 at *
  generalize (d4 s).1 = k at *
  generalize (d5 s).1 = n at *
  generalize (d1 s).2.1 = s1 at *
  generalize (d1 s).2.2 = e1 at *
  generalize (d2 s).2.1 = s2 at *
  generalize (d2 s).2.2 = e2 at *
  generalize (d3 s).2.1 = s3 at *
  generalize (d3 s).2.2 = e3 at *
  generalize (d4 s).2.1 = s4 at *
  generalize (d4 s).2.2 = e4 at *
  generalize (d5 s).2.1 = s5 at *
  generalize (d5 s).2.2 = e5 at *
  have HN0 := Lib.hid hn0
  clear hw1 K1 B1 hn0
  generalize hy : w.heap.size = Y at *
  have HY := Lib.hid hy
  go_enter Try.func19, Try.ntmps19
  go_wp2_with fail
  rw [← W1.out]
  refine (N1.out _).mono ?_
  rintro r w2 ⟨rfl, b2⟩
  have K2h := Lib.hid (K1h.out.below b2)
  have B2h : Hid (Below Y w w2) := Lib.hid (B1h.out.trans (b2.mono (Nat.le_of_lt K1h.out.lt)))
  clear b2
  go_wp2_with fail
  refine (N2.out _).mono ?_
  rintro r w3 ⟨rfl, b3⟩
  have K3h := Lib.hid (step_box K2h.out B2h.out b3).1
  have B3h := Lib.hid (step_box K2h.out B2h.out b3).2
  clear b3
  go_wp2_with fail
  refine (N3.out _).mono ?_
  rintro r w4 ⟨rfl, b4⟩
  have K4h := Lib.hid (step_box K3h.out B3h.out b4).1
  have B4h := Lib.hid (step_box K3h.out B3h.out b4).2
  clear b4
  go_wp2_with fail
  refine (N4.out _).mono ?_
  rintro r w5 ⟨rfl, b5⟩
  have K5h := Lib.hid (step_box K4h.out B4h.out b5).1
  have B5h := Lib.hid (step_box K4h.out B4h.out b5).2
  clear b5
  go_wp2_with fail
  refine (N5.out _).mono ?_
  rintro r w6 ⟨rfl, b6⟩
  have K6h := Lib.hid (step_box K5h.out B5h.out b6).1
  have B6h := Lib.hid (step_box K5h.out B5h.out b6).2
  have T6 : Blk w6 w5.heap.size 78 #[.string s4, .int .i64 e4] := (show Blk (w5.alloc (.cells #[.string s4, .int .i64 e4] 78)) w5.heap.size 78 #[.string s4, .int .i64 e4] from heap_alloc_new w5 _).below b6
  have hYT : Y < w5.heap.size := K5h.out.lt
  clear b6 K1h B1h K2h B2h K3h B3h K4h B4h K5h B5h N1 N2 N3 N4 N5
  generalize w5.heap.size = T at *
  have T6h := Lib.hid T6
  have hT6 := T6.lt
  have t0 : w6.cell? ⟨T, 0, none⟩ = some (.string s4) := T6.cell 0
  have t1 : w6.cell? ⟨T, 1, none⟩ = some (.int .i64 e4) := T6.cell 1
  have tf0 := T6.free 0
  have tf1 := T6.free 1
  clear T6
  obtain ⟨w7, hw7, K7, T7, B7⟩ : ∃ w7, w7 = ((w6.setCell ⟨T, 0, none⟩ (.string s5)).setCell ⟨T, 1, none⟩ (.int .i64 e5)).alloc (.cells #[.string s5, .int .i64 e5] 78) ∧ Blk w7 Y 32 #[.int .i64 0, .int .i64 0, .int .i64 0, .string ⟨#[]⟩, .slice none 0 0] ∧ Blk w7 T 78 #[.string s5, .int .i64 e5] ∧ Below Y w w7 := by
    have b1 := (B6h.out.setCell (p := ⟨T, 0, none⟩) (by show Y ≤ T; omega) (.string s5)).setCell (p := ⟨T, 1, none⟩) (by show Y ≤ T; omega) (.int .i64 e5)
    have y1 := (K6h.out.set_other (p := T) (by omega) 0 (.string s5)).set_other (p := T) (by omega) 1 (.int .i64 e5)
    have z1 := (T6h.out.set 0 (.string s5)).set 1 (.int .i64 e5)
    have ba := (Below.refl ((w6.setCell ⟨T, 0, none⟩ (.string s5)).setCell ⟨T, 1, none⟩ (.int .i64 e5)).heap.size ((w6.setCell ⟨T, 0, none⟩ (.string s5)).setCell ⟨T, 1, none⟩ (.int .i64 e5))).alloc (Nat.le_refl _) (.cells #[.string s5, .int .i64 e5] 78)
    exact ⟨_, rfl, y1.below ba, z1.below ba, b1.alloc (by have := y1.lt; omega) _⟩
  have W7 := Lib.hid hw7
  have K7h := Lib.hid K7
  have T7h := Lib.hid T7
  have B7h := Lib.hid B7
  clear hw7 K7 T7 B7
  go_wp2_with fail
  rw [← W7.out]
  clear t0 t1 tf0 tf1
  refine (L1.out _).mono ?_
  rintro r w8 ⟨rfl, rfl⟩
  go_wp2_with fail
  refine (L2.out _).mono ?_
  rintro r w9 ⟨rfl, rfl⟩
  go_wp2_with fail
  refine (L3.out _).mono ?_
  rintro r w10 ⟨rfl, rfl⟩
  obtain ⟨w8, hw8, K8, T8, E8, B8⟩ : ∃ w8, w8 = w7.alloc (.cells #[.int .i64 a1, .int .i64 a2, .int .i64 a3, .string k, .slice none 0 0] 32) ∧ Blk w8 Y 32 #[.int .i64 0, .int .i64 0, .int .i64 0, .string ⟨#[]⟩, .slice none 0 0] ∧ Blk w8 T 78 #[.string s5, .int .i64 e5] ∧ Blk w8 w7.heap.size 32 #[.int .i64 a1, .int .i64 a2, .int .i64 a3, .string k, .slice none 0 0] ∧ Below Y w w8 := by
    have ba := (Below.refl w7.heap.size w7).alloc (Nat.le_refl _) (.cells #[.int .i64 a1, .int .i64 a2, .int .i64 a3, .string k, .slice none 0 0] 32)
    exact ⟨_, rfl, K7h.out.below ba, T7h.out.below ba, heap_alloc_new w7 _, B7h.out.alloc (Nat.le_of_lt K7h.out.lt) _⟩
  have W8 := Lib.hid hw8
  have K8h := Lib.hid K8
  have T8h := Lib.hid T8
  have E8h := Lib.hid E8
  have B8h := Lib.hid B8
  have hTE : T < w7.heap.size := T7h.out.lt
  clear hw8 K8 T8 E8 B8
  by_cases hn8 : n ≤ 8
  · have hq : ¬ (8 : Int) < (n : Int) := by omega
    have ewn : IntKind.i64.wrap (n : Int) = (n : Int) := IntWalk.i64_in _ (by omega)
    obtain ⟨i62, hi, hz0, hz1, hz2⟩ := info_parts info62
    go_wp2_with fail
    rw [← W8.out]
    clear W8
    generalize w7.heap.size = E at *
    go_loopw [15] (fun i wq => ∃ (j : Nat) (u : Value), i = .int .i64 j ∧ j ≤ n ∧ RecI w wq Y T E a1 a2 a3 k (dFlds rVal s5 e5 j).1 j u (dFlds rVal s5 e5 j).2.1 (dFlds rVal s5 e5 j).2.2) (fun i _ => n - (intOf i).toNat)
    case atStart => exact ⟨0, .slice none 0 0, rfl, Nat.zero_le _, ⟨K8h.out, E8h.out, T8h.out, World.ownsRow_nil _ _ _ _, B8h.out⟩⟩
    case round =>
      obtain ⟨j, u, rfl, hj, hI⟩ := hrel
      have HI := Lib.hid hI
      obtain ⟨ua, uc, hu⟩ := row_form hI.o
      subst hu
      clear hI
      by_cases hjn : j < n
      · obtain ⟨zj, _⟩ := SZF.out j
        have NT := Lib.hid (fun W => Bt.rtextT_any (dFlds rVal s5 e5 j).2.1 (dFlds rVal s5 e5 j).2.2 16 (by omega) (by decide) W)
        have zx : (Bt.tText (dFlds rVal s5 e5 j).2.1 (dFlds rVal s5 e5 j).2.2 16).2.1.size ≤ (dFlds rVal s5 e5 j).2.1.size := tk_size _ _ _ _
        have NN := Lib.hid (fun W => Bt.rnumT_any (Bt.tText (dFlds rVal s5 e5 j).2.1 (dFlds rVal s5 e5 j).2.2 16).2.1 (Bt.tText (dFlds rVal s5 e5 j).2.1 (dFlds rVal s5 e5 j).2.2 16).2.2 (by omega) W)
        have HS1 : Hid (dFlds rVal s5 e5 (j + 1) = ((dFlds rVal s5 e5 j).1 ++ [⟨(Bt.tText (dFlds rVal s5 e5 j).2.1 (dFlds rVal s5 e5 j).2.2 16).1, (rVal (Bt.tText (dFlds rVal s5 e5 j).2.1 (dFlds rVal s5 e5 j).2.2 16).2.1 (Bt.tText (dFlds rVal s5 e5 j).2.1 (dFlds rVal s5 e5 j).2.2 16).2.2).1⟩], (rVal (Bt.tText (dFlds rVal s5 e5 j).2.1 (dFlds rVal s5 e5 j).2.2 16).2.1 (Bt.tText (dFlds rVal s5 e5 j).2.1 (dFlds rVal s5 e5 j).2.2 16).2.2).2)) := Lib.hid rfl
        generalize (dFlds rVal s5 e5 j).1 = L at *
        generalize (dFlds rVal s5 e5 j).2.1 = sj at *
        generalize (dFlds rVal s5 e5 j).2.2 = ej at *
        generalize Bt.tText sj ej 16 = tx at *
        obtain ⟨xn, sx, ex⟩ := tx
        simp only at HS1 NN zx
        have zv : (Bt.tNum sx ex).2.1.size ≤ sx.size := tk_size _ _ _ _
        have LM := Lib.hid (fun W => limited_any (Bt.tNum sx ex).1 3 (Bt.tNum_lt _ _) (by decide) W)
        have HV : Hid (rVal sx ex = valAt (lim (Bt.tNum sx ex).1 3) (Bt.tNum sx ex).2.1 (Bt.tNum sx ex).2.2) := Lib.hid rfl
        generalize rVal sx ex = tv at *
        generalize lim (Bt.tNum sx ex).1 3 = kk at *
        generalize Bt.tNum sx ex = tn at *
        obtain ⟨nn, sn, en⟩ := tn
        simp only at HV LM zv
        have NT : Hid (∀ W, Calls Try.prog 46 #[.agg #[.string sj, .int .i64 ej], .int .i64 16] W fun r w' => r = .returned (.tuple #[.agg #[.string sx, .int .i64 ex], .string xn]) ∧ Below W.heap.size W w') := NT
        have NN : Hid (∀ W, Calls Try.prog 45 #[.agg #[.string sx, .int .i64 ex]] W fun r w' => r = .returned (.tuple #[.agg #[.string sn, .int .i64 en], .int .u64 (nn : Int)]) ∧ Below W.heap.size W w') := NN
        have zn : sn.size ≤ 281474976710656 := by omega
        have t0 : wr.cell? ⟨T, 0, none⟩ = some (.string sj) := HI.out.t.cell 0
        have t1 : wr.cell? ⟨T, 1, none⟩ = some (.int .i64 ej) := HI.out.t.cell 1
        have hj8 : j + 1 ≤ 8 := by omega
        clear zx zv zj
        go_wp2_with fail
        refine (NT.out _).mono ?_
        rintro r w2 ⟨rfl, b2⟩
        have I2h := Lib.hid (HI.out.below b2)
        clear b2 t0 t1
        go_wp2_with fail
        refine (NN.out _).mono ?_
        rintro r w3 ⟨rfl, b3⟩
        have I3h := Lib.hid ((I2h.out.alloc (.cells #[.string sx, .int .i64 ex] 78)).below b3)
        clear b3
        have t0 : w3.cell? ⟨T, 0, none⟩ = some (.string sj) := I3h.out.t.cell 0
        have t1 : w3.cell? ⟨T, 1, none⟩ = some (.int .i64 ej) := I3h.out.t.cell 1
        have tf0 := I3h.out.t.free 0
        have tf1 := I3h.out.t.free 1
        have hTl : T < w3.heap.size := I3h.out.t.lt
        obtain ⟨w4, hw4, I4⟩ : ∃ w4, w4 = ((w3.setCell ⟨T, 0, none⟩ (.string sn)).setCell ⟨T, 1, none⟩ (.int .i64 en)).alloc (.cells #[.string sn, .int .i64 en] 78) ∧ RecI w w4 Y T E a1 a2 a3 k L j (.slice ua j uc) sn en :=
          ⟨_, rfl, (I3h.out.tape hYT hTE sn en).alloc _⟩
        have W4 := Lib.hid hw4
        have I4h := Lib.hid I4
        clear hw4 I4
        go_wp2_with fail
        rw [← W4.out]
        refine (LM.out _).mono ?_
        rintro r w5 ⟨rfl, rfl⟩
        clear t0 t1 tf0 tf1 hTl
        obtain ⟨w5, hw5, I5, V5⟩ : ∃ w5, w5 = w4.alloc (.cells #[.int .i64 kk, .int .i64 0, .float .f64 0, .string ⟨#[]⟩] 50) ∧ RecI w w5 Y T E a1 a2 a3 k L j (.slice ua j uc) sn en ∧ Blk w5 w4.heap.size 50 #[.int .i64 kk, .int .i64 0, .float .f64 0, .string ⟨#[]⟩] :=
          ⟨_, rfl, I4h.out.alloc _, heap_alloc_new w4 _⟩
        have W5 := Lib.hid hw5
        have I5h := Lib.hid I5
        have V5h := Lib.hid V5
        have hEV : E < w4.heap.size := I4h.out.x.lt
        have hTV : T < w4.heap.size := I4h.out.t.lt
        have hUV : Hid ((Value.slice ua j uc).ownBlock ≠ some w4.heap.size) := Lib.hid (fun hq => by have := (World.ownsRow.lt I4h.out.o _ hq).2; omega)
        clear hw5 I5 V5
        by_cases h1 : kk = 1
        · subst h1
          have HV2 : Hid (tv = (⟨1, (Bt.tInt sn en).1, 0, ⟨#[]⟩⟩, (Bt.tInt sn en).2)) := HV
          have NI := Lib.hid (fun W => Bt.rintT_any sn en zn W)
          generalize Bt.tInt sn en = x at *
          obtain ⟨n5, sv, ev⟩ := x
          simp only at HV2
          have NI : Hid (∀ W, Calls Try.prog 48 #[.agg #[.string sn, .int .i64 en]] W fun r w' => r = .returned (.tuple #[.agg #[.string sv, .int .i64 ev], .int .i64 n5]) ∧ Below W.heap.size W w') := NI
          clear HV
          have t0 : w4.cell? ⟨T, 0, none⟩ = some (.string sn) := I4h.out.t.cell 0
          have t1 : w4.cell? ⟨T, 1, none⟩ = some (.int .i64 en) := I4h.out.t.cell 1
          go_wp2_with fail
          rw [← W5.out]
          generalize w4.heap.size = V at *
          refine (NI.out _).mono ?_
          rintro r w6 ⟨rfl, b6⟩
          have I6h := Lib.hid (I5h.out.below b6)
          have V6h := Lib.hid (V5h.out.below b6)
          clear b6 t0 t1
          have t0 : w6.cell? ⟨T, 0, none⟩ = some (.string sn) := I6h.out.t.cell 0
          have t1 : w6.cell? ⟨T, 1, none⟩ = some (.int .i64 en) := I6h.out.t.cell 1
          have tf0 := I6h.out.t.free 0
          have tf1 := I6h.out.t.free 1
          have v0 : w6.cell? ⟨V, 0, none⟩ = some (.int .i64 1) := V6h.out.cell 0
          have vn : w6.cell? ⟨V, 1, none⟩ = some (.int .i64 0) := V6h.out.cell 1
          have vf := V6h.out.free 1
          have hTl : T < w6.heap.size := I6h.out.t.lt
          have hVl : V < w6.heap.size := V6h.out.lt
          have hne1 : ¬ (T = V) := by omega
          have hne2 : ¬ (V = T) := by omega
          obtain ⟨w7, hw7, I7, V7⟩ : ∃ w7, w7 = (((w6.setCell ⟨T, 0, none⟩ (.string sv)).setCell ⟨T, 1, none⟩ (.int .i64 ev)).setCell ⟨V, 1, none⟩ (.int .i64 n5)).alloc (.cells #[.string sv, .int .i64 ev] 78) ∧ RecI w w7 Y T E a1 a2 a3 k L j (.slice ua j uc) sv ev ∧ Blk w7 V 50 #[.int .i64 1, .int .i64 n5, .float .f64 0, .string ⟨#[]⟩] :=
            ⟨_, rfl, ((I6h.out.tape hYT hTE sv ev).other (by omega) (by omega) (by omega) hUV.out 1 _).alloc _,
              ((((V6h.out.set_other (p := T) (by omega) 0 (.string sv)).set_other (p := T) (by omega) 1 (.int .i64 ev)).set 1 (.int .i64 n5)).below ((Below.refl _ _).alloc (Nat.le_refl _) _))⟩
          have W7 := Lib.hid hw7
          have I7h := Lib.hid I7
          have V7h := Lib.hid V7
          clear hw7 I7 V7
          go_upto_region 29 with fail
          rw [← W7.out]
          clear t0 t1 tf0 tf1 v0 vn vf hTl hVl
          have x4 : w7.cell? ⟨E, 4, none⟩ = some (.slice ua j uc) := I7h.out.x.cell 4
          have v0 : w7.cell? ⟨V, 0, none⟩ = some (.int .i64 1) := V7h.out.cell 0
          have v1 : w7.cell? ⟨V, 1, none⟩ = some (.int .i64 n5) := V7h.out.cell 1
          have v2 : w7.cell? ⟨V, 2, none⟩ = some (.float .f64 0) := V7h.out.cell 2
          have v3 : w7.cell? ⟨V, 3, none⟩ = some (.string ⟨#[]⟩) := V7h.out.cell 3
          have PU := Lib.hid (fun w4 g cap => (I7h.out.alloc (.cells #[.string xn, .int .i64 1, .int .i64 n5, .float .f64 0, .string ⟨#[]⟩] 62)).push (w4 := w4) (g := g) (cap := cap) (x := ⟨xn, ⟨1, n5, 0, ⟨#[]⟩⟩⟩) hYT hTE)
          have H1C := Lib.hid (ev_one ⟨xn, ⟨1, n5, 0, ⟨#[]⟩⟩⟩)
          have hEl : E + 1 ≤ w7.heap.size := I7h.out.x.lt
          have HS2 := Lib.hid (HS1.out.trans (by rw [HV2.out]))
          go_wp2_with (at_builtin; refine wpList_append_lies _ rfl (.tmp 119) (.tmp 123) 30 rfl (E + 1) 62 i62 (.agg #[.string ⟨#[]⟩, .int .i64 0, .int .i64 0, .float .f64 0, .string ⟨#[]⟩]) 5 56 Try.underlying30 hi hz0 hz1 hz2 rfl (by decide) (.slice ua j uc) j (cellsF L) rfl (World.ownsRow.alloc I7h.out.o _) ⟨w7.heap.size, 0, none⟩ 1 1 (encF ⟨xn, ⟨1, n5, 0, ⟨#[]⟩⟩⟩) rfl rfl (World.news_of_block (cs := #[.string xn, .int .i64 1, .int .i64 n5, .float .f64 0, .string ⟨#[]⟩]) (heap_alloc_new w7 _)) H1C.out (by decide) (by unfold maxLen; omega) (by omega) (by simp; omega) _ rfl ?_; intro g8 cap8 w8 ho8 hg8 _ _; obtain ⟨I8, f8, q8⟩ := PU.out w8 g8 cap8 ho8 hg8; have I8h := Lib.hid I8; clear I8 ho8 hg8)
          go_roundw
          case rel => exact ⟨j + 1, _, by go_num, by omega, by rw [HS2.out]; exact I8h.out⟩
          case measure => simp [intOf]; omega
        have d1 : (kk == 1) = false := by simpa using h1
        clear h1
        by_cases h1 : kk = 2
        · clear d1
          subst h1
          have HV2 : Hid (tv = (⟨2, 0, (Bt.tReal sn en).1, ⟨#[]⟩⟩, (Bt.tReal sn en).2)) := HV
          have NI := Lib.hid (fun W => Bt.rrealT_any sn en zn W)
          generalize Bt.tReal sn en = x at *
          obtain ⟨n5, sv, ev⟩ := x
          simp only at HV2
          have NI : Hid (∀ W, Calls Try.prog 49 #[.agg #[.string sn, .int .i64 en]] W fun r w' => r = .returned (.tuple #[.agg #[.string sv, .int .i64 ev], .float .f64 n5]) ∧ Below W.heap.size W w') := NI
          clear HV
          have t0 : w4.cell? ⟨T, 0, none⟩ = some (.string sn) := I4h.out.t.cell 0
          have t1 : w4.cell? ⟨T, 1, none⟩ = some (.int .i64 en) := I4h.out.t.cell 1
          go_wp2_with fail
          rw [← W5.out]
          generalize w4.heap.size = V at *
          refine (NI.out _).mono ?_
          rintro r w6 ⟨rfl, b6⟩
          have I6h := Lib.hid (I5h.out.below b6)
          have V6h := Lib.hid (V5h.out.below b6)
          clear b6 t0 t1
          have t0 : w6.cell? ⟨T, 0, none⟩ = some (.string sn) := I6h.out.t.cell 0
          have t1 : w6.cell? ⟨T, 1, none⟩ = some (.int .i64 en) := I6h.out.t.cell 1
          have tf0 := I6h.out.t.free 0
          have tf1 := I6h.out.t.free 1
          have v0 : w6.cell? ⟨V, 0, none⟩ = some (.int .i64 2) := V6h.out.cell 0
          have vn : w6.cell? ⟨V, 2, none⟩ = some (.float .f64 0) := V6h.out.cell 2
          have vf := V6h.out.free 2
          have hTl : T < w6.heap.size := I6h.out.t.lt
          have hVl : V < w6.heap.size := V6h.out.lt
          have hne1 : ¬ (T = V) := by omega
          have hne2 : ¬ (V = T) := by omega
          obtain ⟨w7, hw7, I7, V7⟩ : ∃ w7, w7 = (((w6.setCell ⟨T, 0, none⟩ (.string sv)).setCell ⟨T, 1, none⟩ (.int .i64 ev)).setCell ⟨V, 2, none⟩ (.float .f64 n5)).alloc (.cells #[.string sv, .int .i64 ev] 78) ∧ RecI w w7 Y T E a1 a2 a3 k L j (.slice ua j uc) sv ev ∧ Blk w7 V 50 #[.int .i64 2, .int .i64 0, .float .f64 n5, .string ⟨#[]⟩] :=
            ⟨_, rfl, ((I6h.out.tape hYT hTE sv ev).other (by omega) (by omega) (by omega) hUV.out 2 _).alloc _,
              ((((V6h.out.set_other (p := T) (by omega) 0 (.string sv)).set_other (p := T) (by omega) 1 (.int .i64 ev)).set 2 (.float .f64 n5)).below ((Below.refl _ _).alloc (Nat.le_refl _) _))⟩
          have W7 := Lib.hid hw7
          have I7h := Lib.hid I7
          have V7h := Lib.hid V7
          clear hw7 I7 V7
          go_upto_region 29 with fail
          rw [← W7.out]
          clear t0 t1 tf0 tf1 v0 vn vf hTl hVl
          have x4 : w7.cell? ⟨E, 4, none⟩ = some (.slice ua j uc) := I7h.out.x.cell 4
          have v0 : w7.cell? ⟨V, 0, none⟩ = some (.int .i64 2) := V7h.out.cell 0
          have v1 : w7.cell? ⟨V, 1, none⟩ = some (.int .i64 0) := V7h.out.cell 1
          have v2 : w7.cell? ⟨V, 2, none⟩ = some (.float .f64 n5) := V7h.out.cell 2
          have v3 : w7.cell? ⟨V, 3, none⟩ = some (.string ⟨#[]⟩) := V7h.out.cell 3
          have PU := Lib.hid (fun w4 g cap => (I7h.out.alloc (.cells #[.string xn, .int .i64 2, .int .i64 0, .float .f64 n5, .string ⟨#[]⟩] 62)).push (w4 := w4) (g := g) (cap := cap) (x := ⟨xn, ⟨2, 0, n5, ⟨#[]⟩⟩⟩) hYT hTE)
          have H1C := Lib.hid (ev_one ⟨xn, ⟨2, 0, n5, ⟨#[]⟩⟩⟩)
          have hEl : E + 1 ≤ w7.heap.size := I7h.out.x.lt
          have HS2 := Lib.hid (HS1.out.trans (by rw [HV2.out]))
          go_wp2_with (at_builtin; refine wpList_append_lies _ rfl (.tmp 119) (.tmp 123) 30 rfl (E + 1) 62 i62 (.agg #[.string ⟨#[]⟩, .int .i64 0, .int .i64 0, .float .f64 0, .string ⟨#[]⟩]) 5 56 Try.underlying30 hi hz0 hz1 hz2 rfl (by decide) (.slice ua j uc) j (cellsF L) rfl (World.ownsRow.alloc I7h.out.o _) ⟨w7.heap.size, 0, none⟩ 1 1 (encF ⟨xn, ⟨2, 0, n5, ⟨#[]⟩⟩⟩) rfl rfl (World.news_of_block (cs := #[.string xn, .int .i64 2, .int .i64 0, .float .f64 n5, .string ⟨#[]⟩]) (heap_alloc_new w7 _)) H1C.out (by decide) (by unfold maxLen; omega) (by omega) (by simp; omega) _ rfl ?_; intro g8 cap8 w8 ho8 hg8 _ _; obtain ⟨I8, f8, q8⟩ := PU.out w8 g8 cap8 ho8 hg8; have I8h := Lib.hid I8; clear I8 ho8 hg8)
          go_roundw
          case rel => exact ⟨j + 1, _, by go_num, by omega, by rw [HS2.out]; exact I8h.out⟩
          case measure => simp [intOf]; omega
        have d2 : (kk == 2) = false := by simpa using h1
        clear h1
        by_cases h1 : kk = 3
        · clear d1 d2
          subst h1
          have HV2 : Hid (tv = (⟨3, 0, 0, (Bt.tText sn en 64).1⟩, (Bt.tText sn en 64).2)) := HV
          have NI := Lib.hid (fun W => Bt.rtextT_any sn en 64 zn (by decide) W)
          generalize Bt.tText sn en 64 = x at *
          obtain ⟨n5, sv, ev⟩ := x
          simp only at HV2
          have NI : Hid (∀ W, Calls Try.prog 46 #[.agg #[.string sn, .int .i64 en], .int .i64 64] W fun r w' => r = .returned (.tuple #[.agg #[.string sv, .int .i64 ev], .string n5]) ∧ Below W.heap.size W w') := NI
          clear HV
          have t0 : w4.cell? ⟨T, 0, none⟩ = some (.string sn) := I4h.out.t.cell 0
          have t1 : w4.cell? ⟨T, 1, none⟩ = some (.int .i64 en) := I4h.out.t.cell 1
          go_wp2_with fail
          rw [← W5.out]
          generalize w4.heap.size = V at *
          refine (NI.out _).mono ?_
          rintro r w6 ⟨rfl, b6⟩
          have I6h := Lib.hid (I5h.out.below b6)
          have V6h := Lib.hid (V5h.out.below b6)
          clear b6 t0 t1
          have t0 : w6.cell? ⟨T, 0, none⟩ = some (.string sn) := I6h.out.t.cell 0
          have t1 : w6.cell? ⟨T, 1, none⟩ = some (.int .i64 en) := I6h.out.t.cell 1
          have tf0 := I6h.out.t.free 0
          have tf1 := I6h.out.t.free 1
          have v0 : w6.cell? ⟨V, 0, none⟩ = some (.int .i64 3) := V6h.out.cell 0
          have vn : w6.cell? ⟨V, 3, none⟩ = some (.string ⟨#[]⟩) := V6h.out.cell 3
          have vf := V6h.out.free 3
          have hTl : T < w6.heap.size := I6h.out.t.lt
          have hVl : V < w6.heap.size := V6h.out.lt
          have hne1 : ¬ (T = V) := by omega
          have hne2 : ¬ (V = T) := by omega
          obtain ⟨w7, hw7, I7, V7⟩ : ∃ w7, w7 = (((w6.setCell ⟨T, 0, none⟩ (.string sv)).setCell ⟨T, 1, none⟩ (.int .i64 ev)).setCell ⟨V, 3, none⟩ (.string n5)).alloc (.cells #[.string sv, .int .i64 ev] 78) ∧ RecI w w7 Y T E a1 a2 a3 k L j (.slice ua j uc) sv ev ∧ Blk w7 V 50 #[.int .i64 3, .int .i64 0, .float .f64 0, .string n5] :=
            ⟨_, rfl, ((I6h.out.tape hYT hTE sv ev).other (by omega) (by omega) (by omega) hUV.out 3 _).alloc _,
              ((((V6h.out.set_other (p := T) (by omega) 0 (.string sv)).set_other (p := T) (by omega) 1 (.int .i64 ev)).set 3 (.string n5)).below ((Below.refl _ _).alloc (Nat.le_refl _) _))⟩
          have W7 := Lib.hid hw7
          have I7h := Lib.hid I7
          have V7h := Lib.hid V7
          clear hw7 I7 V7
          go_upto_region 29 with fail
          rw [← W7.out]
          clear t0 t1 tf0 tf1 v0 vn vf hTl hVl
          have x4 : w7.cell? ⟨E, 4, none⟩ = some (.slice ua j uc) := I7h.out.x.cell 4
          have v0 : w7.cell? ⟨V, 0, none⟩ = some (.int .i64 3) := V7h.out.cell 0
          have v1 : w7.cell? ⟨V, 1, none⟩ = some (.int .i64 0) := V7h.out.cell 1
          have v2 : w7.cell? ⟨V, 2, none⟩ = some (.float .f64 0) := V7h.out.cell 2
          have v3 : w7.cell? ⟨V, 3, none⟩ = some (.string n5) := V7h.out.cell 3
          have PU := Lib.hid (fun w4 g cap => (I7h.out.alloc (.cells #[.string xn, .int .i64 3, .int .i64 0, .float .f64 0, .string n5] 62)).push (w4 := w4) (g := g) (cap := cap) (x := ⟨xn, ⟨3, 0, 0, n5⟩⟩) hYT hTE)
          have H1C := Lib.hid (ev_one ⟨xn, ⟨3, 0, 0, n5⟩⟩)
          have hEl : E + 1 ≤ w7.heap.size := I7h.out.x.lt
          have HS2 := Lib.hid (HS1.out.trans (by rw [HV2.out]))
          go_wp2_with (at_builtin; refine wpList_append_lies _ rfl (.tmp 119) (.tmp 123) 30 rfl (E + 1) 62 i62 (.agg #[.string ⟨#[]⟩, .int .i64 0, .int .i64 0, .float .f64 0, .string ⟨#[]⟩]) 5 56 Try.underlying30 hi hz0 hz1 hz2 rfl (by decide) (.slice ua j uc) j (cellsF L) rfl (World.ownsRow.alloc I7h.out.o _) ⟨w7.heap.size, 0, none⟩ 1 1 (encF ⟨xn, ⟨3, 0, 0, n5⟩⟩) rfl rfl (World.news_of_block (cs := #[.string xn, .int .i64 3, .int .i64 0, .float .f64 0, .string n5]) (heap_alloc_new w7 _)) H1C.out (by decide) (by unfold maxLen; omega) (by omega) (by simp; omega) _ rfl ?_; intro g8 cap8 w8 ho8 hg8 _ _; obtain ⟨I8, f8, q8⟩ := PU.out w8 g8 cap8 ho8 hg8; have I8h := Lib.hid I8; clear I8 ho8 hg8)
          go_roundw
          case rel => exact ⟨j + 1, _, by go_num, by omega, by rw [HS2.out]; exact I8h.out⟩
          case measure => simp [intOf]; omega
        have d3 : (kk == 3) = false := by simpa using h1
        have HV2 : Hid (tv = (⟨kk, 0, 0, ⟨#[]⟩⟩, sn, en)) := Lib.hid (HV.out.trans (valAt_no (k := kk) ⟨by simpa using d1, by simpa using d2, h1⟩ sn en))
        clear h1 HV
        go_upto_region 29 with fail
        rw [← W5.out]
        generalize w4.heap.size = V at *
        have x4 : w5.cell? ⟨E, 4, none⟩ = some (.slice ua j uc) := I5h.out.x.cell 4
        have v0 : w5.cell? ⟨V, 0, none⟩ = some (.int .i64 kk) := V5h.out.cell 0
        have v1 : w5.cell? ⟨V, 1, none⟩ = some (.int .i64 0) := V5h.out.cell 1
        have v2 : w5.cell? ⟨V, 2, none⟩ = some (.float .f64 0) := V5h.out.cell 2
        have v3 : w5.cell? ⟨V, 3, none⟩ = some (.string ⟨#[]⟩) := V5h.out.cell 3
        have PU := Lib.hid (fun w4 g cap => (I5h.out.alloc (.cells #[.string xn, .int .i64 kk, .int .i64 0, .float .f64 0, .string ⟨#[]⟩] 62)).push (w4 := w4) (g := g) (cap := cap) (x := ⟨xn, ⟨kk, 0, 0, ⟨#[]⟩⟩⟩) hYT hTE)
        have H1C := Lib.hid (ev_one ⟨xn, ⟨kk, 0, 0, ⟨#[]⟩⟩⟩)
        have hEl : E + 1 ≤ w5.heap.size := I5h.out.x.lt
        have HS2 := Lib.hid (HS1.out.trans (by rw [HV2.out]))
        go_wp2_with (at_builtin; refine wpList_append_lies _ rfl (.tmp 119) (.tmp 123) 30 rfl (E + 1) 62 i62 (.agg #[.string ⟨#[]⟩, .int .i64 0, .int .i64 0, .float .f64 0, .string ⟨#[]⟩]) 5 56 Try.underlying30 hi hz0 hz1 hz2 rfl (by decide) (.slice ua j uc) j (cellsF L) rfl (World.ownsRow.alloc I5h.out.o _) ⟨w5.heap.size, 0, none⟩ 1 1 (encF ⟨xn, ⟨kk, 0, 0, ⟨#[]⟩⟩⟩) rfl rfl (World.news_of_block (cs := #[.string xn, .int .i64 kk, .int .i64 0, .float .f64 0, .string ⟨#[]⟩]) (heap_alloc_new w5 _)) H1C.out (by decide) (by unfold maxLen; omega) (by omega) (by simp; omega) _ rfl ?_; intro g8 cap8 w8 ho8 hg8 _ _; obtain ⟨I8, f8, q8⟩ := PU.out w8 g8 cap8 ho8 hg8; have I8h := Lib.hid I8; clear I8 ho8 hg8)
        go_roundw
        case rel => exact ⟨j + 1, _, by go_num, by omega, by rw [HS2.out]; exact I8h.out⟩
        case measure => simp [intOf]; omega
      · obtain rfl : j = n := by omega
        have hEQ := hdF.out
        have SZX := Lib.hid (SZF.out j).2
        have LNX := Lib.hid (LNF.out j)
        rw [show dFlds rVal s5 e5 j = ((dFlds rVal s5 e5 j).1, (dFlds rVal s5 e5 j).2.1, (dFlds rVal s5 e5 j).2.2) from rfl] at hEQ
        obtain ⟨RT, RF, RO⟩ := RES.out _ _ _ hEQ
        have RTh := Lib.hid RT
        have RFh := Lib.hid RF
        have ROh := Lib.hid RO
        clear RT RF RO hEQ SZF LNF hdF RES
        generalize (dFlds rVal s5 e5 j).1 = L at *
        generalize (dFlds rVal s5 e5 j).2.1 = s6 at *
        generalize (dFlds rVal s5 e5 j).2.2 = e6 at *
        have EN := Lib.hid (fun W => rend_any s6 e6 W)
        have CK := Lib.hid (fun W (hf : Flds W ua L) => rcheck_any a1 a2 a3 k ua uc L W (by rw [LNX.out]; omega) (by omega) hf (fun x hx => by have := SZX.out x hx; omega))
        generalize chkB a1 a2 a3 k L = cB at *
        have t0 : wr.cell? ⟨T, 0, none⟩ = some (.string s6) := HI.out.t.cell 0
        have t1 : wr.cell? ⟨T, 1, none⟩ = some (.int .i64 e6) := HI.out.t.cell 1
        by_cases hE : Bt.endE s6 e6 = 0
        · rw [hE] at EN
          go_wp2_with fail
          refine (EN.out _).mono ?_
          rintro r w9 ⟨rfl, b9⟩
          have I9h := Lib.hid (HI.out.below b9)
          have FL := Lib.hid (flds_row LNX.out.symm I9h.out.o)
          clear t0 t1 b9
          have x0 : w9.cell? ⟨E, 0, none⟩ = some (.int .i64 a1) := I9h.out.x.cell 0
          have x1 : w9.cell? ⟨E, 1, none⟩ = some (.int .i64 a2) := I9h.out.x.cell 1
          have x2 : w9.cell? ⟨E, 2, none⟩ = some (.int .i64 a3) := I9h.out.x.cell 2
          have x3 : w9.cell? ⟨E, 3, none⟩ = some (.string k) := I9h.out.x.cell 3
          have x4 : w9.cell? ⟨E, 4, none⟩ = some (.slice ua j uc) := I9h.out.x.cell 4
          have CW := Lib.hid (CK.out w9 FL.out)
          rw [LNX.out] at CW
          unfold evV at CW
          have GX : Hid (∀ g o, ua = some ⟨g, o, none⟩ → 0 < L.length → g ≠ Y) := Lib.hid (fun g o e h0 => by
            have h1 := (World.ownsRow.lt I9h.out.o g (by rw [e]; rfl)).1
            omega)
          cases cB
          · have HOK : Hid (OK = false) := Lib.hid (by rw [ROh.out]; simp)
            have FIN := Lib.hid (fun (W : World) (hb : Below w.heap.size w W) => decd_nil RFh.out HOK.out hb)
            have CW : Hid (Calls Try.prog 14 #[.agg #[.int .i64 a1, .int .i64 a2, .int .i64 a3, .string k, .slice ua j uc]] w9 fun e w' => e = .returned (.int .i64 1) ∧ Below w9.heap.size w9 w') := CW
            clear hE
            go_wp2_with fail
            refine CW.out.mono ?_
            rintro r w10 ⟨rfl, b10⟩
            have K10h := Lib.hid (I9h.out.below b10).y
            have B10h := Lib.hid (I9h.out.below b10).b
            clear b10 x0 x1 x2 x3 x4
            have y0 : w10.cell? ⟨Y, 0, none⟩ = some (.int .i64 0) := K10h.out.cell 0
            have y1 : w10.cell? ⟨Y, 1, none⟩ = some (.int .i64 0) := K10h.out.cell 1
            have y2 : w10.cell? ⟨Y, 2, none⟩ = some (.int .i64 0) := K10h.out.cell 2
            have y3 : w10.cell? ⟨Y, 3, none⟩ = some (.string ⟨#[]⟩) := K10h.out.cell 3
            have y4 : w10.cell? ⟨Y, 4, none⟩ = some (.slice none 0 0) := K10h.out.cell 4
            have f0 := K10h.out.free 0
            have f1 := K10h.out.free 1
            have f2 := K10h.out.free 2
            have f3 := K10h.out.free 3
            have f4 := K10h.out.free 4
            obtain ⟨W5, hW5, R5, B5, O5, Z5⟩ := ev_put (u := w) 0 0 0 ⟨#[]⟩ (.slice none 0 0) K10h.out rfl (by rw [HY.out]; exact Nat.le_refl _) (by rw [HY.out]; exact B10h.out)
            have W5h := Lib.hid hW5
            have R5h := Lib.hid R5
            have B5h := Lib.hid B5
            clear hW5 R5 B5 O5 Z5
            go_wp2_with fail
            rw [← W5h.out]
            have q0 : W5.cell? ⟨Y, 0, none⟩ = some (.int .i64 0) := R5h.out.cell 0
            have q1 : W5.cell? ⟨Y, 1, none⟩ = some (.int .i64 0) := R5h.out.cell 1
            have q2 : W5.cell? ⟨Y, 2, none⟩ = some (.int .i64 0) := R5h.out.cell 2
            have q3 : W5.cell? ⟨Y, 3, none⟩ = some (.string ⟨#[]⟩) := R5h.out.cell 3
            have q4 : W5.cell? ⟨Y, 4, none⟩ = some (.slice none 0 0) := R5h.out.cell 4
            refine bodyPost_ret (v := .tuple #[.agg #[.int .i64 0, .int .i64 0, .int .i64 0, .string ⟨#[]⟩, .slice none 0 0], .int .i64 3]) (by simp [results, Try.results19, go_sem, q0, q1, q2, q3, q4]; try rfl) rfl ?_
            exact FIN.out _ B5h.out
          · have HOK : Hid (OK = true) := Lib.hid (by rw [ROh.out, hE, decide_eq_true hn8]; simp)
            have CW : Hid (Calls Try.prog 14 #[.agg #[.int .i64 a1, .int .i64 a2, .int .i64 a3, .string k, .slice ua j uc]] w9 fun e w' => e = .returned (.int .i64 0) ∧ Below w9.heap.size w9 w') := CW
            clear hE
            go_wp2_with fail
            refine CW.out.mono ?_
            rintro r w10 ⟨rfl, b10⟩
            have F10h := Lib.hid (FL.out.below b10)
            have K10h := Lib.hid (I9h.out.below b10).y
            have X10h := Lib.hid (I9h.out.below b10).x
            have B10h := Lib.hid (I9h.out.below b10).b
            clear b10 x0 x1 x2 x3 x4
            have x0 : w10.cell? ⟨E, 0, none⟩ = some (.int .i64 a1) := X10h.out.cell 0
            have x1 : w10.cell? ⟨E, 1, none⟩ = some (.int .i64 a2) := X10h.out.cell 1
            have x2 : w10.cell? ⟨E, 2, none⟩ = some (.int .i64 a3) := X10h.out.cell 2
            have x3 : w10.cell? ⟨E, 3, none⟩ = some (.string k) := X10h.out.cell 3
            have x4 : w10.cell? ⟨E, 4, none⟩ = some (.slice ua j uc) := X10h.out.cell 4
            have hne : ¬ (E = Y) := by omega
            have hne2 : ¬ (Y = E) := by omega
            have y0 : w10.cell? ⟨Y, 0, none⟩ = some (.int .i64 0) := K10h.out.cell 0
            have y1 : w10.cell? ⟨Y, 1, none⟩ = some (.int .i64 0) := K10h.out.cell 1
            have y2 : w10.cell? ⟨Y, 2, none⟩ = some (.int .i64 0) := K10h.out.cell 2
            have y3 : w10.cell? ⟨Y, 3, none⟩ = some (.string ⟨#[]⟩) := K10h.out.cell 3
            have y4 : w10.cell? ⟨Y, 4, none⟩ = some (.slice none 0 0) := K10h.out.cell 4
            have f0 := K10h.out.free 0
            have f1 := K10h.out.free 1
            have f2 := K10h.out.free 2
            have f3 := K10h.out.free 3
            have f4 := K10h.out.free 4
            obtain ⟨W5, hW5, R5, B5, O5, Z5⟩ := ev_put (u := w) a1 a2 a3 k (.slice ua j uc) K10h.out rfl (by rw [HY.out]; exact Nat.le_refl _) (by rw [HY.out]; exact B10h.out)
            have F5h := Lib.hid (F10h.out.other GX.out O5 Z5)
            have W5h := Lib.hid hW5
            have R5h := Lib.hid R5
            have B5h := Lib.hid B5
            clear hW5 R5 B5 O5 Z5
            go_wp2_with fail
            rw [← W5h.out]
            have q0 : W5.cell? ⟨Y, 0, none⟩ = some (.int .i64 a1) := R5h.out.cell 0
            have q1 : W5.cell? ⟨Y, 1, none⟩ = some (.int .i64 a2) := R5h.out.cell 1
            have q2 : W5.cell? ⟨Y, 2, none⟩ = some (.int .i64 a3) := R5h.out.cell 2
            have q3 : W5.cell? ⟨Y, 3, none⟩ = some (.string k) := R5h.out.cell 3
            have q4 : W5.cell? ⟨Y, 4, none⟩ = some (.slice ua j uc) := R5h.out.cell 4
            refine bodyPost_ret (v := .tuple #[.agg #[.int .i64 a1, .int .i64 a2, .int .i64 a3, .string k, .slice ua j uc], .int .i64 0]) (by simp [results, Try.results19, go_sem, q0, q1, q2, q3, q4]; try rfl) rfl ?_
            exact decd_yes (RTh.out HOK.out) LNX.out F5h.out B5h.out
        · have hE' : (Bt.endE s6 e6 != 0) = true := by simpa using hE
          have HOK : Hid (OK = false) := Lib.hid (by rw [ROh.out, decide_eq_false hE]; simp)
          have FIN := Lib.hid (fun (W : World) (hb : Below w.heap.size w W) => decd_nil RFh.out HOK.out hb)
          generalize Bt.endE s6 e6 = EE at *
          clear hE
          go_wp2_with fail
          refine (EN.out _).mono ?_
          rintro r w9 ⟨rfl, b9⟩
          have K9h := Lib.hid (HI.out.below b9).y
          have B9h := Lib.hid (HI.out.below b9).b
          clear b9 t0 t1
          have y0 : w9.cell? ⟨Y, 0, none⟩ = some (.int .i64 0) := K9h.out.cell 0
          have y1 : w9.cell? ⟨Y, 1, none⟩ = some (.int .i64 0) := K9h.out.cell 1
          have y2 : w9.cell? ⟨Y, 2, none⟩ = some (.int .i64 0) := K9h.out.cell 2
          have y3 : w9.cell? ⟨Y, 3, none⟩ = some (.string ⟨#[]⟩) := K9h.out.cell 3
          have y4 : w9.cell? ⟨Y, 4, none⟩ = some (.slice none 0 0) := K9h.out.cell 4
          have f0 := K9h.out.free 0
          have f1 := K9h.out.free 1
          have f2 := K9h.out.free 2
          have f3 := K9h.out.free 3
          have f4 := K9h.out.free 4
          obtain ⟨W5, hW5, R5, B5, O5, Z5⟩ := ev_put (u := w) 0 0 0 ⟨#[]⟩ (.slice none 0 0) K9h.out rfl (by rw [HY.out]; exact Nat.le_refl _) (by rw [HY.out]; exact B9h.out)
          have W5h := Lib.hid hW5
          have R5h := Lib.hid R5
          have B5h := Lib.hid B5
          clear hW5 R5 B5 O5 Z5
          go_wp2_with fail
          rw [← W5h.out]
          have q0 : W5.cell? ⟨Y, 0, none⟩ = some (.int .i64 0) := R5h.out.cell 0
          have q1 : W5.cell? ⟨Y, 1, none⟩ = some (.int .i64 0) := R5h.out.cell 1
          have q2 : W5.cell? ⟨Y, 2, none⟩ = some (.int .i64 0) := R5h.out.cell 2
          have q3 : W5.cell? ⟨Y, 3, none⟩ = some (.string ⟨#[]⟩) := R5h.out.cell 3
          have q4 : W5.cell? ⟨Y, 4, none⟩ = some (.slice none 0 0) := R5h.out.cell 4
          refine bodyPost_ret (v := .tuple #[.agg #[.int .i64 0, .int .i64 0, .int .i64 0, .string ⟨#[]⟩, .slice none 0 0], .int .i64 3]) (by simp [results, Try.results19, go_sem, q0, q1, q2, q3, q4]; try rfl) rfl ?_
          exact FIN.out _ B5h.out
  · have hq : (8 : Int) < (n : Int) := by omega
    have HOK : Hid (OK = false) := Lib.hid (by
      obtain ⟨_, _, h3⟩ := RES.out DF.1 DF.2.1 DF.2.2 rfl
      rw [h3, decide_eq_false hn8]; rfl)
    have FIN := Lib.hid (fun (W : World) (hb : Below w.heap.size w W) => decd_nil (RES.out DF.1 DF.2.1 DF.2.2 rfl).2.1 HOK.out hb)
    have hYl : Y < w7.heap.size := K7h.out.lt
    clear W8
    have y0 : w7.cell? ⟨Y, 0, none⟩ = some (.int .i64 0) := K7h.out.cell 0
    have y1 : w7.cell? ⟨Y, 1, none⟩ = some (.int .i64 0) := K7h.out.cell 1
    have y2 : w7.cell? ⟨Y, 2, none⟩ = some (.int .i64 0) := K7h.out.cell 2
    have y3 : w7.cell? ⟨Y, 3, none⟩ = some (.string ⟨#[]⟩) := K7h.out.cell 3
    have y4 : w7.cell? ⟨Y, 4, none⟩ = some (.slice none 0 0) := K7h.out.cell 4
    have f0 := K7h.out.free 0
    have f1 := K7h.out.free 1
    have f2 := K7h.out.free 2
    have f3 := K7h.out.free 3
    have f4 := K7h.out.free 4
    obtain ⟨W5, hW5, R5, B5, O5, Z5⟩ := ev_put (u := w) 0 0 0 ⟨#[]⟩ (.slice none 0 0) K7h.out rfl (by rw [HY.out]; exact Nat.le_refl _) (by rw [HY.out]; exact B7h.out)
    obtain ⟨W6, hW6, R6, B6⟩ : ∃ W6, W6 = W5.alloc (.cells #[.int .i64 a1, .int .i64 a2, .int .i64 a3, .string k, .slice none 0 0] 32) ∧ Blk W6 Y 32 #[.int .i64 0, .int .i64 0, .int .i64 0, .string ⟨#[]⟩, .slice none 0 0] ∧ Below w.heap.size w W6 :=
      ⟨_, rfl, R5.below ((Below.refl _ _).alloc (Nat.le_refl _) _), B5.alloc (by rw [HY.out]; exact Nat.le_of_lt R5.lt) _⟩
    have W6h := Lib.hid hW6
    have R6h := Lib.hid R6
    have B6h' := Lib.hid B6
    clear hW6 R6 B6
    have W5h := Lib.hid hW5
    have R5h := Lib.hid R5
    have B5h := Lib.hid B5
    clear hW5 R5 B5 O5 Z5
    go_wp2_with fail
    rw [← W5h.out]
    rw [← W6h.out]
    have q0 : W6.cell? ⟨Y, 0, none⟩ = some (.int .i64 0) := R6h.out.cell 0
    have q1 : W6.cell? ⟨Y, 1, none⟩ = some (.int .i64 0) := R6h.out.cell 1
    have q2 : W6.cell? ⟨Y, 2, none⟩ = some (.int .i64 0) := R6h.out.cell 2
    have q3 : W6.cell? ⟨Y, 3, none⟩ = some (.string ⟨#[]⟩) := R6h.out.cell 3
    have q4 : W6.cell? ⟨Y, 4, none⟩ = some (.slice none 0 0) := R6h.out.cell 4
    refine bodyPost_ret (v := .tuple #[.agg #[.int .i64 0, .int .i64 0, .int .i64 0, .string ⟨#[]⟩, .slice none 0 0], .int .i64 3]) (by simp [results, Try.results19, go_sem, q0, q1, q2, q3, q4]; try rfl) rfl ?_
    exact FIN.out _ B6h'.out
end Go.Proofs.Ytgenefamhhncbaa
