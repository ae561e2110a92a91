/-
  THE WALK OF event.Decode.
-/
import Derived.Test.YtgenefamhhncbaaDeci
import Derived.Deep.DeepCutAuto
import Derived.Deep.CutBlock
namespace Go.Proofs.Ytgenefamhhncbaa
open Go.RowKit
set_option maxHeartbeats 4000000 in
set_option maxRecDepth 100000 in
theorem decode_any (s : ByteArray) (hs : s.size ≤ 281474976710656) (w : World) : Calls Try.prog 18 #[.string s] w (Decd w (decC s) (decE s)) := by
  obtain ⟨w1, hw1, K1, B1⟩ : ∃ w1, w1 = w.alloc (.cells #[.int .i64 0, .int .i64 0, .int .i64 0, .string ⟨#[]⟩, .slice none 0 0] 24) ∧ Blk w1 w.heap.size 24 #[.int .i64 0, .int .i64 0, .int .i64 0, .string ⟨#[]⟩, .slice none 0 0] ∧ Below w.heap.size w w1 :=
    ⟨_, rfl, heap_alloc_new w _, (Below.refl _ w).alloc (Nat.le_refl _) _⟩
  have W1 := Lib.hid hw1
  have K1h := Lib.hid K1
  have B1h := Lib.hid B1
  have ZS : (d1 s).2.1.size ≤ s.size := tk_size _ _ _ _
  have ZS2 : (d2 s).2.1.size ≤ (d1 s).2.1.size := tk_size _ _ _ _
  have ZS3 : (d3 s).2.1.size ≤ (d2 s).2.1.size := tk_size _ _ _ _
  have ZS4 : (d4 s).2.1.size ≤ (d3 s).2.1.size := tk_size _ _ _ _
  have ZS5 : (d5 s).2.1.size ≤ (d4 s).2.1.size := tk_size _ _ _ _
  have ZK : (d4 s).1.size ≤ (d3 s).2.1.size := tText_size _ _ _
  have N0 := Lib.hid (Bt.at_any s w1 hs)
  have N1 : Hid (∀ (W : World) (b : Nat), Bt.TapeAt W b s 0 → Calls Try.prog 41 #[.pointer (some ⟨b, 0, none⟩)] W fun r w' => r = .returned (.int .u64 ((d1 s).1 : Int)) ∧ W.grownBy w' (some b) ∧ Bt.TapeAt w' b (d1 s).2.1 (d1 s).2.2) := Lib.hid (fun W b h => Bt.tapeNum_any h hs)
  have N2 : Hid (∀ (W : World) (b : Nat), Bt.TapeAt W b (d1 s).2.1 (d1 s).2.2 → Calls Try.prog 41 #[.pointer (some ⟨b, 0, none⟩)] W fun r w' => r = .returned (.int .u64 ((d2 s).1 : Int)) ∧ W.grownBy w' (some b) ∧ Bt.TapeAt w' b (d2 s).2.1 (d2 s).2.2) := Lib.hid (fun W b h => Bt.tapeNum_any h (by omega))
  have N3 : Hid (∀ (W : World) (b : Nat), Bt.TapeAt W b (d2 s).2.1 (d2 s).2.2 → Calls Try.prog 41 #[.pointer (some ⟨b, 0, none⟩)] W fun r w' => r = .returned (.int .u64 ((d3 s).1 : Int)) ∧ W.grownBy w' (some b) ∧ Bt.TapeAt w' b (d3 s).2.1 (d3 s).2.2) := Lib.hid (fun W b h => Bt.tapeNum_any h (by omega))
  have N4 : Hid (∀ (W : World) (b : Nat), Bt.TapeAt W b (d3 s).2.1 (d3 s).2.2 → Calls Try.prog 42 #[.pointer (some ⟨b, 0, none⟩), .int .i64 16] W fun r w' => r = .returned (.string (d4 s).1) ∧ W.grownBy w' (some b) ∧ Bt.TapeAt w' b (d4 s).2.1 (d4 s).2.2) := Lib.hid (fun W b h => Bt.tapeText_any h (most := 16) (by omega) (by decide) (by decide))
  have N5 : Hid (∀ (W : World) (b : Nat), Bt.TapeAt W b (d4 s).2.1 (d4 s).2.2 → Calls Try.prog 41 #[.pointer (some ⟨b, 0, none⟩)] W fun r w' => r = .returned (.int .u64 ((d5 s).1 : Int)) ∧ W.grownBy w' (some b) ∧ Bt.TapeAt w' b (d5 s).2.1 (d5 s).2.2) := Lib.hid (fun W b h => Bt.tapeNum_any h (by omega))
  have ek1 : IntKind.i64.wrap ((d1 s).1 : Int) = w64 (d1 s).1 := rfl
  have ek2 : IntKind.i64.wrap ((d2 s).1 : Int) = w64 (d2 s).1 := rfl
  have ek3 : IntKind.i64.wrap ((d3 s).1 : Int) = w64 (d3 s).1 := rfl
  have RES : Hid (∀ (L : List Fld) (s6 : ByteArray) (e6 : Int), dF s = (L, s6, e6) → (okC s = true → decC s = ⟨w64 (d1 s).1, w64 (d2 s).1, w64 (d3 s).1, (d4 s).1, L⟩ ∧ decE s = 0) ∧ (okC s = false → decC s = evNil ∧ decE s = 3) ∧ okC s = (decide ((d5 s).1 ≤ 8) && (decide (Bt.endE s6 e6 = 0) && chkB (w64 (d1 s).1) (w64 (d2 s).1) (w64 (d3 s).1) (d4 s).1 L))) := Lib.hid (by
    intro L s6 e6 h
    refine ⟨fun ho => ?_, fun ho => ?_, ?_⟩
    · unfold decC decE; rw [if_pos ho, if_pos ho, h]; exact ⟨rfl, rfl⟩
    · unfold decC decE; rw [ho]; exact ⟨rfl, rfl⟩
    · unfold okC; rw [h])
  have hdF : Hid (dF s = dFlds tVal (d5 s).2.1 (d5 s).2.2 (d5 s).1) := Lib.hid rfl
  have SZF := Lib.hid (fun j => dFlds_size tVal_size (d5 s).2.1 (d5 s).2.2 j)
  have LNF := Lib.hid (fun j => dFlds_len tVal (d5 s).2.1 (d5 s).2.2 j)
  have hn0 : (d5 s).1 < 18446744073709551616 := Bt.tNum_lt _ _
  generalize decC s = DC at *
  generalize decE s = DE at *
  generalize okC s = OK at *
  generalize dF s = DF at *
  generalize w64 (d1 s).1 = a1 at *
  generalize w64 (d2 s).1 = a2 at *
  generalize w64 (d3 s).1 = a3 at *
  generalize (d1 s).1 = n1 at *
  generalize (d2 s).1 = n2 at *
  generalize (d3 s).1 = n3 at *
  generalize (d4 s).1 = k at *
  generalize (d5 s).1 = n at *
  generalize (d1 s).2.1 = s1 at *
  generalize (d1 s).2.2 = e1 at *
  generalize (d2 s).2.1 = s2 at *
  generalize (d2 s).2.2 = e2 at *
  generalize (d3 s).2.1 = s3 at *
  generalize (d3 s).2.2 = e3 at *
  generalize (d4 s).2.1 = s4 at *
  generalize (d4 s).2.2 = e4 at *
  generalize (d5 s).2.1 = s5 at *
  generalize (d5 s).2.2 = e5 at *
  have HN0 := Lib.hid hn0
  clear hw1 K1 B1 hn0
  generalize hy : w.heap.size = Y at *
  have HY := Lib.hid hy
  go_enter Try.func18, Try.ntmps18
  go_wp2_with fail
  rw [← W1.out]
  refine N0.out.mono ?_
  rintro r w2 ⟨b, rfl, hb1, T2, b2⟩
  have hYw1 : Y < w1.heap.size := K1h.out.lt
  have hYb : Y < b := by omega
  have K2h := Lib.hid (K1h.out.below b2)
  have B2h : Hid (Below Y w w2) := Lib.hid (B1h.out.trans (b2.mono (by omega)))
  have T2h := Lib.hid T2
  clear b2 T2 hb1 hYw1
  go_wp2_with fail
  refine (N1.out _ _ T2h.out).mono ?_
  rintro r w3 ⟨rfl, g3, T3⟩
  have T3h := Lib.hid T3
  have G3h := Lib.hid g3
  clear T3 g3
  go_wp2_with fail
  refine (N2.out _ _ T3h.out).mono ?_
  rintro r w4 ⟨rfl, g4, T4⟩
  have T4h := Lib.hid T4
  have G4h := Lib.hid (gb_trans G3h.out g4)
  clear T4 g4 T3h G3h
  go_wp2_with fail
  refine (N3.out _ _ T4h.out).mono ?_
  rintro r w5 ⟨rfl, g5, T5⟩
  have T5h := Lib.hid T5
  have G5h := Lib.hid (gb_trans G4h.out g5)
  clear T5 g5 T4h G4h
  go_wp2_with fail
  refine (N4.out _ _ T5h.out).mono ?_
  rintro r w6 ⟨rfl, g6, T6⟩
  have G6 := gb_trans G5h.out g6
  have hbl := T6.lt
  have K6 := K2h.out.grown G6 (by omega)
  have B6 := below_grown B2h.out G6 (by omega) (by have := K2h.out.lt; omega)
  obtain ⟨w7, hw7, K7, X7, T7, B7⟩ : ∃ w7, w7 = w6.alloc (.cells #[.int .i64 a1, .int .i64 a2, .int .i64 a3, .string k, .slice none 0 0] 24) ∧ Blk w7 Y 24 #[.int .i64 0, .int .i64 0, .int .i64 0, .string ⟨#[]⟩, .slice none 0 0] ∧ Blk w7 w6.heap.size 24 #[.int .i64 a1, .int .i64 a2, .int .i64 a3, .string k, .slice none 0 0] ∧ Bt.TapeAt w7 b s4 e4 ∧ Below Y w w7 :=
    ⟨_, rfl, K6.below ((Below.refl _ _).alloc (Nat.le_refl _) _), heap_alloc_new w6 _, tape_alloc T6 _, B6.alloc (by omega) _⟩
  have W7 := Lib.hid hw7
  have K7h := Lib.hid K7
  have X7h := Lib.hid X7
  have T7h := Lib.hid T7
  have B7h := Lib.hid B7
  clear hw7 K7 X7 T7 B7 K6 B6 G6 g6 T6 G5h T5h
  go_wp2_with fail
  rw [← W7.out]
  clear W7
  generalize w6.heap.size = X at *
  refine (N5.out _ _ T7h.out).mono ?_
  rintro r w8 ⟨rfl, g8, T8⟩
  have K8h := Lib.hid (K7h.out.grown g8 (by omega))
  have X8h := Lib.hid (X7h.out.grown g8 (by omega))
  have B8h := Lib.hid (below_grown B7h.out g8 (by omega) (by have := K7h.out.lt; omega))
  have T8h := Lib.hid T8
  have hX8 := X8h.out.lt
  clear g8 T8 K7h X7h T7h B7h K2h B2h T2h
  clear ek1 ek2 ek3 N0 N1 N2 N3 N4 N5
  by_cases hn8 : n ≤ 8
  · have hq : ¬ (8 : Int) < (n : Int) := by omega
    obtain ⟨i65, hi, hz0, hz1, hz2⟩ := info_parts info65
    go_wp2_with fail
    go_loopw [27] (fun i wq => ∃ (j : Nat) (u : Value), i = .int .u64 j ∧ j ≤ n ∧ DecI w wq Y b X a1 a2 a3 k (dFlds tVal s5 e5 j).1 j u (dFlds tVal s5 e5 j).2.1 (dFlds tVal s5 e5 j).2.2) (fun i _ => n - (intOf i).toNat)
    case atStart => exact ⟨0, .slice none 0 0, rfl, Nat.zero_le _, ⟨K8h.out, X8h.out, T8h.out, World.ownsRow_nil _ _ _ _, B8h.out⟩⟩
    case round =>
      obtain ⟨j, u, rfl, hj, hI⟩ := hrel
      have HI := Lib.hid hI
      obtain ⟨ua, uc, hu⟩ := row_form hI.o
      subst hu
      have x4 : wr.cell? ⟨X, 4, none⟩ = some (.slice ua j uc) := hI.x.cell 4
      have hXr := hI.x.lt
      clear hI
      by_cases hjn : j < n
      · obtain ⟨zj, _⟩ := SZF.out j
        have TT := Lib.hid (fun W (h : Bt.TapeAt W b (dFlds tVal s5 e5 j).2.1 (dFlds tVal s5 e5 j).2.2) => Bt.tapeText_any h (most := 16) (by omega) (by decide) (by decide))
        have TV := Lib.hid (fun W (h : Bt.TapeAt W b (Bt.tText (dFlds tVal s5 e5 j).2.1 (dFlds tVal s5 e5 j).2.2 16).2.1 (Bt.tText (dFlds tVal s5 e5 j).2.1 (dFlds tVal s5 e5 j).2.2 16).2.2) => takeval_any h (by have : (Bt.tText (dFlds tVal s5 e5 j).2.1 (dFlds tVal s5 e5 j).2.2 16).2.1.size ≤ (dFlds tVal s5 e5 j).2.1.size := tk_size _ _ _ _; omega))
        have HS1 : Hid (dFlds tVal s5 e5 (j + 1) = ((dFlds tVal s5 e5 j).1 ++ [⟨(Bt.tText (dFlds tVal s5 e5 j).2.1 (dFlds tVal s5 e5 j).2.2 16).1, (tVal (Bt.tText (dFlds tVal s5 e5 j).2.1 (dFlds tVal s5 e5 j).2.2 16).2.1 (Bt.tText (dFlds tVal s5 e5 j).2.1 (dFlds tVal s5 e5 j).2.2 16).2.2).1⟩], (tVal (Bt.tText (dFlds tVal s5 e5 j).2.1 (dFlds tVal s5 e5 j).2.2 16).2.1 (Bt.tText (dFlds tVal s5 e5 j).2.1 (dFlds tVal s5 e5 j).2.2 16).2.2).2)) := Lib.hid rfl
        generalize (dFlds tVal s5 e5 j).1 = L at *
        generalize (dFlds tVal s5 e5 j).2.1 = sj at *
        generalize (dFlds tVal s5 e5 j).2.2 = ej at *
        generalize Bt.tText sj ej 16 = tx at *
        obtain ⟨xn, sx, ex⟩ := tx
        simp only at HS1 TV
        generalize tVal sx ex = tv at *
        obtain ⟨⟨xk, xm, xf, xs⟩, sv, ev⟩ := tv
        simp only at HS1
        have TT : Hid (∀ W, Bt.TapeAt W b sj ej → Calls Try.prog 42 #[.pointer (some ⟨b, 0, none⟩), .int .i64 16] W fun r w' => r = .returned (.string xn) ∧ W.grownBy w' (some b) ∧ Bt.TapeAt w' b sx ex) := TT
        have TV : Hid (∀ W, Bt.TapeAt W b sx ex → Calls Try.prog 43 #[.pointer (some ⟨b, 0, none⟩)] W fun r w' => r = .returned (.agg #[.int .i64 xk, .int .i64 xm, .float .f64 xf, .string xs]) ∧ W.grownBy w' (some b) ∧ Bt.TapeAt w' b sv ev) := TV
        have PU := Lib.hid (fun W0 w4 g cap => HI.out.push (W0 := W0) (w4 := w4) (g := g) (cap := cap) (s' := sv) (e' := ev) (x := ⟨xn, ⟨xk, xm, xf, xs⟩⟩) hYb (by omega))
        have OW := Lib.hid (fun W0 => HI.out.own (W0 := W0) (by omega))
        have H1C := Lib.hid (ev_one ⟨xn, ⟨xk, xm, xf, xs⟩⟩)
        have TD : Hid (Bt.TapeAt wr.drew b sj ej) := Lib.hid HI.out.t
        have hbX' : ¬ (X = b) := by omega
        have hj8 : j + 1 ≤ 8 := by omega
        have hB0 : (0 : Nat) < 1 := by decide
        go_upto_block 1 with fail
        go_cut [29] (fun s29 wx => ∃ v5, DecI w wx Y b X a1 a2 a3 k (dFlds tVal s5 e5 (j + 1)).1 (j + 1) v5 (dFlds tVal s5 e5 (j + 1)).2.1 (dFlds tVal s5 e5 (j + 1)).2.2)
        case first =>
          go_upto_region 8 with fail
          go_region_law
            (first
              | (refine step_append_lies _ rfl (.tmp 30) (.tmp 36) 22 rfl (X + 1) 65 i65 (.agg #[.string ⟨#[]⟩, .int .i64 0, .int .i64 0, .float .f64 0, .string ⟨#[]⟩]) 5 56 Try.underlying22 hi hz0 hz1 hz2 rfl (by decide) (.slice ua j uc) j (cellsF L) rfl (World.ownsRow.alloc OW2.out _) ⟨v2.heap.size, 0, none⟩ 1 1 (encF ⟨xn, ⟨xk, xm, xf, xs⟩⟩) rfl rfl (World.news_of_block (cs := #[.string xn, .int .i64 xk, .int .i64 xm, .float .f64 xf, .string xs]) (heap_alloc_new v2 _)) H1C.out (by decide) (by unfold maxLen; omega) (by omega) (by have := hXv; simp; omega) _ rfl ?_; intro g4 cap4 w4 ho4 hg4 hat4 _; obtain ⟨I4, f4, q4⟩ := PU.out _ w4 g4 cap4 (gb_alloc G2h.out _) (tape_alloc T2h.out _) ho4 hg4; have I4h := Lib.hid I4; clear I4 ho4 hg4 hat4)
              | (go_simp; go_at_call 42; refine (TT.out _ TD.out).mono ?_; rintro r v1 ⟨rfl, g1, T1⟩; have T1h := Lib.hid T1; have G1h := Lib.hid (gb_drew g1); have c1 : v1.cell? ⟨X, 4, none⟩ = some (.slice ua j uc) := World.grownBy.cell G1h.out x4 (by simpa using hbX'); clear T1 g1)
              | (go_simp; go_at_call 43; refine (TV.out _ T1h.out).mono ?_; rintro r v2 ⟨rfl, g2, T2⟩; have T2h := Lib.hid T2; have G2h := Lib.hid (gb_trans G1h.out g2); have c2 : v2.cell? ⟨X, 4, none⟩ = some (.slice ua j uc) := World.grownBy.cell g2 c1 (by simpa using hbX'); have OW2 := Lib.hid (OW.out v2 G2h.out); have hXv : X + 1 ≤ v2.heap.size := Nat.le_trans hXr G2h.out.size; have hXv' : (⟨X, 4, none⟩ : Addr).block < v2.heap.size := hXv; have c3 : ∀ o, (v2.alloc o).cell? ⟨X, 4, none⟩ = some (.slice ua j uc) := fun o => (World.cell?_alloc_lt _ _ _ hXv').trans c2; clear T2 g2))
          all_goals (go_wp2_with fail; go_meet; exact ⟨_, by rw [HS1.out]; exact I4h.out⟩)
        case rest =>
          obtain ⟨v5, I5⟩ := hcut
          have I5h := Lib.hid I5
          clear I5 H1C PU x4 HI TT TV OW TD HS1
          go_wp2_with fail
          go_roundw
          case rel => exact ⟨j + 1, _, by go_num, by omega, I5h.out⟩
          case measure => simp [intOf]; omega
      · obtain rfl : j = n := by omega
        have hEQ := hdF.out
        have SZX := Lib.hid (SZF.out j).2
        have LNX := Lib.hid (LNF.out j)
        have T6h := Lib.hid HI.out.t
        have K6h := Lib.hid HI.out.y
        have X6h := Lib.hid HI.out.x
        have B6h := Lib.hid HI.out.b
        have O6h := Lib.hid HI.out.o
        rw [show dFlds tVal s5 e5 j = ((dFlds tVal s5 e5 j).1, (dFlds tVal s5 e5 j).2.1, (dFlds tVal s5 e5 j).2.2) from rfl] at hEQ
        obtain ⟨RT, RF, RO⟩ := RES.out _ _ _ hEQ
        have RTh := Lib.hid RT
        have RFh := Lib.hid RF
        have ROh := Lib.hid RO
        clear RT RF RO hEQ HI SZF LNF hdF RES
        generalize (dFlds tVal s5 e5 j).1 = L at *
        generalize (dFlds tVal s5 e5 j).2.1 = s6 at *
        generalize (dFlds tVal s5 e5 j).2.2 = e6 at *
        have EN := Lib.hid (Bt.end_any T6h.out)
        have CK := Lib.hid (fun W (hf : Flds W ua L) => check_any a1 a2 a3 k ua uc L W (by rw [LNX.out]; omega) (by omega) hf (fun x hx => by have := SZX.out x hx; omega))
        have FL := Lib.hid (flds_row LNX.out.symm O6h.out)
        generalize chkB a1 a2 a3 k L = cB at *
        by_cases hE : Bt.endE s6 e6 = 0
        · rw [hE] at EN
          have x0 : wr.cell? ⟨X, 0, none⟩ = some (.int .i64 a1) := X6h.out.cell 0
          have x1 : wr.cell? ⟨X, 1, none⟩ = some (.int .i64 a2) := X6h.out.cell 1
          have x2 : wr.cell? ⟨X, 2, none⟩ = some (.int .i64 a3) := X6h.out.cell 2
          have x3 : wr.cell? ⟨X, 3, none⟩ = some (.string k) := X6h.out.cell 3
          have CW := Lib.hid (CK.out wr FL.out)
          rw [LNX.out] at CW
          unfold evV at CW
          have GX : Hid (∀ g o, ua = some ⟨g, o, none⟩ → 0 < L.length → g ≠ Y) := Lib.hid (fun g o e h0 => by
            have h1 := (World.ownsRow.lt O6h.out g (by rw [e]; rfl)).1
            omega)
          cases cB
          · have HOK : Hid (OK = false) := Lib.hid (by rw [ROh.out]; simp)
            have FIN := Lib.hid (fun (W : World) (hb : Below w.heap.size w W) => decd_nil RFh.out HOK.out hb)
            have CW : Hid (Calls Try.prog 13 #[.agg #[.int .i64 a1, .int .i64 a2, .int .i64 a3, .string k, .slice ua j uc]] wr fun e w' => e = .returned (.int .i64 1) ∧ Below wr.heap.size wr w') := CW
            clear hE
            go_wp2_with fail
            refine EN.out.mono ?_
            rintro r w9 ⟨rfl, rfl⟩
            go_wp2_with fail
            refine CW.out.mono ?_
            rintro r w10 ⟨rfl, b10⟩
            have K10h := Lib.hid (K6h.out.below b10)
            have B10h := Lib.hid (B6h.out.trans (b10.mono (by have := K6h.out.lt; omega)))
            clear b10 x0 x1 x2 x3 x4
            have y0 : w10.cell? ⟨Y, 0, none⟩ = some (.int .i64 0) := K10h.out.cell 0
            have y1 : w10.cell? ⟨Y, 1, none⟩ = some (.int .i64 0) := K10h.out.cell 1
            have y2 : w10.cell? ⟨Y, 2, none⟩ = some (.int .i64 0) := K10h.out.cell 2
            have y3 : w10.cell? ⟨Y, 3, none⟩ = some (.string ⟨#[]⟩) := K10h.out.cell 3
            have y4 : w10.cell? ⟨Y, 4, none⟩ = some (.slice none 0 0) := K10h.out.cell 4
            have f0 := K10h.out.free 0
            have f1 := K10h.out.free 1
            have f2 := K10h.out.free 2
            have f3 := K10h.out.free 3
            have f4 := K10h.out.free 4
            obtain ⟨W5, hW5, R5, B5, _, _⟩ := ev_put (u := w) 0 0 0 ⟨#[]⟩ (.slice none 0 0) K10h.out rfl (by rw [HY.out]; exact Nat.le_refl _) (by rw [HY.out]; exact B10h.out)
            have W5h := Lib.hid hW5
            have R5h := Lib.hid R5
            have B5h := Lib.hid B5
            clear hW5 R5 B5
            go_wp2_with fail
            rw [← W5h.out]
            have q0 : W5.cell? ⟨Y, 0, none⟩ = some (.int .i64 0) := R5h.out.cell 0
            have q1 : W5.cell? ⟨Y, 1, none⟩ = some (.int .i64 0) := R5h.out.cell 1
            have q2 : W5.cell? ⟨Y, 2, none⟩ = some (.int .i64 0) := R5h.out.cell 2
            have q3 : W5.cell? ⟨Y, 3, none⟩ = some (.string ⟨#[]⟩) := R5h.out.cell 3
            have q4 : W5.cell? ⟨Y, 4, none⟩ = some (.slice none 0 0) := R5h.out.cell 4
            refine bodyPost_ret (v := .tuple #[.agg #[.int .i64 0, .int .i64 0, .int .i64 0, .string ⟨#[]⟩, .slice none 0 0], .int .i64 3]) (by simp [results, Try.results18, go_sem, q0, q1, q2, q3, q4]; try rfl) rfl ?_
            exact FIN.out _ B5h.out
          · have HOK : Hid (OK = true) := Lib.hid (by rw [ROh.out, hE, decide_eq_true hn8]; simp)
            have CW : Hid (Calls Try.prog 13 #[.agg #[.int .i64 a1, .int .i64 a2, .int .i64 a3, .string k, .slice ua j uc]] wr fun e w' => e = .returned (.int .i64 0) ∧ Below wr.heap.size wr w') := CW
            clear hE
            go_wp2_with fail
            refine EN.out.mono ?_
            rintro r w9 ⟨rfl, rfl⟩
            go_wp2_with fail
            refine CW.out.mono ?_
            rintro r w10 ⟨rfl, b10⟩
            have F10h := Lib.hid (FL.out.below b10)
            have K10h := Lib.hid (K6h.out.below b10)
            have X10h := Lib.hid (X6h.out.below b10)
            have B10h := Lib.hid (B6h.out.trans (b10.mono (by have := K6h.out.lt; omega)))
            clear b10 x0 x1 x2 x3 x4
            have x0 : w10.cell? ⟨X, 0, none⟩ = some (.int .i64 a1) := X10h.out.cell 0
            have x1 : w10.cell? ⟨X, 1, none⟩ = some (.int .i64 a2) := X10h.out.cell 1
            have x2 : w10.cell? ⟨X, 2, none⟩ = some (.int .i64 a3) := X10h.out.cell 2
            have x3 : w10.cell? ⟨X, 3, none⟩ = some (.string k) := X10h.out.cell 3
            have x4 : w10.cell? ⟨X, 4, none⟩ = some (.slice ua j uc) := X10h.out.cell 4
            have hne : ¬ (X = Y) := by omega
            have hne2 : ¬ (Y = X) := by omega
            have y0 : w10.cell? ⟨Y, 0, none⟩ = some (.int .i64 0) := K10h.out.cell 0
            have y1 : w10.cell? ⟨Y, 1, none⟩ = some (.int .i64 0) := K10h.out.cell 1
            have y2 : w10.cell? ⟨Y, 2, none⟩ = some (.int .i64 0) := K10h.out.cell 2
            have y3 : w10.cell? ⟨Y, 3, none⟩ = some (.string ⟨#[]⟩) := K10h.out.cell 3
            have y4 : w10.cell? ⟨Y, 4, none⟩ = some (.slice none 0 0) := K10h.out.cell 4
            have f0 := K10h.out.free 0
            have f1 := K10h.out.free 1
            have f2 := K10h.out.free 2
            have f3 := K10h.out.free 3
            have f4 := K10h.out.free 4
            obtain ⟨W5, hW5, R5, B5, O5, Z5⟩ := ev_put (u := w) a1 a2 a3 k (.slice ua j uc) K10h.out rfl (by rw [HY.out]; exact Nat.le_refl _) (by rw [HY.out]; exact B10h.out)
            have W5h := Lib.hid hW5
            have R5h := Lib.hid R5
            have B5h := Lib.hid B5
            have F5h := Lib.hid (F10h.out.other GX.out O5 Z5)
            clear hW5 R5 B5 O5 Z5
            go_wp2_with fail
            rw [← W5h.out]
            have q0 : W5.cell? ⟨Y, 0, none⟩ = some (.int .i64 a1) := R5h.out.cell 0
            have q1 : W5.cell? ⟨Y, 1, none⟩ = some (.int .i64 a2) := R5h.out.cell 1
            have q2 : W5.cell? ⟨Y, 2, none⟩ = some (.int .i64 a3) := R5h.out.cell 2
            have q3 : W5.cell? ⟨Y, 3, none⟩ = some (.string k) := R5h.out.cell 3
            have q4 : W5.cell? ⟨Y, 4, none⟩ = some (.slice ua j uc) := R5h.out.cell 4
            refine bodyPost_ret (v := .tuple #[.agg #[.int .i64 a1, .int .i64 a2, .int .i64 a3, .string k, .slice ua j uc], .int .i64 0]) (by simp [results, Try.results18, go_sem, q0, q1, q2, q3, q4]; try rfl) rfl ?_
            exact decd_yes (RTh.out HOK.out) LNX.out F5h.out B5h.out
        · have hE' : (Bt.endE s6 e6 != 0) = true := by simpa using hE
          have HOK : Hid (OK = false) := Lib.hid (by rw [ROh.out, decide_eq_false hE]; simp)
          have FIN := Lib.hid (fun (W : World) (hb : Below w.heap.size w W) => decd_nil RFh.out HOK.out hb)
          generalize Bt.endE s6 e6 = E at *
          clear hE
          go_wp2_with fail
          refine EN.out.mono ?_
          rintro r w9 ⟨rfl, rfl⟩
          have y0 : wr.cell? ⟨Y, 0, none⟩ = some (.int .i64 0) := K6h.out.cell 0
          have y1 : wr.cell? ⟨Y, 1, none⟩ = some (.int .i64 0) := K6h.out.cell 1
          have y2 : wr.cell? ⟨Y, 2, none⟩ = some (.int .i64 0) := K6h.out.cell 2
          have y3 : wr.cell? ⟨Y, 3, none⟩ = some (.string ⟨#[]⟩) := K6h.out.cell 3
          have y4 : wr.cell? ⟨Y, 4, none⟩ = some (.slice none 0 0) := K6h.out.cell 4
          have f0 := K6h.out.free 0
          have f1 := K6h.out.free 1
          have f2 := K6h.out.free 2
          have f3 := K6h.out.free 3
          have f4 := K6h.out.free 4
          obtain ⟨W5, hW5, R5, B5, _, _⟩ := ev_put (u := w) 0 0 0 ⟨#[]⟩ (.slice none 0 0) K6h.out rfl (by rw [HY.out]; exact Nat.le_refl _) (by rw [HY.out]; exact B6h.out)
          have W5h := Lib.hid hW5
          have R5h := Lib.hid R5
          have B5h := Lib.hid B5
          clear hW5 R5 B5
          go_wp2_with fail
          rw [← W5h.out]
          have q0 : W5.cell? ⟨Y, 0, none⟩ = some (.int .i64 0) := R5h.out.cell 0
          have q1 : W5.cell? ⟨Y, 1, none⟩ = some (.int .i64 0) := R5h.out.cell 1
          have q2 : W5.cell? ⟨Y, 2, none⟩ = some (.int .i64 0) := R5h.out.cell 2
          have q3 : W5.cell? ⟨Y, 3, none⟩ = some (.string ⟨#[]⟩) := R5h.out.cell 3
          have q4 : W5.cell? ⟨Y, 4, none⟩ = some (.slice none 0 0) := R5h.out.cell 4
          refine bodyPost_ret (v := .tuple #[.agg #[.int .i64 0, .int .i64 0, .int .i64 0, .string ⟨#[]⟩, .slice none 0 0], .int .i64 3]) (by simp [results, Try.results18, go_sem, q0, q1, q2, q3, q4]; try rfl) rfl ?_
          exact FIN.out _ B5h.out
  · have hq : (8 : Int) < (n : Int) := by omega
    have HOK : Hid (OK = false) := Lib.hid (by
      obtain ⟨_, _, h3⟩ := RES.out DF.1 DF.2.1 DF.2.2 rfl
      rw [h3, decide_eq_false hn8]; rfl)
    have FIN := Lib.hid (fun (W : World) (hb : Below w.heap.size w W) => decd_nil (RES.out DF.1 DF.2.1 DF.2.2 rfl).2.1 HOK.out hb)
    have y0 : w8.cell? ⟨Y, 0, none⟩ = some (.int .i64 0) := K8h.out.cell 0
    have y1 : w8.cell? ⟨Y, 1, none⟩ = some (.int .i64 0) := K8h.out.cell 1
    have y2 : w8.cell? ⟨Y, 2, none⟩ = some (.int .i64 0) := K8h.out.cell 2
    have y3 : w8.cell? ⟨Y, 3, none⟩ = some (.string ⟨#[]⟩) := K8h.out.cell 3
    have y4 : w8.cell? ⟨Y, 4, none⟩ = some (.slice none 0 0) := K8h.out.cell 4
    have f0 := K8h.out.free 0
    have f1 := K8h.out.free 1
    have f2 := K8h.out.free 2
    have f3 := K8h.out.free 3
    have f4 := K8h.out.free 4
    obtain ⟨W5, hW5, R5, B5, _, _⟩ := ev_put (u := w) 0 0 0 ⟨#[]⟩ (.slice none 0 0) K8h.out rfl (by rw [HY.out]; exact Nat.le_refl _) (by rw [HY.out]; exact B8h.out)
    have W5h := Lib.hid hW5
    have R5h := Lib.hid R5
    have B5h := Lib.hid B5
    clear hW5 R5 B5
    go_wp2_with fail
    rw [← W5h.out]
    have q0 : W5.cell? ⟨Y, 0, none⟩ = some (.int .i64 0) := R5h.out.cell 0
    have q1 : W5.cell? ⟨Y, 1, none⟩ = some (.int .i64 0) := R5h.out.cell 1
    have q2 : W5.cell? ⟨Y, 2, none⟩ = some (.int .i64 0) := R5h.out.cell 2
    have q3 : W5.cell? ⟨Y, 3, none⟩ = some (.string ⟨#[]⟩) := R5h.out.cell 3
    have q4 : W5.cell? ⟨Y, 4, none⟩ = some (.slice none 0 0) := R5h.out.cell 4
    refine bodyPost_ret (v := .tuple #[.agg #[.int .i64 0, .int .i64 0, .int .i64 0, .string ⟨#[]⟩, .slice none 0 0], .int .i64 3]) (by simp [results, Try.results18, go_sem, q0, q1, q2, q3, q4]; try rfl) rfl ?_
    exact FIN.out _ B5h.out
end Go.Proofs.Ytgenefamhhncbaa
