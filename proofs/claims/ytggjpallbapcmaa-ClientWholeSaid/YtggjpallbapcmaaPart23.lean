/-
  WHAT THE ROWS REST ON, part 23: Whw.
-/
import Derived.Deep.CutRange
import Derived.Laws.Tables
import Derived.Deep.CutBlock
import Derived.BigQuiet
import Derived.Test.YtggjpallbapcmaaPart22
/-
  THE LAW OF ClientWhole AS A WALK.
-/
namespace Go.Proofs.Ytggjpallbapcmaa
open Go.RowKit
theorem info9 : (Try.prog.info? 9).map (fun i => (i.zero, i.size, i.bytes)) = some (some (.string ⟨#[]⟩), 1, 16) := by kernel_rfl
theorem most_ok (m : Int) : 1 ≤ wrap64 (1 + (wrap64 (m.tmod 9 + 9)).tmod 9) ∧ wrap64 (1 + (wrap64 (m.tmod 9 + 9)).tmod 9) ≤ 9 := by
  have h1 := Int.lt_tmod_of_pos m (b := 9) (by decide)
  have h2 := Int.tmod_lt_of_pos m (b := 9) (by decide)
  have e1 : wrap64 (m.tmod 9 + 9) = m.tmod 9 + 9 := by unfold wrap64; omega
  rw [e1]
  have h3 := Int.tmod_lt_of_pos (m.tmod 9 + 9) (b := 9) (by decide)
  have h4 := Int.tmod_nonneg (a := m.tmod 9 + 9) 9 (by omega)
  have e2 : wrap64 (1 + (m.tmod 9 + 9).tmod 9) = 1 + (m.tmod 9 + 9).tmod 9 := by unfold wrap64; omega
  rw [e2]
  omega
theorem lead_ok (m : Int) : ∃ i : Nat, i < 3 ∧ (wrap64 (m.tmod 3 + 3)).tmod 3 = i := by
  have h1 := Int.lt_tmod_of_pos m (b := 3) (by decide)
  have h2 := Int.tmod_lt_of_pos m (b := 3) (by decide)
  have e1 : wrap64 (m.tmod 3 + 3) = m.tmod 3 + 3 := by unfold wrap64; omega
  rw [e1]
  have h3 := Int.tmod_lt_of_pos (m.tmod 3 + 3) (b := 3) (by decide)
  have h4 := Int.tmod_nonneg (a := m.tmod 3 + 3) 3 (by omega)
  exact ⟨((m.tmod 3 + 3).tmod 3).toNat, by omega, by omega⟩
theorem may_p (M : Int) (h : 1 ≤ M) : mayR 3 ⟨#[112]⟩ M = true := by
  have : wordB ⟨#[112]⟩ = true := by decide +kernel
  simp [mayR, manyB, this]
  omega
theorem txt_zero : Bk.txtS 0 [] = Bk.txtS 0 (Bk.rowI 0 0) := rfl
/-- a new book's text -/
theorem new_text {w : World} {tb : Nat} (h : Bk.BookAt w (fun q => q = tb) tb 0 []) : Calls Try.prog 29 #[.pointer (some ⟨tb, 0, none⟩)] w fun e w' => e = .returned (.string (Bk.txtS 0 (Bk.rowI 0 0))) ∧ Below w.heap.size w w' :=
  Bk.text_any h ⟨by decide, by decide, by decide⟩ (fun _ h => by cases h) rfl
theorem ws_start : WS ⟨0, 0, 0, []⟩ 0 0 0 (Bk.txtS 0 (Bk.rowI 0 0)) (Bk.txtS 0 (Bk.rowI 0 0)) (Bk.txtS 0 (Bk.rowI 0 0)) := by
  have hn : NodeOk 0 (Bk.txtS 0 (Bk.rowI 0 0)) := ⟨0, 0, rfl, by decide, by decide, by decide⟩
  exact ⟨⟨⟨by decide, by decide⟩, by decide, rfl, by decide, trivial, by decide⟩, by decide, rfl, by decide, hn, hn, hn⟩
theorem wh_start {W w1 w2 : World} {t : Nat} {M : Int} {S : ByteArray} (ht : W.heap.size ≤ t) (T : Blk w1 t 119 (rdr 3 0 ⟨#[112]⟩ M 0 0 (.slice none 0 0))) (b : Below W.heap.size W w1) (b2 : Below w1.heap.size w1 w2) :
    WhA W (w2.alloc (.cells #[.string S, .string S, .string S] 79)) (fun q => q = t) t w2.heap.size ⟨0, 0, 0, []⟩ M S S S (.slice none 0 0) [] 0 := by
  have B1 : Below w2.heap.size w2 (w2.alloc (.cells #[.string S, .string S, .string S] 79)) := (Below.refl _ _).alloc (Nat.le_refl _) _
  have htl := (T.below b2).lt
  have hz := b2.size
  have hz1 := b.size
  have hs : (w2.alloc (.cells #[.string S, .string S, .string S] 79)).heap.size = w2.heap.size + 1 := by simp
  have no : ∀ q, (Value.slice none 0 0).ownBlock = some q → False := fun q hq => by simp [Value.ownBlock] at hq
  refine ⟨⟨.slice none 0 0, [], ⟨(T.below b2).below B1, World.ownsRow_nil _ _ _ _, fun q hq => (no q hq).elim, fun i hi => by simp at hi, rfl, fun q hq => (no q hq).elim, fun q hq => by subst hq; omega⟩⟩, Blk.new _ _ _, World.ownsRow_nil _ _ _ _, fun e => by omega, fun q hq => (no q hq).elim, fun q hq => by subst hq; exact ⟨ht, by omega⟩, by omega, (b.trans (b2.mono hz1)).trans (B1.mono (by omega))⟩
theorem grw_next {w w' : World} {a : Option Addr} {LG : List (Int × List Int)} (h : Grw w a LG) (b : Below w.heap.size w w') : Grw w' a LG := fun i hi => by
  obtain ⟨g, q, c, e, hg, c0, c1, nn⟩ := h i hi
  exact ⟨g, q, c, e, Nat.lt_of_lt_of_le hg b.size, (b.cell (p := ⟨g, _, none⟩) hg).trans c0, (b.cell (p := ⟨g, _, none⟩) hg).trans c1, nn.next b⟩
theorem grown_fr {w w4 : World} {o : Obj} {v : Value} (hg : (w.alloc o).grownBy w4 v.ownBlock) : Fr w w4 (fun q => v.ownBlock = some q) := ((Fr.refl w (fun q => v.ownBlock = some q)).al o).on ((Fr.of_grown hg).mono (fun _ _ h => h.symm))
set_option linter.unusedSimpArgs false in
set_option maxHeartbeats 8000000 in
set_option maxRecDepth 100000 in
theorem whole_law (a : Option Addr) (c : Nat) (R : List AcT) (most : Int) (W : World) (hx : AcsT W a R) (hm : -9223372036854775808 ≤ most ∧ most ≤ 9223372036854775807) (hl : R.length ≤ 9223372036854775807) :
    Calls Try.prog 5 #[.slice a R.length c, .int .i64 most] W fun e w' => e = .returned (.bool true) ∧ Below W.heap.size W w' := by
  obtain ⟨n, hn⟩ : ∃ n, n = R.length := ⟨_, rfl⟩
  have HN := Lib.hid hn
  have HX := Lib.hid hx
  rw [← hn] at hl ⊢
  have hlI : (n : Int) ≤ 9223372036854775807 := by omega
  obtain ⟨hm1, hm2⟩ := hm
  clear hx hn
  go_enter Try.func5, Try.ntmps5
  go_wp2_with fail
  have hMb := most_ok most
  generalize wrap64 (1 + (wrap64 (most.tmod 9 + 9)).tmod 9) = M at *
  obtain ⟨hM1, hM9⟩ := hMb
  refine (rdr_new 3 ⟨#[112]⟩ M (may_p M hM1) W).mono ?_
  rintro e w1 ⟨t, rfl, ht, T, b1⟩
  have ST := Lib.hid (fun (w2 : World) (S : ByteArray) b2 => wh_start (w1 := w1) (w2 := w2) (S := S) ht T b1 b2)
  clear T b1 ht
  go_wp2_with fail
  refine (awake_any _).mono ?_
  rintro e w2 ⟨rfl, b2⟩
  have B2 := Lib.hid b2
  clear b2
  go_wp2_with fail
  refine (Bk.new_any _).mono ?_
  rintro e w3 ⟨rfl, K3, b3⟩
  have B3 := Lib.hid (B2.out.trans (b3.mono B2.out.size))
  clear b3 B2
  go_wp2_with fail
  refine (new_text K3).mono ?_
  rintro e w4 ⟨rfl, b4⟩
  have S4 := Lib.hid (ST.out w4 (Bk.txtS 0 (Bk.rowI 0 0)) (B3.out.trans (b4.mono B3.out.size)))
  clear b4 B3 K3 ST
  go_wp2_with fail
  generalize w4.alloc (.cells #[.string (Bk.txtS 0 (Bk.rowI 0 0)), .string (Bk.txtS 0 (Bk.rowI 0 0)), .string (Bk.txtS 0 (Bk.rowI 0 0))] 79) = w5 at *
  generalize w4.heap.size = nb at *
  have I0 : Hid (∃ S0 S1 S2 U cs, WS ⟨0, 0, 0, []⟩ 0 0 0 S0 S1 S2 ∧ WhA W w5 U t nb ⟨0, 0, 0, []⟩ M S0 S1 S2 (.slice none 0 0) cs 0) := Lib.hid ⟨_, _, _, _, _, ws_start, S4.out⟩
  clear S4
  go_loopw [6, 7, 9] (fun v6 v7 v9 wr => ∃ (j : Nat) (s : RS) (tot : Nat) (base : Int) (k : Nat) (aa : Option Addr) (ac : Nat), v9 = .int .i64 j ∧ v6 = .slice aa tot ac ∧ v7 = .string (Bk.txtS base (Bk.rowI base k)) ∧ j ≤ n ∧ j ≤ 150 ∧ tot ≤ j ∧
    Hid (∃ S0 S1 S2 U cs, WS s tot base k S0 S1 S2 ∧ WhA W wr U t nb s M S0 S1 S2 (.slice aa tot ac) cs tot)) (fun v6 v7 v9 wr => n - (intOf v9).toNat)
  case atStart => exact ⟨0, ⟨0, 0, 0, []⟩, 0, 0, 0, none, 0, rfl, rfl, rfl, Nat.zero_le _, Nat.zero_le _, Nat.zero_le _, I0⟩
  case round =>
    obtain ⟨j, s, tot, base, k, aa, ac, rfl, rfl, rfl, hj, hj2, htj, hR⟩ := hrel
    clear I0
    by_cases hjn : j < n
    · have jI : (j : Int) < (n : Int) := by omega
      have jB := decide_eq_true jI
      by_cases hjk : j < 150
      · have kI : (j : Int) < 150 := by omega
        have kB := decide_eq_true kI
        have hjL : j < R.length := by rw [← HN.out]; exact hjn
        obtain ⟨ga, oa, fq, fc, lq, lc, rfl, hga, hAt⟩ := HX.out j hjL
        obtain ⟨x, hx⟩ : ∃ x, x = R[j]'hjL := ⟨_, rfl⟩
        rw [← hx] at hAt
        obtain ⟨⟨a0, a1, a2, a3, a4, a5, a6, a7, a8, a9, a10⟩, hF, hL, hok⟩ := hAt
        simp only [add_at, Nat.add_zero] at a0 a8 a9
        have HO := Lib.hid hok.1
        clear a1 a2 a3 a4 a5 a6 a7 a10 hF hL hok hx
        obtain ⟨xk, xa, xb, xc, xe, xF, xer, xrn, xle, xn, xL⟩ := x
        simp only at a0 a8 a9 HO
        obtain ⟨S0, S1, S2, U, cs, hs, hw⟩ := hR.out
        have UP : Hid (∀ v, Below W.heap.size W v → v.cell? ⟨ga, oa + j * 11, none⟩ = some (.int .i64 xk) ∧ v.cell? ⟨ga, oa + j * 11 + 8, none⟩ = some (.int .i64 xle) ∧ v.cell? ⟨ga, oa + j * 11 + 9, none⟩ = some (.int .i64 xn)) := Lib.hid (fun v b =>
          ⟨(b.cell (p := ⟨ga, _, none⟩) hga).trans a0, (b.cell (p := ⟨ga, _, none⟩) hga).trans a8, (b.cell (p := ⟨ga, _, none⟩) hga).trans a9⟩)
        have h1000 : base + (k : Int) ≤ 1000 := by have := hs.bn; omega
        have LD := Lib.hid (load_row hs.b0 hs.n h1000 wr)
        have WH := Lib.hid hw
        have HWS := Lib.hid hs
        clear a0 a8 a9 hs hw hR hga
        go_wp2_with fail
        refine LD.out.mono ?_
        rintro e w6 ⟨tb, rfl, MN⟩
        have b6 : Below wr.heap.size wr w6 := MN.bel
        have W6 := Lib.hid (WH.out.next b6)
        obtain ⟨c0, c8, c9⟩ := UP.out w6 W6.out.b
        have MN := Lib.hid MN
        clear b6 LD
        go_upto_block 2 with fail
        go_cut [6] from 62 to 154 (fun v6 wx => ∃ (s' : RS) (tot' : Nat) (base' : Int) (k' : Nat) (aa' : Option Addr) (ac' : Nat), v6 = .slice aa' tot' ac' ∧ tot' ≤ j + 1 ∧
          Hid (∃ S0 S1 S2 U cs, WS s' tot' base' k' S0 S1 S2 ∧ WhA W wx U t nb s' M S0 S1 S2 (.slice aa' tot' ac') cs tot') ∧ Hid (∃ K, Bk.BookAt wx K tb base' (Bk.rowI base' k') ∧ Bk.BOk base' (Bk.rowI base' k') ∧ Bk.Shr (Bk.rowI base' k')))
        case first =>
          have SAME : Hid (∀ wx, Below w6.heap.size w6 wx → ∃ (s' : RS) (tot' : Nat) (base' : Int) (k' : Nat) (aa' : Option Addr) (ac' : Nat), Value.slice aa tot ac = .slice aa' tot' ac' ∧ tot' ≤ j + 1 ∧
            Hid (∃ S0 S1 S2 U cs, WS s' tot' base' k' S0 S1 S2 ∧ WhA W wx U t nb s' M S0 S1 S2 (.slice aa' tot' ac') cs tot') ∧ Hid (∃ K, Bk.BookAt wx K tb base' (Bk.rowI base' k') ∧ Bk.BOk base' (Bk.rowI base' k') ∧ Bk.Shr (Bk.rowI base' k'))) := Lib.hid (fun wx b =>
            ⟨s, tot, base, k, aa, ac, rfl, by omega, Lib.hid ⟨S0, S1, S2, U, cs, HWS.out, W6.out.next b⟩, Lib.hid (book_off MN.out (Fr.of_below b (fun _ => False)) (fun _ h => h.elim))⟩)
          by_cases k0 : xk = 0
          · subst k0
            have hs := HWS.out
            obtain ⟨b', k', he, hb0, hbn, hk'⟩ := row_put hs.b0 hs.n h1000
            have PU : Hid (Calls Try.prog 31 #[.pointer (some ⟨tb, 0, none⟩), .agg #[.slice (some ⟨w6.heap.size, 0, none⟩) 1 1]] (w6.alloc (.cells #[.int .i64 (tot : Int)] 3)) fun e w' => e = .returned (.int .i64 (Bk.ptE base (Bk.rowI base k) [base + (k : Int)])) ∧ Bk.Mine wr wr.heap.size tb b' (Bk.rowI b' k') w') := Lib.hid (by
              have h := (MN.out.next (Bk.BN1 w6 (.cells #[.int .i64 (tot : Int)] 3))).put 1 (nums_at w6 tot base k hs.bn) (by simp)
              rw [he] at h
              exact h)
            have NW : WS s (tot + 1) b' k' S0 S1 S2 := ⟨hs.ri.more, hb0, by have := hs.bn; omega, hk', hs.s0.more, hs.s1.more, hs.s2.more⟩
            have AL := Lib.hid (fun (w8 : World) (b : Below wr.heap.size wr w8) => (WH.out.next b).al)
            have lo := Lib.hid (fun q hq => (World.ownsRow.lt WH.out.al q hq).2)
            have hsz := Lib.hid WH.out.b.size
            have FIN : Hid (∀ (w8 w9 : World) (g cap : Nat) (o : Obj), Bk.Mine wr wr.heap.size tb b' (Bk.rowI b' k') w8 → w9.ownsRow W.heap.size 9 1 (.slice (some ⟨g, 0, none⟩) (tot + 1) cap) (tot + 1) (cs ++ [.string ⟨#[]⟩]) → (w8.alloc o).grownBy w9 (Value.slice aa tot ac).ownBlock → ((Value.slice aa tot ac).ownBlock = some g ∨ g = (w8.alloc o).heap.size) →
                Hid (∃ S0 S1 S2 U cs, WS s (tot + 1) b' k' S0 S1 S2 ∧ WhA W w9 U t nb s M S0 S1 S2 (.slice (some ⟨g, 0, none⟩) (tot + 1) cap) cs (tot + 1)) ∧ Hid (∃ K, Bk.BookAt w9 K tb b' (Bk.rowI b' k') ∧ Bk.BOk b' (Bk.rowI b' k') ∧ Bk.Shr (Bk.rowI b' k'))) := Lib.hid (fun w8 w9 g cap o M8 ho hg hat =>
              ⟨Lib.hid ⟨S0, S1, S2, U, _, NW, (WH.out.next M8.bel).app o ho hg hat⟩, Lib.hid (book_off M8 (grown_fr hg) (fun q hq => lo.out q hq))⟩)
            obtain ⟨i9, hi, hz0, hz1, hz2⟩ := info_parts info9
            have one9 : ∀ u ∈ [Value.string ⟨#[]⟩], u.oneCell' = true := fun u hu => by rw [List.mem_singleton.1 hu]; rfl
            have htot : tot ≤ 150 := by omega
            clear hs he hb0 hbn hk' NW SAME HWS W6 MN c8 c9
            go_wp2_with fail
            refine PU.out.mono ?_
            rintro e w8 ⟨rfl, M8⟩
            have OW := Lib.hid (AL.out w8 M8.bel)
            have hW8 : W.heap.size ≤ w8.heap.size := by have := M8.bel.size; have := hsz.out; omega
            have M8 := Lib.hid M8
            clear PU AL c0
            go_wp2_with (at_builtin; refine wpList_append_lies _ rfl (.tmp 70) (.tmp 71) 75 rfl W.heap.size 9 i9 (.string ⟨#[]⟩) 1 16 Try.underlying75 hi hz0 hz1 hz2 rfl (by decide) (.slice aa tot ac) tot cs rfl (World.ownsRow.alloc OW.out _) ⟨w8.heap.size, 0, none⟩ 1 1 [.string ⟨#[]⟩] rfl rfl (World.news_of_block (cs := #[.string ⟨#[]⟩]) (heap_alloc_new w8 _)) one9 (by decide) (by unfold maxLen; omega) (by omega) (by simp; omega) _ rfl ?_; intro g4 cap4 w9 ho4 hg4 hat4 _; have K9 := FIN.out w8 w9 g4 cap4 _ M8.out ho4 hg4 hat4; clear ho4 hg4 hat4)
            go_meet
            exact ⟨s, tot + 1, b', k', _, _, rfl, by omega, K9.1, K9.2⟩
          · have k0B : (xk == 0) = false := by rw [beq_eq_false_iff_ne]; exact k0
            by_cases k1 : xk = 1
            · subst k1
              obtain ⟨i, hi, hie⟩ := lead_ok xle
              have hs := HWS.out
              have hS : NodeOk tot (Bk.txtS base (Bk.rowI base k)) := ⟨base, k, rfl, hs.b0, by have := hs.bn; omega, hs.n⟩
              obtain ⟨T0, T1, T2, n0, n1, n2, HR⟩ := W6.out.hear hi hS hs.s0 hs.s1 hs.s2
              have nbl := WH.out.nd.lt
              have BK := Lib.hid (book_off MN.out (fr_set w6 nb i (.string (Bk.txtS base (Bk.rowI base k)))) (fun q hq => by subst hq; exact nbl))
              have F9 : Hid (∃ S0 S1 S2 U cs, WS s tot base k S0 S1 S2 ∧ WhA W (w6.setCell ⟨nb, i, none⟩ (.string (Bk.txtS base (Bk.rowI base k)))) U t nb s M S0 S1 S2 (.slice aa tot ac) cs tot) := Lib.hid ⟨T0, T1, T2, U, cs, ⟨hs.ri, hs.b0, hs.bn, hs.n, n0, n1, n2⟩, HR⟩
              obtain ⟨S, _, hcS⟩ := node_cell hi hs.s0 hs.s1 hs.s2
              have hcell : w6.cell? ⟨nb, i, none⟩ = some (.string S) := (W6.out.nd.cell i).trans hcS
              have fz : w6.frozen? ⟨nb, i, none⟩ = false := W6.out.nd.free i
              have hiI : (i : Int) < 3 := by omega
              clear hs hS HR n0 n1 n2 hcS SAME
              go_wp2_with fail
              go_meet
              exact ⟨s, tot, base, k, aa, ac, rfl, by omega, F9, BK⟩
            · have k1B : (xk == 1) = false := by rw [beq_eq_false_iff_ne]; exact k1
              by_cases k4 : xk = 4
              · subst k4
                have FG := Lib.hid (MN.out.forget xn)
                obtain ⟨b', k', he, hb0, hbn, hk'⟩ := row_forget HWS.out.b0 HWS.out.n xn
                rw [he] at FG
                have hs := HWS.out
                have NW : WS s tot b' k' S0 S1 S2 := ⟨hs.ri, hb0, by have := hs.bn; omega, hk', hs.s0, hs.s1, hs.s2⟩
                clear hs he SAME
                go_wp2_with fail
                refine FG.out.mono ?_
                rintro e w7 ⟨rfl, M7⟩
                have W7 := Lib.hid (WH.out.next M7.bel)
                have B7 := Lib.hid (book_off M7 (Fr.refl w7 (fun _ => False)) (fun _ h => h.elim))
                clear M7 FG c0 c8 c9
                go_wp2_with fail
                go_meet
                exact ⟨s, tot, b', k', aa, ac, rfl, by omega, Lib.hid ⟨S0, S1, S2, U, cs, NW, W7.out⟩, B7⟩
              · have k4B : (xk == 4) = false := by rw [beq_eq_false_iff_ne]; exact k4
                by_cases k23 : xk = 2 ∨ xk = 3
                · have ri := HWS.out.ri
                  obtain ⟨i, hit, hi3⟩ : ∃ i : Nat, s.to = (i : Int) ∧ i < 3 := ⟨s.to.toNat, by have := ri.tt; omega, by have := ri.tt; omega⟩
                  obtain ⟨S, ⟨b2, k2, rfl, hb2, hbt, hk2⟩, hcS⟩ := node_cell hi3 HWS.out.s0 HWS.out.s1 HWS.out.s2
                  have AK : Hid (Calls Try.prog 23 #[.pointer (some ⟨t, 0, none⟩)] w6 fun e w' => e = .returned (.tuple #[askV (i : Int) ⟨#[]⟩ ⟨#[112]⟩ s.at_ M, .bool true]) ∧ Below w6.heap.size w6 w') := Lib.hid (by
                    obtain ⟨gv, cs', A⟩ := W6.out.rd
                    have h := rask_any A.blk (by decide)
                    rw [hit] at h
                    exact h)
                  have d1 : decide ((i : Int) < 0) = false := decide_eq_false (by omega)
                  have d2 : decide (2 < (i : Int)) = false := decide_eq_false (by omega)
                  have hiI : (i : Int) < 3 := by omega
                  have LD2 := Lib.hid (fun W => load_row hb2 hk2 (by omega) W)
                  have HIT := Lib.hid hit
                  have OK := Lib.hid (ri.ok (by omega))
                  have HRI := Lib.hid ri
                  have hUw := Lib.hid (fun q hq => (WH.out.ul q hq).2)
                  have HCS := Lib.hid hcS
                  have HBT := Lib.hid hbt
                  have HB2 := Lib.hid hb2
                  unfold askV at AK
                  clear ri hcS hit SAME hbt hb2
                  rcases k23 with rfl | rfl
                  all_goals (
                    go_wp2_with fail
                    refine AK.out.mono ?_
                    rintro e w7 ⟨rfl, b7⟩
                    have W7 := Lib.hid (W6.out.next b7)
                    have M7 := Lib.hid (MN.out.next b7)
                    have nd : ∀ o, (w7.alloc o).cell? ⟨nb, i, none⟩ = some (.string (Bk.txtS b2 (Bk.rowI b2 k2))) := fun o => ((W7.out.next ((Below.refl w7.heap.size w7).alloc (Nat.le_refl _) o)).nd.cell i).trans HCS.out
                    clear b7 AK c0 c8 c9
                    go_wp2_with fail
                    refine (LD2.out _).mono ?_
                    rintro e w9 ⟨tn, rfl, M9⟩
                    have bA := (Below.refl w7.heap.size w7).alloc (Nat.le_refl _) (.cells #[.int .i64 (i : Int), .string ⟨#[]⟩, .string ⟨#[112]⟩, .int .i64 s.at_, .int .i64 M] 63)
                    have W9 := Lib.hid ((W7.out.next bA).next M9.bel)
                    have MB := Lib.hid ((M7.out.next bA).next M9.bel)
                    obtain ⟨c0, c8, c9⟩ := UP.out w9 W9.out.b
                    have KX := (Blk.new w7 63 #[.int .i64 (i : Int), .string ⟨#[]⟩, .string ⟨#[112]⟩, .int .i64 s.at_, .int .i64 M]).below M9.bel
                    have x3 : w9.cell? ⟨w7.heap.size, 3, none⟩ = some (.int .i64 s.at_) := KX.cell 3
                    have x4 : w9.cell? ⟨w7.heap.size, 4, none⟩ = some (.int .i64 M) := KX.cell 4
                    have M9 := Lib.hid M9
                    clear nd LD2 bA KX W7 M7 W6 MN)
                  · have RD := Lib.hid (M9.out.read s.at_ M (by have := OK.out.at_; omega))
                    go_wp2_with fail
                    refine RD.out.mono ?_
                    rintro e w10 ⟨rd, M10⟩
                    have W10 := Lib.hid (W9.out.next rd.1)
                    have MB10 := Lib.hid (MB.out.next rd.1)
                    have DONE : Hid (∀ (s' : RS) (w11 : World), RI s' tot → Rch w10 U t 3 s'.to ⟨#[112]⟩ M s'.at_ s'.gone s'.LG w11 → Hid (∃ S0 S1 S2 U cs, WS s' tot base k S0 S1 S2 ∧ WhA W w11 U t nb s' M S0 S1 S2 (.slice aa tot ac) cs tot) ∧ Hid (∃ K, Bk.BookAt w11 K tb base (Bk.rowI base k) ∧ Bk.BOk base (Bk.rowI base k) ∧ Bk.Shr (Bk.rowI base k))) := Lib.hid (fun s' w11 hri k11 => by
                      obtain ⟨⟨U', HU⟩, f11⟩ := W10.out.reader (s' := s') k11
                      have hs := HWS.out
                      exact ⟨Lib.hid ⟨S0, S1, S2, U', cs, ⟨hri, hs.b0, hs.bn, hs.n, hs.s0, hs.s1, hs.s2⟩, HU⟩, Lib.hid (book_off MB10.out f11 (fun q hq => hUw.out q hq))⟩)
                    have hat0 := OK.out.at_
                    by_cases hb : b2 ≤ s.at_
                    · obtain ⟨v, ms, rfl, hms, hown, _⟩ := Bk.rdd_ok rd hat0.1 (by omega) hb
                      obtain ⟨a2, c2, rfl⟩ := hown.form
                      obtain ⟨m, hsub, _, _⟩ := sub_row (most := M) (n := k2) hb
                      have hml : ms.length = (Bk.sub b2 (Bk.rowI b2 k2) s.at_ M).length := by rw [← hms, List.length_map]
                      have hl20 : (Bk.sub b2 (Bk.rowI b2 k2) s.at_ M).length ≤ 20 := by unfold Bk.sub; rw [List.length_take]; omega
                      have hle : s.at_ + ((Bk.sub b2 (Bk.rowI b2 k2) s.at_ M).length : Int) ≤ 9223372036854775807 := by have := HRI.out.le; omega
                      have hUB : ∀ q, U q → q < w9.heap.size := fun q hq => (W9.out.ul q hq).2
                      have TD := Lib.hid (told_all (LL := Bk.sub b2 (Bk.rowI b2 k2) s.at_ M) (a := a2) c2 (s.at_ + ((Bk.sub b2 (Bk.rowI b2 k2) s.at_ M).length : Int)) 0 W10.out.rd OK.out (by decide) (by decide)
                        (fun w' f => Bk.OwnM.rws (hown.fr ⟨f.os, f.tape, f.output, f.size, f.block⟩ (fun q hq _ _ hu => by have := hUB q hu; omega)) hms) (fun x hx => by rw [hsub] at hx; obtain ⟨q, hq, rfl⟩ := List.getElem_of_mem hx; rw [Bk.rowI_get]; simp) hl20 hle)
                      have NRI := Lib.hid (HRI.out.read (most := M) (n := k2) hb HBT.out)
                      rw [← hml] at TD
                      rw [← hml] at NRI
                      rw [← hml]
                      generalize hs' : s.told 3 (Bk.sub b2 (Bk.rowI b2 k2) s.at_ M) (s.at_ + (ms.length : Int)) 0 = s' at *
                      clear hs' hms hown hsub hl20 hle hUB rd RD x3 x4 c0 c8 c9 hml
                      generalize ms.length = ml at *
                      go_wp2_with fail
                      refine TD.out.mono ?_
                      rintro e w11 ⟨rfl, k11⟩
                      obtain ⟨D1, D2⟩ := DONE.out s' w11 NRI.out k11
                      clear k11 TD DONE
                      go_wp2_with fail
                      go_meet
                      exact ⟨s', tot, base, k, aa, ac, rfl, by omega, D1, D2⟩
                    · obtain ⟨rfl, _⟩ := Bk.rdd_gone rd hat0.1 (by omega) (by omega)
                      have TD := Lib.hid (told_all (LL := []) (a := none) 0 b2 180 W10.out.rd OK.out (by decide) (by decide) (fun w' f => fun i hi => by simp at hi) (fun x hx => by simp at hx) (by decide) (by have := HBT.out; omega))
                      have NRI := Lib.hid (HRI.out.skip (base := b2) (by omega) (by have := HBT.out; omega))
                      simp only [List.length_nil] at TD
                      generalize hs' : s.told 3 [] b2 180 = s' at *
                      clear hs' rd RD x3 x4 c0 c8 c9
                      go_wp2_with fail
                      refine TD.out.mono ?_
                      rintro e w11 ⟨rfl, k11⟩
                      obtain ⟨D1, D2⟩ := DONE.out s' w11 NRI.out k11
                      clear k11 TD DONE
                      go_wp2_with fail
                      go_meet
                      exact ⟨s', tot, base, k, aa, ac, rfl, by omega, D1, D2⟩
                  · have LT := Lib.hid (rlate_ch W9.out.rd (by have := OK.out.to; omega) (by decide))
                    go_wp2_with fail
                    refine LT.out.mono ?_
                    rintro e w10 ⟨rfl, k10⟩
                    obtain ⟨⟨U', HU⟩, f10⟩ := W9.out.reader (s' := ⟨nextN s.to 3, s.at_, s.gone, s.LG⟩) k10
                    have hs := HWS.out
                    have F9 : Hid (∃ S0 S1 S2 U cs, WS ⟨nextN s.to 3, s.at_, s.gone, s.LG⟩ tot base k S0 S1 S2 ∧ WhA W w10 U t nb ⟨nextN s.to 3, s.at_, s.gone, s.LG⟩ M S0 S1 S2 (.slice aa tot ac) cs tot) := Lib.hid ⟨S0, S1, S2, U', cs, ⟨hs.ri.late, hs.b0, hs.bn, hs.n, hs.s0, hs.s1, hs.s2⟩, HU⟩
                    clear k10 HU f10 hs LT W9 MB c0 c8 c9 x3 x4
                    go_wp2_with fail
                    exact ⟨⟨j + 1, _, tot, base, k, aa, ac, by go_num, rfl, rfl, by omega, by omega, by omega, F9⟩, by simp [intOf]; omega⟩
                · have k2B : (xk == 2) = false := by rw [beq_eq_false_iff_ne]; exact fun h => k23 (.inl h)
                  have k3B : (xk == 3) = false := by rw [beq_eq_false_iff_ne]; exact fun h => k23 (.inr h)
                  go_wp2_with fail
                  go_meet
                  exact SAME.out _ (Below.refl _ _)
        case rest =>
          obtain ⟨s', tot', base', k', aa', ac', rfl, ht', hA', hB'⟩ := hcut
          obtain ⟨K, KB, kok, ksh⟩ := hB'.out
          have TX := Lib.hid (Bk.text_any KB kok ksh rfl)
          clear KB kok ksh hB' W6 WH HWS MN c0 c8 c9
          go_wp2_with fail
          refine TX.out.mono ?_
          rintro e w9 ⟨rfl, b9⟩
          have F9 : Hid (∃ S0 S1 S2 U cs, WS s' tot' base' k' S0 S1 S2 ∧ WhA W w9 U t nb s' M S0 S1 S2 (.slice aa' tot' ac') cs tot') := Lib.hid (by
            obtain ⟨S0, S1, S2, U, cs, h1, h2⟩ := hA'.out
            exact ⟨S0, S1, S2, U, cs, h1, h2.next b9⟩)
          clear b9 hA' TX
          go_wp2_with fail
          go_roundw
          case rel => exact ⟨j + 1, s', tot', base', k', aa', ac', by go_num, rfl, rfl, by omega, by omega, ht', F9⟩
          case measure => simp [intOf]; omega
      · have kI : ¬ (j : Int) < 150 := by omega
        have kB := decide_eq_false kI
        have F9 := Lib.hid hR.out
        clear hR
        go_wp2_with fail
        obtain ⟨S0, S1, S2, U, cs, hs, hw⟩ := F9.out
        have hri := hs.ri
        have hat := hri.at_
        have hle := hri.le
        have hgo := hri.gone
        have HLS := Lib.hid hri.ls
        have HSQ := Lib.hid hri.sq
        have GT := Lib.hid (rgot_any hw.rd (seqd_one hri.sq) (by omega))
        have WQ := Lib.hid hw
        unfold Glst at GT
        clear F9 hs hw hri
        refine GT.out.mono ?_
        rintro e w1 ⟨a7, c7, rfl, G7, b7⟩
        have I1 : Hid (WhA W w1 U t nb s M S0 S1 S2 (.slice aa tot ac) cs tot ∧ Grw w1 a7 s.LG) := Lib.hid ⟨WQ.out.next b7, G7⟩
        clear b7 G7 GT WQ
        obtain ⟨nn, hnn⟩ : ∃ nn, nn = s.LG.length := ⟨_, rfl⟩
        have HNN := Lib.hid hnn
        have hnn2 : (nn : Int) ≤ 150 := by omega
        have hsum : s.at_ = (nn : Int) + s.gone := by omega
        have hls : lst 0 s.LG ≤ 150 := by have := HLS.out; omega
        rw [← hnn]
        clear hnn
        go_wp2_with fail
        go_loopw [20, 21, 22] (fun v20 v21 v22 wq => ∃ (q : Nat), v22 = .int .i64 q ∧ q ≤ nn ∧ v20 = .int .i64 (lst 0 (s.LG.take q)) ∧ v21 = .int .i64 (lst 0 (s.LG.take q) - q) ∧ Hid (WhA W wq U t nb s M S0 S1 S2 (.slice aa tot ac) cs tot ∧ Grw wq a7 s.LG)) (fun v20 v21 v22 wq => nn - (intOf v22).toNat)
        case atStart => exact ⟨0, rfl, Nat.zero_le _, rfl, rfl, I1⟩
        case round =>
          obtain ⟨q, rfl, hq, rfl, rfl, hI⟩ := hrel
          clear I1
          by_cases hqn : q < nn
          · have qI : (q : Int) < (nn : Int) := by omega
            have qB := decide_eq_true qI
            have hqL : q < s.LG.length := by rw [← HNN.out]; exact hqn
            obtain ⟨s1, s2, s3⟩ := seqd_at HSQ.out q hqL
            obtain ⟨g7, q7, cq7, rfl, hg7, p0, p1, n7⟩ := hI.out.2 q hqL
            have hA0 : (q : Int) ≤ lst 0 (s.LG.take q) := take_ge HSQ.out q (by omega)
            have hA1 : lst 0 (s.LG.take (q + 1)) ≤ lst 0 s.LG := take_le HSQ.out (q + 1)
            generalize s.LG[q]'hqL = y at *
            obtain ⟨yn, ys⟩ := y
            simp only at s1 s2 s3 p0 p1 n7
            subst s2
            obtain ⟨gq, oq, rfl, hgq, cq⟩ := n7 0 (by simp)
            have cq0 : wr.cell? ⟨gq, oq, none⟩ = some (.int .i64 yn) := by simpa using cq
            have p1' : wr.cell? ⟨g7, q * 2 + 1, none⟩ = some (.slice (some ⟨gq, oq, none⟩) 1 cq7) := p1
            have NX : Hid (lst 0 (s.LG.take (q + 1)) = yn + 1) := Lib.hid s3
            rw [s3] at hA1
            generalize hA : lst 0 (s.LG.take q) = A at *
            have dA : decide (yn < A) = false := decide_eq_false (by omega)
            have hyn : 0 ≤ yn ∧ yn ≤ 150 := by omega
            have x0 := fun d os => cell_regrown p0 d os
            have x1 := fun d os => cell_regrown p1' d os
            have x2 := fun d os => cell_regrown cq0 d os
            clear p1 n7 cq hg7 hgq s3 cq0 p1' p0
            go_upto_region 38 with fail
            refine wp_region_quiet_below mixedE (by kernel_rfl) ?_
            repeat (go_big_quiet_step (fail))
            refine wpQuiet_nil ?_
            intro _ hw'
            obtain ⟨⟨dq, osq⟩, hw''⟩ := hw'
            subst hw''
            have I9 : Hid (WhA W (Go.Sort.grow (redrawn wr dq) osq) U t nb s M S0 S1 S2 (.slice aa tot ac) cs tot ∧ Grw (Go.Sort.grow (redrawn wr dq) osq) (some ⟨g7, 0, none⟩) s.LG) := Lib.hid ⟨hI.out.1.next (below_regrown wr dq osq), grw_next hI.out.2 (below_regrown wr dq osq)⟩
            have z0 : (Go.Sort.grow (redrawn wr dq) osq).cell? ⟨g7, q * 2, none⟩ = some (.int .i64 yn) := x0 _ _
            clear x0 x1 x2 hI
            generalize Go.Sort.grow (redrawn wr dq) osq = w8 at *
            go_wp2_with fail
            go_roundw
            case rel => exact ⟨q + 1, by go_num, by omega, by rw [NX.out], by rw [NX.out]; congr 1; omega, I9⟩
            case measure => simp [intOf]; omega
          · obtain rfl : q = nn := by omega
            have qI : ¬ (q : Int) < (q : Int) := by omega
            have qB := decide_eq_false qI
            have hT : s.LG.take q = s.LG := List.take_of_length_le (Nat.le_of_eq HNN.out.symm)
            obtain ⟨gv, cs7, A7⟩ := hI.out.1.rd
            have AT := Lib.hid (rat_any A7.blk)
            have GO := Lib.hid (rgone_any A7.blk)
            have FB := Lib.hid hI.out.1.b
            have hls2 : lst 0 s.LG ≤ s.at_ := HLS.out
            have hlq : (q : Int) ≤ lst 0 s.LG := by have := seqd_len HSQ.out; rw [HNN.out]; omega
            rw [hT]
            clear A7 hI hT hat
            generalize lst 0 s.LG = A at *
            go_wp2_with fail
            refine AT.out.mono ?_
            rintro e w2' ⟨rfl, rfl⟩
            go_wp2_with fail
            refine AT.out.mono ?_
            rintro e w2' ⟨rfl, rfl⟩
            go_wp2_with fail
            refine GO.out.mono ?_
            rintro e w2' ⟨rfl, rfl⟩
            go_wp2_with fail
            refine GO.out.mono ?_
            rintro e w2' ⟨rfl, rfl⟩
            go_wp2_with fail
            refine AT.out.mono ?_
            rintro e w2' ⟨rfl, rfl⟩
            go_wp2_with fail
            go_ret
            exact ⟨rfl, FB.out⟩
    · have jI : ¬ (j : Int) < (n : Int) := by omega
      have jB := decide_eq_false jI
      have F9 := Lib.hid hR.out
      clear hR
      go_wp2_with fail
      obtain ⟨S0, S1, S2, U, cs, hs, hw⟩ := F9.out
      have hri := hs.ri
      have hat := hri.at_
      have hle := hri.le
      have hgo := hri.gone
      have HLS := Lib.hid hri.ls
      have HSQ := Lib.hid hri.sq
      have GT := Lib.hid (rgot_any hw.rd (seqd_one hri.sq) (by omega))
      have WQ := Lib.hid hw
      unfold Glst at GT
      clear F9 hs hw hri
      refine GT.out.mono ?_
      rintro e w1 ⟨a7, c7, rfl, G7, b7⟩
      have I1 : Hid (WhA W w1 U t nb s M S0 S1 S2 (.slice aa tot ac) cs tot ∧ Grw w1 a7 s.LG) := Lib.hid ⟨WQ.out.next b7, G7⟩
      clear b7 G7 GT WQ
      obtain ⟨nn, hnn⟩ : ∃ nn, nn = s.LG.length := ⟨_, rfl⟩
      have HNN := Lib.hid hnn
      have hnn2 : (nn : Int) ≤ 150 := by omega
      have hsum : s.at_ = (nn : Int) + s.gone := by omega
      have hls : lst 0 s.LG ≤ 150 := by have := HLS.out; omega
      rw [← hnn]
      clear hnn
      go_wp2_with fail
      go_loopw [20, 21, 22] (fun v20 v21 v22 wq => ∃ (q : Nat), v22 = .int .i64 q ∧ q ≤ nn ∧ v20 = .int .i64 (lst 0 (s.LG.take q)) ∧ v21 = .int .i64 (lst 0 (s.LG.take q) - q) ∧ Hid (WhA W wq U t nb s M S0 S1 S2 (.slice aa tot ac) cs tot ∧ Grw wq a7 s.LG)) (fun v20 v21 v22 wq => nn - (intOf v22).toNat)
      case atStart => exact ⟨0, rfl, Nat.zero_le _, rfl, rfl, I1⟩
      case round =>
        obtain ⟨q, rfl, hq, rfl, rfl, hI⟩ := hrel
        clear I1
        by_cases hqn : q < nn
        · have qI : (q : Int) < (nn : Int) := by omega
          have qB := decide_eq_true qI
          have hqL : q < s.LG.length := by rw [← HNN.out]; exact hqn
          obtain ⟨s1, s2, s3⟩ := seqd_at HSQ.out q hqL
          obtain ⟨g7, q7, cq7, rfl, hg7, p0, p1, n7⟩ := hI.out.2 q hqL
          have hA0 : (q : Int) ≤ lst 0 (s.LG.take q) := take_ge HSQ.out q (by omega)
          have hA1 : lst 0 (s.LG.take (q + 1)) ≤ lst 0 s.LG := take_le HSQ.out (q + 1)
          generalize s.LG[q]'hqL = y at *
          obtain ⟨yn, ys⟩ := y
          simp only at s1 s2 s3 p0 p1 n7
          subst s2
          obtain ⟨gq, oq, rfl, hgq, cq⟩ := n7 0 (by simp)
          have cq0 : wr.cell? ⟨gq, oq, none⟩ = some (.int .i64 yn) := by simpa using cq
          have p1' : wr.cell? ⟨g7, q * 2 + 1, none⟩ = some (.slice (some ⟨gq, oq, none⟩) 1 cq7) := p1
          have NX : Hid (lst 0 (s.LG.take (q + 1)) = yn + 1) := Lib.hid s3
          rw [s3] at hA1
          generalize hA : lst 0 (s.LG.take q) = A at *
          have dA : decide (yn < A) = false := decide_eq_false (by omega)
          have hyn : 0 ≤ yn ∧ yn ≤ 150 := by omega
          have x0 := fun d os => cell_regrown p0 d os
          have x1 := fun d os => cell_regrown p1' d os
          have x2 := fun d os => cell_regrown cq0 d os
          clear p1 n7 cq hg7 hgq s3 cq0 p1' p0
          go_upto_region 38 with fail
          refine wp_region_quiet_below mixedE (by kernel_rfl) ?_
          repeat (go_big_quiet_step (fail))
          refine wpQuiet_nil ?_
          intro _ hw'
          obtain ⟨⟨dq, osq⟩, hw''⟩ := hw'
          subst hw''
          have I9 : Hid (WhA W (Go.Sort.grow (redrawn wr dq) osq) U t nb s M S0 S1 S2 (.slice aa tot ac) cs tot ∧ Grw (Go.Sort.grow (redrawn wr dq) osq) (some ⟨g7, 0, none⟩) s.LG) := Lib.hid ⟨hI.out.1.next (below_regrown wr dq osq), grw_next hI.out.2 (below_regrown wr dq osq)⟩
          have z0 : (Go.Sort.grow (redrawn wr dq) osq).cell? ⟨g7, q * 2, none⟩ = some (.int .i64 yn) := x0 _ _
          clear x0 x1 x2 hI
          generalize Go.Sort.grow (redrawn wr dq) osq = w8 at *
          go_wp2_with fail
          go_roundw
          case rel => exact ⟨q + 1, by go_num, by omega, by rw [NX.out], by rw [NX.out]; congr 1; omega, I9⟩
          case measure => simp [intOf]; omega
        · obtain rfl : q = nn := by omega
          have qI : ¬ (q : Int) < (q : Int) := by omega
          have qB := decide_eq_false qI
          have hT : s.LG.take q = s.LG := List.take_of_length_le (Nat.le_of_eq HNN.out.symm)
          obtain ⟨gv, cs7, A7⟩ := hI.out.1.rd
          have AT := Lib.hid (rat_any A7.blk)
          have GO := Lib.hid (rgone_any A7.blk)
          have FB := Lib.hid hI.out.1.b
          have hls2 : lst 0 s.LG ≤ s.at_ := HLS.out
          have hlq : (q : Int) ≤ lst 0 s.LG := by have := seqd_len HSQ.out; rw [HNN.out]; omega
          rw [hT]
          clear A7 hI hT hat
          generalize lst 0 s.LG = A at *
          go_wp2_with fail
          refine AT.out.mono ?_
          rintro e w2' ⟨rfl, rfl⟩
          go_wp2_with fail
          refine AT.out.mono ?_
          rintro e w2' ⟨rfl, rfl⟩
          go_wp2_with fail
          refine GO.out.mono ?_
          rintro e w2' ⟨rfl, rfl⟩
          go_wp2_with fail
          refine GO.out.mono ?_
          rintro e w2' ⟨rfl, rfl⟩
          go_wp2_with fail
          refine AT.out.mono ?_
          rintro e w2' ⟨rfl, rfl⟩
          go_wp2_with fail
          go_ret
          exact ⟨rfl, FB.out⟩
end Go.Proofs.Ytggjpallbapcmaa
