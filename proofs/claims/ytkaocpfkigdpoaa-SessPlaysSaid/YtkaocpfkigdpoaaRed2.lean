/-
  Read: the walk.
-/
import Derived.Test.YtkaocpfkigdpoaaRed
namespace Go.Proofs.Ytkaocpfkigdpoaa
open Go.RowKit
/-- what Read answers -/
def Rdd (w : World) (o : Option (List Sn)) (e : Ending) (w' : World) : Prop :=
  match o with
  | none => e = .returned (.tuple #[.pointer none, .int .i64 3]) ∧ Below w.heap.size w w'
  | some L => ∃ T v, e = .returned (.tuple #[.pointer (some ⟨T, 0, none⟩), .int .i64 0]) ∧ w.heap.size ≤ T ∧ Tab w' T v L ∧ Below w.heap.size w w'
theorem rdd_no {w w' : World} {o : Option (List Sn)} (h : o = none) (b : Below w.heap.size w w') : Rdd w o (.returned (.tuple #[.pointer none, .int .i64 3])) w' := by
  subst h
  exact ⟨rfl, b⟩
theorem last_nn {L : List Sn} (ok : Okt L) : 0 ≤ lastN L := by
  rcases Nat.eq_zero_or_pos L.length with h | h
  · rw [List.length_eq_zero_iff.1 h]; exact Int.le_refl _
  · rw [lastN_get h]
    have := ok.id0 _ (List.getElem_mem (show L.length - 1 < L.length by omega))
    omega
set_option maxHeartbeats 4000000 in
set_option maxRecDepth 100000 in
theorem read_any (s : ByteArray) (hs : s.size ≤ 281474976710656) (w : World) : Calls Try.prog 18 #[.string s] w (Rdd w (rdT s)) := by
  obtain ⟨i0, hi, hz0, hz1, hz2⟩ := info_parts info62
  have hpn := pn_lt (s, 0)
  have hsz := pn_le (s, 0)
  simp only at hsz
  have AT := Lib.hid (Bt.at_any s w hs)
  by_cases h32 : 32 < (pn (s, 0)).1
  · have R : rdT s = none := by unfold rdT; rw [if_pos h32]
    have FIN := Lib.hid (fun w' (b : Below w.heap.size w w') => rdd_no R b)
    have h32I : (32 : Int) < ((pn (s, 0)).1 : Int) := by omega
    clear R
    generalize Rdd w (rdT s) = Q at *
    go_enter Try.func18, Try.ntmps18
    go_wp2_with fail
    refine AT.out.mono ?_
    rintro e w1 ⟨b, rfl, hb, t1, b1⟩
    have b1 := Lib.hid b1
    go_wp2_with fail
    refine (num_any (t := (s, 0)) t1 hs).mono ?_
    rintro e w2 ⟨rfl, g2, _⟩
    have F2 := Lib.hid (b1.out.trans (((Fr.of_grown g2).mono (Q := fun q => q = b) (fun q _ e => by injection e)).below (B := w.heap.size) (fun q e => by omega) b1.out.size))
    clear g2
    go_wp2_with fail
    exact FIN.out _ F2.out
  have NO := Lib.hid (fun j (hj : j ≤ (pn (s, 0)).1) (h : it (pn (s, 0)).2 j = none) w' (b : Below w.heap.size w w') => show Rdd w (rdT s) (.returned (.tuple #[.pointer none, .int .i64 3])) w' from rdd_no (by unfold rdT; rw [if_neg h32, it_none h _ hj]) b)
  have BAD := Lib.hid (fun L t (h : it (pn (s, 0)).2 (pn (s, 0)).1 = some (L, t)) (he : Bt.endE t.1 t.2 ≠ 0) w' (b : Below w.heap.size w w') => show Rdd w (rdT s) (.returned (.tuple #[.pointer none, .int .i64 3])) w' from rdd_no (by unfold rdT; rw [if_neg h32, h]; simp only; rw [if_neg he]) b)
  have YES := Lib.hid (fun L t (h : it (pn (s, 0)).2 (pn (s, 0)).1 = some (L, t)) (he : Bt.endE t.1 t.2 = 0) T w' (hT : w.heap.size ≤ T) (tb : ∃ v, Tab w' T v L) (b : Below w.heap.size w w') => show Rdd w (rdT s) (.returned (.tuple #[.pointer (some ⟨T, 0, none⟩), .int .i64 0])) w' by
    have e : rdT s = some L := by unfold rdT; rw [if_neg h32, h]; simp only; rw [if_pos he]
    rw [e]
    obtain ⟨v, tb⟩ := tb
    exact ⟨T, v, rfl, hT, tb, b⟩)
  have STP := Lib.hid (fun j (L : List Sn) (t : Tp) (h : it (pn (s, 0)).2 j = some (L, t)) => show it (pn (s, 0)).2 (j + 1) = stp (L, t) by show (it _ j).bind stp = _; rw [h]; rfl)
  have SZ := Lib.hid (fun j (L : List Sn) (t : Tp) (h : it (pn (s, 0)).2 j = some (L, t)) => show t.1.size ≤ 281474976710656 from Nat.le_trans (it_size h) (Nat.le_trans hsz hs))
  have OK := Lib.hid (fun j (hj : j ≤ 32) (L : List Sn) (t : Tp) (h : it (pn (s, 0)).2 j = some (L, t)) => it_ok hj h)
  have LEN := Lib.hid (fun j (L : List Sn) (t : Tp) (h : it (pn (s, 0)).2 j = some (L, t)) => it_len h)
  have N1 := Lib.hid (fun w1 b (t1 : Bt.TapeAt w1 b s 0) => num_any (t := (s, 0)) t1 hs)
  have RS := Lib.hid (fun (w1 w2 w3 : World) b (hb : w.heap.size ≤ b) (b1 : Below w.heap.size w w1) (t1 : Bt.TapeAt w1 b s 0) (g : w1.grownBy w2 (some b)) (t2 : Bt.TapeAt w2 b (pn (s, 0)).2.1 (pn (s, 0)).2.2) (tb : Tab w3 w2.heap.size (.slice none 0 0) []) (b3 : Below w2.heap.size w2 w3) => show Rs w w3 b w2.heap.size (pn (s, 0)).2 [] by
    have f := (Fr.of_grown g).mono (Q := fun q => q = b) (fun q _ e => by injection e)
    have bb := b1.trans (f.below (B := w.heap.size) (fun q e => by omega) b1.size)
    exact ⟨t2.next b3, ⟨_, tb⟩, Nat.ne_of_lt t2.lt, hb, bb.size, bb.trans (b3.mono bb.size)⟩)
  have I0 := Lib.hid (show it (pn (s, 0)).2 0 = some ([], (pn (s, 0)).2) from rfl)
  have h32' : (pn (s, 0)).1 ≤ 32 := by omega
  clear hpn hsz h32
  generalize hQ : Rdd w (rdT s) = Q at *
  clear hQ
  generalize (pn (s, 0)).1 = n at *
  generalize (pn (s, 0)).2 = t1 at *
  have h32I : (n : Int) ≤ 32 := by omega
  go_enter Try.func18, Try.ntmps18
  go_wp2_with fail
  refine AT.out.mono ?_
  rintro e w1 ⟨b, rfl, hb, tp1, b1⟩
  have b1 := Lib.hid b1
  have tp1 := Lib.hid tp1
  go_wp2_with fail
  refine (N1.out _ _ tp1.out).mono ?_
  rintro e w2 ⟨rfl, g2, tp2⟩
  have g2 := Lib.hid g2
  have tp2 := Lib.hid tp2
  go_wp2_with fail
  refine (new_any _).mono ?_
  rintro e w3 ⟨rfl, tb, b3⟩
  have r3 := Lib.hid (RS.out w1 w2 w3 b hb b1.out tp1.out g2.out tp2.out tb b3)
  clear tb b3 b1 tp1 g2 tp2 N1 RS AT hb
  generalize w2.heap.size = T at *
  go_wp2_with fail
  go_loopw [17, 7] (fun i l wq => ∃ (j : Nat) (L : List Sn) (t : Tp), i = .int .u64 j ∧ l = .int .i64 (lastN L) ∧ j ≤ n ∧ Hid (it t1 j = some (L, t)) ∧ Hid (Rs w wq b T t L)) (fun i _ _ => n - (intOf i).toNat)
  case atStart => exact ⟨0, [], t1, rfl, rfl, Nat.zero_le _, I0, r3⟩
  case round =>
    obtain ⟨j, L, t, rfl, rfl, hj, hI, R⟩ := hrel
    by_cases hjn : j < n
    · have hjI : (j : Int) < (n : Int) := by omega
      have z1 := Lib.hid (SZ.out _ _ _ hI.out)
      have z2 := Lib.hid (Nat.le_trans (pn_le t) z1.out)
      have A1 := pn_lt t
      have A2 := pn_lt (pn t).2
      have ok := OK.out j (by omega) _ _ hI.out
      have ln := LEN.out _ _ _ hI.out
      have l0 := last_nn ok
      have S := STP.out _ _ _ hI.out
      unfold stp at S
      simp only at S
      have NN1 := Lib.hid (fun W (h : Rs w W b T t L) => h.num z1.out)
      have NN2 := Lib.hid (fun W (h : Rs w W b T (pn t).2 L) => h.num z2.out)
      generalize (pn (pn t).2).1 = B at *
      generalize (pn (pn t).2).2 = t3 at *
      generalize (pn t).1 = A at *
      generalize (pn t).2 = t2 at *
      have HS := Lib.hid S
      have HOK := Lib.hid ok
      clear S z1 z2 ok
      obtain ⟨x, hx⟩ : ∃ x, x = wrap64 (A : Int) := ⟨_, rfl⟩
      obtain ⟨y, hy⟩ : ∃ x, x = wrap64 (B : Int) := ⟨_, rfl⟩
      have hx1 : wrap64 (A : Int) = x := hx.symm
      have hy1 : wrap64 (B : Int) = y := hy.symm
      have HX := Lib.hid hx
      have HY := Lib.hid hy
      clear hx hy
      go_wp2_with fail
      refine (NN1.out _ R.out).mono ?_
      rintro e w5 ⟨rfl, r5⟩
      go_wp2_with fail
      refine (NN2.out _ r5).mono ?_
      rintro e w6 ⟨rfl, r6⟩
      have r6 := Lib.hid r6
      clear r5
      by_cases q1 : x ≤ lastN L
      · have S : it t1 (j + 1) = none := by rw [HS.out, if_neg (fun h => by have := HX.out; have := HY.out; unfold wrap64 at *; obtain ⟨p1, p2, p3, p4⟩ := h; omega)]
        have FIN := Lib.hid (fun w' b => NO.out (j + 1) (by omega) S w' b)
        have BB := Lib.hid (r6.out.bel.alloc r6.out.bel.size (.cells #[.int .i64 x, .int .i64 y] 62))
        have w7 := Lib.hid (show w6.alloc (.cells #[.int .i64 x, .int .i64 y] 62) = w6.alloc (.cells #[.int .i64 x, .int .i64 y] 62) from rfl)
        clear HS HX HY S r6 R NN1 NN2 HOK hI
        generalize lastN L = l at *
        go_wp2_with fail
        exact FIN.out _ BB.out
      have q1' : lastN L < x := by omega
      by_cases q2 : 549755813888 < x
      · have S : it t1 (j + 1) = none := by rw [HS.out, if_neg (fun h => by have := HX.out; have := HY.out; unfold wrap64 at *; obtain ⟨p1, p2, p3, p4⟩ := h; omega)]
        have FIN := Lib.hid (fun w' b => NO.out (j + 1) (by omega) S w' b)
        have BB := Lib.hid (r6.out.bel.alloc r6.out.bel.size (.cells #[.int .i64 x, .int .i64 y] 62))
        have w7 := Lib.hid (show w6.alloc (.cells #[.int .i64 x, .int .i64 y] 62) = w6.alloc (.cells #[.int .i64 x, .int .i64 y] 62) from rfl)
        clear HS HX HY S r6 R NN1 NN2 HOK hI
        generalize lastN L = l at *
        go_wp2_with fail
        exact FIN.out _ BB.out
      have q2' : x ≤ 549755813888 := by omega
      by_cases q3 : y < 0
      · have S : it t1 (j + 1) = none := by rw [HS.out, if_neg (fun h => by have := HX.out; have := HY.out; unfold wrap64 at *; obtain ⟨p1, p2, p3, p4⟩ := h; omega)]
        have FIN := Lib.hid (fun w' b => NO.out (j + 1) (by omega) S w' b)
        have BB := Lib.hid (r6.out.bel.alloc r6.out.bel.size (.cells #[.int .i64 x, .int .i64 y] 62))
        have w7 := Lib.hid (show w6.alloc (.cells #[.int .i64 x, .int .i64 y] 62) = w6.alloc (.cells #[.int .i64 x, .int .i64 y] 62) from rfl)
        clear HS HX HY S r6 R NN1 NN2 HOK hI
        generalize lastN L = l at *
        go_wp2_with fail
        exact FIN.out _ BB.out
      have q3' : 0 ≤ y := by omega
      by_cases q4 : 549755813888 < y
      · have S : it t1 (j + 1) = none := by rw [HS.out, if_neg (fun h => by have := HX.out; have := HY.out; unfold wrap64 at *; obtain ⟨p1, p2, p3, p4⟩ := h; omega)]
        have FIN := Lib.hid (fun w' b => NO.out (j + 1) (by omega) S w' b)
        have BB := Lib.hid (r6.out.bel.alloc r6.out.bel.size (.cells #[.int .i64 x, .int .i64 y] 62))
        have w7 := Lib.hid (show w6.alloc (.cells #[.int .i64 x, .int .i64 y] 62) = w6.alloc (.cells #[.int .i64 x, .int .i64 y] 62) from rfl)
        clear HS HX HY S r6 R NN1 NN2 HOK hI
        generalize lastN L = l at *
        go_wp2_with fail
        exact FIN.out _ BB.out
      have q4' : y ≤ 549755813888 := by omega
      have ex : (A : Int) = x := by have := HX.out; unfold wrap64 at this; omega
      have ey : (B : Int) = y := by have := HY.out; unfold wrap64 at this; omega
      have S := Lib.hid (show it t1 (j + 1) = some (L ++ [(x, y)], t3) by rw [HS.out, if_pos ⟨by omega, by omega, by omega, by omega⟩, ex, ey])
      have LS := Lib.hid (lastN_snoc L (x, y))
      obtain ⟨v, tb⟩ := r6.out.tab
      obtain ⟨w7, hw7⟩ : ∃ w7, w7 = w6.alloc (.cells #[.int .i64 x, .int .i64 y] 62) := ⟨_, rfl⟩
      have b7 : Below w6.heap.size w6 w7 := by rw [hw7]; exact (Below.refl _ _).alloc (Nat.le_refl _) _
      have K7 : Blk w7 w6.heap.size 62 #[.int .i64 x, .int .i64 y] := by rw [hw7]; exact Blk.new _ _ _
      have r7 := Lib.hid (r6.out.next b7)
      have tb7 := Lib.hid (tb.next b7)
      obtain ⟨a, c, hv, hc1, hc2⟩ := tb.own.form
      have W7 := Lib.hid hw7
      have x0 : w7.cell? ⟨w6.heap.size, 0, none⟩ = some (.int .i64 x) := K7.cell 0
      have x1 : w7.cell? ⟨w6.heap.size, 1, none⟩ = some (.int .i64 y) := K7.cell 1
      have x2 : w7.cell? ⟨T, 0, none⟩ = some v := tb7.out.cell
      have f2 := tb7.out.blk.free 0
      have HV : Hid (v.ownBlock ≠ some T) := Lib.hid (fun e => by have := own_ne tb7.out.own T e; omega)
      have HV2 : Hid (v.ownBlock ≠ some w6.heap.size) := Lib.hid (fun e => by have := own_ne tb.own _ e; omega)
      have hT6 : T < w6.heap.size := tb.blk.lt
      have hzz : w6.heap.size < w7.heap.size := K7.lt
      have hTz : T + 1 ≤ w7.heap.size := by omega
      have K7 := Lib.hid K7
      have lnI : (L.length : Int) ≤ 32 := by omega
      have lnN : L.length ≤ 32 := by omega
      clear ln
      subst hv
      have HS1 := Lib.hid h32I
      clear HS HX HY r6 R NN1 NN2 HOK hI tb b7 hw7 q1 q2 q3 q4 ex ey A1 A2
      generalize hY6 : w6.heap.size = Y at *
      go_wp2_with fail
      rw [← W7.out]
      have O7 := Lib.hid tb7.out.own
      unfold Own at O7
      have N8 := Lib.hid (World.news_of_block (w := w7.alloc (.cells (enc (x, y)).toArray 62)) (cs := (enc (x, y)).toArray) (heap_alloc_new w7 _))
      have E1 := Lib.hid (enc_one (x, y))
      have bA := Lib.hid (((Below.refl w7.heap.size w7).alloc (Nat.le_refl _) (.cells (enc (x, y)).toArray 62)).drew)
      have R8 := Lib.hid (r7.out.next bA.out)
      have T8 := Lib.hid (tb7.out.next bA.out)
      have K8 := Lib.hid (K7.out.next bA.out)
      have hz8 : T + 1 ≤ (w7.alloc (.cells (enc (x, y)).toArray 62)).drew.heap.size := Nat.le_trans hTz bA.out.size
      have FIN := Lib.hid (fun g cap (w8 : World) (ho : w8.ownsRow (T + 1) 62 2 (.slice (some ⟨g, 0, none⟩) (L.length + 1) cap) (L.length + 1) (cells L ++ enc (x, y))) (hg : ((w7.alloc (.cells (enc (x, y)).toArray 62)).drew).grownBy w8 (Value.slice a L.length c).ownBlock) => show Rs w (w8.setCell ⟨T, 0, none⟩ (.slice (some ⟨g, 0, none⟩) (L.length + 1) cap)) b T t3 (L ++ [(x, y)]) ∧ Blk (w8.setCell ⟨T, 0, none⟩ (.slice (some ⟨g, 0, none⟩) (L.length + 1) cap)) Y 62 #[.int .i64 x, .int .i64 y] ∧ Blk w8 T 54 #[.slice a L.length c] from
        have f1 : Fr ((w7.alloc (.cells (enc (x, y)).toArray 62)).drew) w8 (fun q => (Value.slice a L.length c).ownBlock = some q) := (Fr.of_grown hg).mono (fun q _ e => e.symm)
        ⟨R8.out.push T8.out ho hg, (K8.out.fr f1 HV2.out).fr (fr_set w8 T 0 _) (by omega), T8.out.blk.fr f1 HV.out⟩)
      have y2 : (w7.alloc (.cells #[.int .i64 x, .int .i64 y] 62)).cell? ⟨T, 0, none⟩ = some (.slice a L.length c) := T8.out.cell
      have hT7 : T < w7.heap.size := by omega
      clear W7
      go_region_law (go_loud (refine step_append_lies _ rfl (.tmp 49) (.tmp 51) 44 rfl (T + 1) 62 i0 _ 2 16 Try.underlying44 hi hz0 hz1 hz2 rfl (by decide) (.slice a L.length c) L.length (cells L) rfl (World.ownsRow.alloc O7.out _) ⟨w7.heap.size, 0, none⟩ 1 1 (enc (x, y)) rfl rfl N8.out E1.out (by decide) (by unfold maxLen; omega) (by omega) hz8 _ rfl ?_); intro g cap w8 ho hg _ _; have F8 := Lib.hid (FIN.out g cap w8 ho hg); have hcA : w8.cell? ⟨T, 0, none⟩ = some (.slice a L.length c) := F8.out.2.2.cell 0; have hfA := F8.out.2.2.free 0; clear ho hg)
      all_goals
        have y0 : (w8.setCell ⟨T, 0, none⟩ (.slice (some ⟨g, 0, none⟩) (L.length + 1) cap)).cell? ⟨Y, 0, none⟩ = some (.int .i64 x) := F8.out.2.1.cell 0
        have R9 := Lib.hid F8.out.1
        clear hcA hfA F8 x0 x1 x2 f2 y2 FIN R8 T8 K8 bA N8 E1 O7
        generalize w8.setCell ⟨T, 0, none⟩ (.slice (some ⟨g, 0, none⟩) (L.length + 1) cap) = w9 at *
        go_wp2_with fail
        go_roundw
        case rel => exact ⟨j + 1, L ++ [(x, y)], t3, by go_num, by rw [LS.out], by omega, S, R9⟩
        case measure => simp [intOf]; omega
    · obtain rfl : j = n := by omega
      have EA := Lib.hid (Bt.end_any R.out.tape)
      have RR := Lib.hid R.out
      by_cases he : Bt.endE t.1 t.2 = 0
      · have FIN := Lib.hid (fun W (b : Below w.heap.size w W) tb => YES.out L t hI.out he T W RR.out.hT tb b)
        rw [he] at EA
        have F := Lib.hid (FIN.out wr RR.out.bel RR.out.tab)
        clear R hI he
        go_wp2_with fail
        refine EA.out.mono ?_
        rintro e w5 ⟨rfl, rfl⟩
        go_wp2_with fail
        exact F.out
      · have F := Lib.hid (BAD.out L t hI.out he wr RR.out.bel)
        have hb : (Bt.endE t.1 t.2 != 0) = true := by simpa using he
        generalize Bt.endE t.1 t.2 = E at *
        clear R hI
        go_wp2_with fail
        refine EA.out.mono ?_
        rintro e w5 ⟨rfl, rfl⟩
        go_wp2_with fail
        exact F.out
end Go.Proofs.Ytkaocpfkigdpoaa
