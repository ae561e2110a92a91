/-
  THE WALK OF lex.Scan.
-/
import Derived.Test.YtffneogphgodnaaDoorScn
import Derived.Outline
import Derived.WalkMore
import Derived.Deep.LoopGhost
import Derived.Deep.DeepCutAuto
import Derived.Deep.CutBlock
namespace Go.Proofs.YtffneogphgodnaaDoor
open Go.RowKit
theorem info34 : (Tryd.prog.info? 34).map (fun i => (i.zero, i.size, i.bytes)) = some (some (.agg #[.int .i64 0, .int .i64 0, .string ⟨#[]⟩, .int .i64 0, .string ⟨#[]⟩]), 5, 56) := by kernel_rfl
/-- at the head of a round -/
structure ScI (w W : World) (Y : Nat) (L : List Tok) (u : Value) : Prop where
  o : W.ownsRow Y 34 5 u L.length (cellsT L)
  b : Below Y w W
  y : Y ≤ W.heap.size
theorem ScI.below {w W W' : World} {Y : Nat} {L : List Tok} {u : Value} (h : ScI w W Y L u) (b : Below W.heap.size W W') : ScI w W' Y L u :=
  ⟨World.ownsRow.kept h.o (row := none) ⟨b.os, b.tape, b.output, b.size, fun q hq _ => b.block q hq⟩ (by cases u.ownBlock <;> simp), h.b.trans (b.mono h.y), Nat.le_trans h.y b.size⟩
theorem ScI.set {w W : World} {Y q : Nat} {L : List Tok} {u : Value} (h : ScI w W Y L u) (hq : Y ≤ q) (hu : u.ownBlock ≠ some q) (i : Nat) (x : Value) : ScI w (W.setCell ⟨q, i, none⟩ x) Y L u :=
  ⟨ownsRow_setCell_other h.o hu _, h.b.setCell (p := ⟨q, i, none⟩) hq _, by have := h.y; simpa using this⟩
theorem ScI.push {w W w8 : World} {Y g cap : Nat} {L : List Tok} {u : Value} {x : Tok} (h : ScI w W Y L u) (ho : w8.ownsRow Y 34 5 (.slice (some ⟨g, 0, none⟩) (L.length + 1) cap) (L.length + 1) (cellsT L ++ encT x)) (hg : W.grownBy w8 u.ownBlock) : ScI w w8 Y (L ++ [x]) (.slice (some ⟨g, 0, none⟩) (L.length + 1) cap) :=
  ⟨by rw [cellsT_one, List.length_append]; exact ho, h.b.trans ⟨hg.os, hg.tape, hg.output, hg.size, fun q hq => hg.block q (Nat.lt_of_lt_of_le hq h.y) (fun e => by have := (World.ownsRow.lt h.o _ e.symm).1; omega)⟩, Nat.le_trans h.y hg.size⟩
theorem blk_kept {v w : World} {r : Option Nat} {q : Nat} {t : TypeId} {cs : Array Value} (hg : v.grownBy w r) (hne : some q ≠ r) (h : Blk v q t cs) : Blk w q t cs := (hg.block q h.lt hne).trans h
theorem scand_err {w W : World} {a : Nat} {e : Int} {R : Out} (hR : R = ⟨[], a, e⟩) (h : Below w.heap.size w W) : Scand w R (.returned (.tuple #[.slice none 0 0, .int .i64 a, .int .i64 e])) W := by
  subst hR
  exact ⟨none, 0, rfl, fun p hp => absurd hp (Nat.not_lt_zero p), h⟩
theorem scand_ok {w W : World} {L : List Tok} {p : Option Addr} {cp n : Nat} {R : Out} (hR : R = ⟨L, 0, 0⟩) (hn : n = L.length) (h : ScI w W w.heap.size L (.slice p n cp)) : Scand w R (.returned (.tuple #[.slice p n cp, .int .i64 0, .int .i64 0])) W := by
  subst hR
  subst hn
  exact ⟨p, cp, rfl, toks_row rfl h.o, h.b⟩
theorem ba_empty {b : ByteArray} (h : b.size = 0) : b = ⟨#[]⟩ := ByteArray.ext (Array.eq_empty_of_size_eq_zero h)
theorem ba_some {b : ByteArray} (h : 0 < b.size) : (b.toList == []) = false ∧ b.toList.isEmpty = false ∧ (!b.toList.isEmpty) = true := by
  have e : b.toList = bl b := ByteArray.toList_eq ..
  rw [e]
  cases hb : bl b with
  | nil => have := bl_len b; rw [hb] at this; simp at this; omega
  | cons _ _ => exact ⟨rfl, rfl, rfl⟩
set_option maxHeartbeats 16000000 in
set_option maxRecDepth 100000 in
theorem scan_any (s : ByteArray) (hs : s.size ≤ 9223372036854775807) (w : World) : Calls Tryd.prog 7 #[.string s] w (Scand w (scanO s)) := by
  by_cases h4 : s.size ≤ 4096
  · have h4' : ¬ (4096 : Int) < (s.size : Int) := by omega
    obtain ⟨R, hR⟩ : ∃ R, scanO s = R := ⟨_, rfl⟩
    have HR : Hid (scanF s (s.size + 1) 0 [] = R) := Lib.hid (by rw [← hR]; unfold scanO; rw [if_neg (by omega)])
    rw [hR]
    clear hR
    obtain ⟨i34, hi, hz0, hz1, hz2⟩ := info_parts info34
    generalize hy : w.heap.size = Y at *
    have hY0 : Hid (ScI w w Y [] (.slice none 0 0)) := Lib.hid ⟨World.ownsRow_nil _ _ _ _, Below.refl _ _, by rw [hy]; exact Nat.le_refl _⟩
    go_enter Tryd.func7, Tryd.ntmps7
    go_wp2_with fail
    go_step3
    go_wp2_with fail
    go_step3
    go_wp2_with fail
    go_loopg [3, 2] (s.size + 1) (fun f i ts wq => ∃ (a : Nat) (L : List Tok) (u : Value), i = .int .i64 a ∧ ts = u ∧ a ≤ s.size ∧ s.size - a < f ∧ Hid (scanF s f a L = R) ∧ L.length ≤ a ∧ ScI w wq Y L u)
    case atStart => exact ⟨0, [], .slice none 0 0, rfl, rfl, Nat.zero_le _, by omega, HR, Nat.le_refl _, hY0.out⟩
    case round =>
      obtain ⟨a, L, u, rfl, rfl, ha, hf, hS, hLa, hI⟩ := hrel
      obtain ⟨f, rfl⟩ : ∃ f, gk = f + 1 := ⟨gk - 1, by omega⟩
      obtain ⟨ua, uc, hu⟩ := row_form hI.o
      subst hu
      obtain ⟨X, hX⟩ : ∃ X, wr.heap.size = X := ⟨_, rfl⟩
      have hYX : Y ≤ X := by rw [← hX]; exact hI.y
      have hUX : Hid ((Value.slice ua L.length uc).ownBlock ≠ some X) := Lib.hid (fun hq => by have := (World.ownsRow.lt hI.o _ hq).2; omega)
      obtain ⟨v0, hv0, X0, I0⟩ : ∃ v0, v0 = wr.alloc (.cells #[.int .i64 0, .int .i64 0, .string ⟨#[]⟩, .int .i64 0, .string ⟨#[]⟩] 34) ∧ Blk v0 X 34 #[.int .i64 0, .int .i64 0, .string ⟨#[]⟩, .int .i64 0, .string ⟨#[]⟩] ∧ ScI w v0 Y L (.slice ua L.length uc) :=
        ⟨_, rfl, by rw [← hX]; exact Blk.new wr 34 _, hI.below ((Below.refl _ _).alloc (Nat.le_refl _) _)⟩
      have V0 := Lib.hid hv0
      have X0h := Lib.hid X0
      have I0h := Lib.hid I0
      clear hv0 X0 I0 hI
      obtain ⟨n, hn⟩ : ∃ n, L.length = n := ⟨_, rfl⟩
      have HN := Lib.hid hn
      rw [hn] at hLa hUX I0h ⊢
      clear hn
      by_cases hend : s.size ≤ a
      · obtain rfl : a = s.size := by omega
        have HE : Hid (R = ⟨L ++ [⟨0, s.size, ⟨#[]⟩, 0, ⟨#[]⟩⟩], 0, 0⟩) := Lib.hid (by rw [← hS.out]; unfold scanF; rw [if_pos hend])
        have EX : s.extract s.size s.size = ⟨#[]⟩ := ba_empty (by rw [ByteArray.size_extract]; omega)
        have PU := Lib.hid (fun W (h : ScI w W Y L (.slice ua n uc)) w8 g cap => h.push (w8 := w8) (g := g) (cap := cap) (x := ⟨0, s.size, ⟨#[]⟩, 0, ⟨#[]⟩⟩))
        rw [HN.out] at PU
        have H1C := Lib.hid (one_cells ⟨0, s.size, ⟨#[]⟩, 0, ⟨#[]⟩⟩)
        have OW : Hid (v0.ownsRow Y 34 5 (.slice ua n uc) n (cellsT L)) := Lib.hid (by have := I0h.out.o; rw [HN.out] at this; exact this)
        have hYv : Y ≤ v0.heap.size := I0h.out.y
        have IA := Lib.hid (I0h.out.below ((Below.refl _ v0).alloc (Nat.le_refl _) (.cells #[.int .i64 0, .int .i64 s.size, .string ⟨#[]⟩, .int .i64 0, .string ⟨#[]⟩] 34)))
        clear hend
        go_upto_region 23 with fail
        rw [← V0.out]
        go_wp2_with (at_builtin; refine wpList_append_lies _ rfl (.tmp 66) (.tmp 69) 22 rfl Y 34 i34 (.agg #[.int .i64 0, .int .i64 0, .string ⟨#[]⟩, .int .i64 0, .string ⟨#[]⟩]) 5 56 Tryd.underlying22 hi hz0 hz1 hz2 rfl (by decide) (.slice ua n uc) n (cellsT L) rfl (World.ownsRow.alloc OW.out _) ⟨v0.heap.size, 0, none⟩ 1 1 (encT ⟨0, s.size, ⟨#[]⟩, 0, ⟨#[]⟩⟩) rfl rfl (World.news_of_block (cs := #[.int .i64 0, .int .i64 s.size, .string ⟨#[]⟩, .int .i64 0, .string ⟨#[]⟩]) (heap_alloc_new v0 _)) H1C.out (by decide) (by unfold maxLen; omega) (by omega) (by simp; omega) _ rfl ?_; intro g8 cap8 w8 ho8 hg8 _ _; have I8h := Lib.hid (PU.out _ IA.out w8 g8 cap8 ho8 hg8); clear ho8 hg8)
        try rw [Exit.noGoto_ret]
        go_ret3
        exact scand_ok HE.out (by rw [List.length_append, HN.out]; rfl) (hy ▸ I8h.out)
      · have EX : Hid (s.extract a s.size = rst s a) := Lib.hid rfl
        have hrs := rst_size s a
        have hlt : a < s.size := by omega
        have hml := oneT_le (rst s a)
        have hts : ((rst s a).extract 0 (oneT (rst s a)).m).size = (oneT (rst s a)).m := by rw [ByteArray.size_extract]; omega
        have HBL : Hid (blankB (hd (rst s a)) = true → scanF s f (a + 1) L = R) := Lib.hid (fun h => by
          rw [← hS.out]; conv => rhs; unfold scanF
          rw [if_neg hend, if_pos h])
        have ERR0 : Hid (blankB (hd (rst s a)) = false → ((rst s a).extract 0 (oneT (rst s a)).m).size = 0 → R = ⟨[], a, 90⟩) := Lib.hid (fun h h0 => by
          rw [hts] at h0
          rw [← hS.out]; unfold scanF
          rw [if_neg hend, if_neg (by rw [h]; decide), if_pos h0])
        have GO0 : Hid (blankB (hd (rst s a)) = false → ((rst s a).extract 0 (oneT (rst s a)).m).size ≠ 0 → scanF s f (a + ((rst s a).extract 0 (oneT (rst s a)).m).size) (L ++ [⟨(oneT (rst s a)).k, a, (rst s a).extract 0 (oneT (rst s a)).m, (oneT (rst s a)).n, (oneT (rst s a)).s⟩]) = R) := Lib.hid (fun h h0 => by
          rw [hts] at h0 ⊢
          rw [← hS.out]; conv => rhs; unfold scanF
          rw [if_neg hend, if_neg (by rw [h]; decide), if_neg h0]
          rfl)
        have hxm : a + ((rst s a).extract 0 (oneT (rst s a)).m).size ≤ s.size := by omega
        clear hts hml hS hend
        have hx : (oneT (rst s a)).val (rst s a) = tokV (oneT (rst s a)).k 0 ((rst s a).extract 0 (oneT (rst s a)).m) (oneT (rst s a)).n (oneT (rst s a)).s := rfl
        generalize (rst s a).extract 0 (oneT (rst s a)).m = xt at *
        have hOne : oneT (rst s a) = if lettB (hd (rst s a)) then wordT (rst s a) else if digB (hd (rst s a)) || decide (hd (rst s a) = 45) then numT (rst s a) else if hd (rst s a) = 39 then textT (rst s a) else if hd (rst s a) = 35 then bitsT (rst s a) else signT (rst s a) := rfl
        generalize rst s a = r at *
        have hr0 : 0 < r.size := by omega
        have hr4 : r.size ≤ 4096 := by omega
        obtain ⟨r0, r1, r2⟩ := ba_some hr0
        have hhd : hd r = (r[0].toNat : Int) := by unfold hd; rw [head_at r hr0]
        rw [hhd] at HBL ERR0 GO0 hOne
        clear hhd
        obtain ⟨c, hc⟩ : ∃ c : Int, (r[0].toNat : Int) = c := ⟨_, rfl⟩
        have hr0i : (0 : Int) < (r.size : Int) := by omega
        go_upto_block 2 with fail
        rw [← V0.out, EX.out]
        rw [hc] at HBL ERR0 GO0 hOne
        have BLc := Lib.hid (blank_any c)
        have LTc := Lib.hid (letter_any c)
        have DGc := Lib.hid (digit_any c)
        generalize (oneT r).k = xk at *
        generalize (oneT r).n = xn at *
        generalize (oneT r).s = xs at *
        generalize blankB c = bB at *
        generalize lettB c = bL at *
        generalize digB c = bD at *
        cases bB
        · have ERR : Hid (xt.size = 0 → R = ⟨[], a, 90⟩) := Lib.hid (ERR0.out rfl)
          have GO : Hid (xt.size ≠ 0 → scanF s f (a + xt.size) (L ++ [⟨xk, a, xt, xn, xs⟩]) = R) := Lib.hid (GO0.out rfl)
          clear HBL ERR0 GO0
          cases bL
          · cases bD
            · by_cases h45 : c = 45
              · have d45 : (c == 45) = true := by simpa using h45
                have hO : oneT r = numT r := by rw [hOne, if_neg (by decide), decide_eq_true h45]; rfl
                have TK : Hid (∀ W, Calls Tryd.prog 16 #[.string r] W fun e w' => e = .returned (.agg #[.int .i64 xk, .int .i64 0, .string xt, .int .i64 xn, .string xs]) ∧ Below W.heap.size W w') := Lib.hid (fun W => by
                  have := number_any r hr4 W
                  rw [← hO] at this
                  rw [hx] at this
                  exact this)
                clear hx hOne hO h45
                go_wp2_with fail
                refine (BLc.out _).mono ?_
                rintro e wq ⟨rfl, rfl⟩
                go_wp2_with fail
                refine (LTc.out _).mono ?_
                rintro e wq ⟨rfl, rfl⟩
                go_wp2_with fail
                refine (DGc.out _).mono ?_
                rintro e wq ⟨rfl, rfl⟩
                go_wp2_with fail
                refine (TK.out _).mono ?_
                rintro e v1 ⟨rfl, b1⟩
                have I1h := Lib.hid (I0h.out.below b1)
                have X1h := Lib.hid (X0h.out.below b1)
                clear b1
                have y0 : v1.cell? ⟨X, 0, none⟩ = some (.int .i64 0) := X1h.out.cell 0
                have y1 : v1.cell? ⟨X, 1, none⟩ = some (.int .i64 0) := X1h.out.cell 1
                have y2 : v1.cell? ⟨X, 2, none⟩ = some (.string ⟨#[]⟩) := X1h.out.cell 2
                have y3 : v1.cell? ⟨X, 3, none⟩ = some (.int .i64 0) := X1h.out.cell 3
                have y4 : v1.cell? ⟨X, 4, none⟩ = some (.string ⟨#[]⟩) := X1h.out.cell 4
                have f0 := X1h.out.free 0
                have f1 := X1h.out.free 1
                have f2 := X1h.out.free 2
                have f3 := X1h.out.free 3
                have f4 := X1h.out.free 4
                obtain ⟨v2, hv2, X2, I2⟩ : ∃ v2, v2 = ((((v1.setCell ⟨X, 0, none⟩ (.int .i64 xk)).setCell ⟨X, 1, none⟩ (.int .i64 0)).setCell ⟨X, 2, none⟩ (.string xt)).setCell ⟨X, 3, none⟩ (.int .i64 xn)).setCell ⟨X, 4, none⟩ (.string xs) ∧ Blk v2 X 34 #[.int .i64 xk, .int .i64 0, .string xt, .int .i64 xn, .string xs] ∧ ScI w v2 Y L (.slice ua n uc) :=
                  ⟨_, rfl, ((((X1h.out.set 0 _).set 1 _).set 2 _).set 3 _).set 4 _, ((((I1h.out.set hYX hUX.out 0 _).set hYX hUX.out 1 _).set hYX hUX.out 2 _).set hYX hUX.out 3 _).set hYX hUX.out 4 _⟩
                have V2 := Lib.hid hv2
                have X2h := Lib.hid X2
                have I2h := Lib.hid I2
                clear hv2 X2 I2
                go_upto_region 18 with fail
                rw [← V2.out]
                clear y0 y1 y2 y3 y4 f0 f1 f2 f3 f4 I1h X1h V2
                have z0 : v2.cell? ⟨X, 0, none⟩ = some (.int .i64 xk) := X2h.out.cell 0
                have z1 : v2.cell? ⟨X, 1, none⟩ = some (.int .i64 0) := X2h.out.cell 1
                have z2 : v2.cell? ⟨X, 2, none⟩ = some (.string xt) := X2h.out.cell 2
                have z3 : v2.cell? ⟨X, 3, none⟩ = some (.int .i64 xn) := X2h.out.cell 3
                have z4 : v2.cell? ⟨X, 4, none⟩ = some (.string xs) := X2h.out.cell 4
                have zf := X2h.out.free 1
                by_cases hm : xt.size = 0
                · have HE := Lib.hid (ERR.out hm)
                  obtain rfl := ba_empty hm
                  clear hm
                  go_wp2_with fail
                  try rw [Exit.noGoto_ret]
                  go_ret3
                  exact scand_err HE.out (hy ▸ I2h.out.b)
                · have HG := Lib.hid (GO.out hm)
                  obtain ⟨q0, q1, q2⟩ := ba_some (b := xt) (by omega)
                  have HXM := Lib.hid hxm
                  have hxl : (a : Int) + (xt.size : Int) ≤ 4096 := by omega
                  have hxp : 0 < xt.size := by omega
                  obtain ⟨v3, hv3, X3, I3⟩ : ∃ v3, v3 = v2.setCell ⟨X, 1, none⟩ (.int .i64 a) ∧ Blk v3 X 34 #[.int .i64 xk, .int .i64 a, .string xt, .int .i64 xn, .string xs] ∧ ScI w v3 Y L (.slice ua n uc) :=
                    ⟨_, rfl, X2h.out.set 1 _, I2h.out.set hYX hUX.out 1 _⟩
                  have V3 := Lib.hid hv3
                  have X3h := Lib.hid X3
                  have I3h := Lib.hid I3
                  clear hv3 X3 I3 hm
                  go_upto_region 21 with fail
                  rw [← V3.out]
                  clear z0 z1 z2 z3 z4 zf X2h I2h V3
                  have z0 : v3.cell? ⟨X, 0, none⟩ = some (.int .i64 xk) := X3h.out.cell 0
                  have z1 : v3.cell? ⟨X, 1, none⟩ = some (.int .i64 a) := X3h.out.cell 1
                  have z2 : v3.cell? ⟨X, 2, none⟩ = some (.string xt) := X3h.out.cell 2
                  have z3 : v3.cell? ⟨X, 3, none⟩ = some (.int .i64 xn) := X3h.out.cell 3
                  have z4 : v3.cell? ⟨X, 4, none⟩ = some (.string xs) := X3h.out.cell 4
                  have PU := Lib.hid (fun w8 g cap => (I3h.out.below ((Below.refl _ v3).alloc (Nat.le_refl _) (.cells #[.int .i64 xk, .int .i64 a, .string xt, .int .i64 xn, .string xs] 34))).push (w8 := w8) (g := g) (cap := cap) (x := ⟨xk, a, xt, xn, xs⟩))
                  rw [HN.out] at PU
                  have H1C := Lib.hid (one_cells ⟨xk, a, xt, xn, xs⟩)
                  have OW : Hid (v3.ownsRow Y 34 5 (.slice ua n uc) n (cellsT L)) := Lib.hid (by have := I3h.out.o; rw [HN.out] at this; exact this)
                  have hYv : Y ≤ v3.heap.size := I3h.out.y
                  have XA := Lib.hid (X3h.out.below ((Below.refl _ v3).alloc (Nat.le_refl _) (.cells #[.int .i64 xk, .int .i64 a, .string xt, .int .i64 xn, .string xs] 34)))
                  go_wp2_with (at_builtin; refine wpList_append_lies _ rfl (.tmp 57) (.tmp 59) 22 rfl Y 34 i34 (.agg #[.int .i64 0, .int .i64 0, .string ⟨#[]⟩, .int .i64 0, .string ⟨#[]⟩]) 5 56 Tryd.underlying22 hi hz0 hz1 hz2 rfl (by decide) (.slice ua n uc) n (cellsT L) rfl (World.ownsRow.alloc OW.out _) ⟨v3.heap.size, 0, none⟩ 1 1 (encT ⟨xk, a, xt, xn, xs⟩) rfl rfl (World.news_of_block (cs := #[.int .i64 xk, .int .i64 a, .string xt, .int .i64 xn, .string xs]) (heap_alloc_new v3 _)) H1C.out (by decide) (by unfold maxLen; omega) (by omega) (by simp; omega) _ rfl ?_; intro g8 cap8 w8 ho8 hg8 _ _; have I8h := Lib.hid (PU.out w8 g8 cap8 ho8 hg8); have m2 : w8.cell? ⟨X, 2, none⟩ = some (.string xt) := (blk_kept hg8 (Ne.symm hUX.out) XA.out).cell 2; clear ho8 hg8)
                  go_roundg f
                  case measure => omega
                  case rel => exact ⟨a + xt.size, L ++ [⟨xk, a, xt, xn, xs⟩], _, by go_num, rfl, by omega, by omega, HG, by rw [List.length_append, HN.out]; simp; omega, I8h.out⟩
              by_cases h39 : c = 39
              · have d45 : (c == 45) = false := by simpa using h45
                have d39 : (c == 39) = true := by simpa using h39
                have hO : oneT r = textT r := by rw [hOne, if_neg (by decide), decide_eq_false h45, if_neg (by decide), if_pos h39]
                have TK : Hid (∀ W, Calls Tryd.prog 17 #[.string r] W fun e w' => e = .returned (.agg #[.int .i64 xk, .int .i64 0, .string xt, .int .i64 xn, .string xs]) ∧ Below W.heap.size W w') := Lib.hid (fun W => by
                  have := text_any r hr0 hr4 W
                  rw [← hO] at this
                  rw [hx] at this
                  exact this)
                clear hx hOne hO h45 h39
                go_wp2_with fail
                refine (BLc.out _).mono ?_
                rintro e wq ⟨rfl, rfl⟩
                go_wp2_with fail
                refine (LTc.out _).mono ?_
                rintro e wq ⟨rfl, rfl⟩
                go_wp2_with fail
                refine (DGc.out _).mono ?_
                rintro e wq ⟨rfl, rfl⟩
                go_wp2_with fail
                refine (TK.out _).mono ?_
                rintro e v1 ⟨rfl, b1⟩
                have I1h := Lib.hid (I0h.out.below b1)
                have X1h := Lib.hid (X0h.out.below b1)
                clear b1
                have y0 : v1.cell? ⟨X, 0, none⟩ = some (.int .i64 0) := X1h.out.cell 0
                have y1 : v1.cell? ⟨X, 1, none⟩ = some (.int .i64 0) := X1h.out.cell 1
                have y2 : v1.cell? ⟨X, 2, none⟩ = some (.string ⟨#[]⟩) := X1h.out.cell 2
                have y3 : v1.cell? ⟨X, 3, none⟩ = some (.int .i64 0) := X1h.out.cell 3
                have y4 : v1.cell? ⟨X, 4, none⟩ = some (.string ⟨#[]⟩) := X1h.out.cell 4
                have f0 := X1h.out.free 0
                have f1 := X1h.out.free 1
                have f2 := X1h.out.free 2
                have f3 := X1h.out.free 3
                have f4 := X1h.out.free 4
                obtain ⟨v2, hv2, X2, I2⟩ : ∃ v2, v2 = ((((v1.setCell ⟨X, 0, none⟩ (.int .i64 xk)).setCell ⟨X, 1, none⟩ (.int .i64 0)).setCell ⟨X, 2, none⟩ (.string xt)).setCell ⟨X, 3, none⟩ (.int .i64 xn)).setCell ⟨X, 4, none⟩ (.string xs) ∧ Blk v2 X 34 #[.int .i64 xk, .int .i64 0, .string xt, .int .i64 xn, .string xs] ∧ ScI w v2 Y L (.slice ua n uc) :=
                  ⟨_, rfl, ((((X1h.out.set 0 _).set 1 _).set 2 _).set 3 _).set 4 _, ((((I1h.out.set hYX hUX.out 0 _).set hYX hUX.out 1 _).set hYX hUX.out 2 _).set hYX hUX.out 3 _).set hYX hUX.out 4 _⟩
                have V2 := Lib.hid hv2
                have X2h := Lib.hid X2
                have I2h := Lib.hid I2
                clear hv2 X2 I2
                go_upto_region 18 with fail
                rw [← V2.out]
                clear y0 y1 y2 y3 y4 f0 f1 f2 f3 f4 I1h X1h V2
                have z0 : v2.cell? ⟨X, 0, none⟩ = some (.int .i64 xk) := X2h.out.cell 0
                have z1 : v2.cell? ⟨X, 1, none⟩ = some (.int .i64 0) := X2h.out.cell 1
                have z2 : v2.cell? ⟨X, 2, none⟩ = some (.string xt) := X2h.out.cell 2
                have z3 : v2.cell? ⟨X, 3, none⟩ = some (.int .i64 xn) := X2h.out.cell 3
                have z4 : v2.cell? ⟨X, 4, none⟩ = some (.string xs) := X2h.out.cell 4
                have zf := X2h.out.free 1
                by_cases hm : xt.size = 0
                · have HE := Lib.hid (ERR.out hm)
                  obtain rfl := ba_empty hm
                  clear hm
                  go_wp2_with fail
                  try rw [Exit.noGoto_ret]
                  go_ret3
                  exact scand_err HE.out (hy ▸ I2h.out.b)
                · have HG := Lib.hid (GO.out hm)
                  obtain ⟨q0, q1, q2⟩ := ba_some (b := xt) (by omega)
                  have HXM := Lib.hid hxm
                  have hxl : (a : Int) + (xt.size : Int) ≤ 4096 := by omega
                  have hxp : 0 < xt.size := by omega
                  obtain ⟨v3, hv3, X3, I3⟩ : ∃ v3, v3 = v2.setCell ⟨X, 1, none⟩ (.int .i64 a) ∧ Blk v3 X 34 #[.int .i64 xk, .int .i64 a, .string xt, .int .i64 xn, .string xs] ∧ ScI w v3 Y L (.slice ua n uc) :=
                    ⟨_, rfl, X2h.out.set 1 _, I2h.out.set hYX hUX.out 1 _⟩
                  have V3 := Lib.hid hv3
                  have X3h := Lib.hid X3
                  have I3h := Lib.hid I3
                  clear hv3 X3 I3 hm
                  go_upto_region 21 with fail
                  rw [← V3.out]
                  clear z0 z1 z2 z3 z4 zf X2h I2h V3
                  have z0 : v3.cell? ⟨X, 0, none⟩ = some (.int .i64 xk) := X3h.out.cell 0
                  have z1 : v3.cell? ⟨X, 1, none⟩ = some (.int .i64 a) := X3h.out.cell 1
                  have z2 : v3.cell? ⟨X, 2, none⟩ = some (.string xt) := X3h.out.cell 2
                  have z3 : v3.cell? ⟨X, 3, none⟩ = some (.int .i64 xn) := X3h.out.cell 3
                  have z4 : v3.cell? ⟨X, 4, none⟩ = some (.string xs) := X3h.out.cell 4
                  have PU := Lib.hid (fun w8 g cap => (I3h.out.below ((Below.refl _ v3).alloc (Nat.le_refl _) (.cells #[.int .i64 xk, .int .i64 a, .string xt, .int .i64 xn, .string xs] 34))).push (w8 := w8) (g := g) (cap := cap) (x := ⟨xk, a, xt, xn, xs⟩))
                  rw [HN.out] at PU
                  have H1C := Lib.hid (one_cells ⟨xk, a, xt, xn, xs⟩)
                  have OW : Hid (v3.ownsRow Y 34 5 (.slice ua n uc) n (cellsT L)) := Lib.hid (by have := I3h.out.o; rw [HN.out] at this; exact this)
                  have hYv : Y ≤ v3.heap.size := I3h.out.y
                  have XA := Lib.hid (X3h.out.below ((Below.refl _ v3).alloc (Nat.le_refl _) (.cells #[.int .i64 xk, .int .i64 a, .string xt, .int .i64 xn, .string xs] 34)))
                  go_wp2_with (at_builtin; refine wpList_append_lies _ rfl (.tmp 57) (.tmp 59) 22 rfl Y 34 i34 (.agg #[.int .i64 0, .int .i64 0, .string ⟨#[]⟩, .int .i64 0, .string ⟨#[]⟩]) 5 56 Tryd.underlying22 hi hz0 hz1 hz2 rfl (by decide) (.slice ua n uc) n (cellsT L) rfl (World.ownsRow.alloc OW.out _) ⟨v3.heap.size, 0, none⟩ 1 1 (encT ⟨xk, a, xt, xn, xs⟩) rfl rfl (World.news_of_block (cs := #[.int .i64 xk, .int .i64 a, .string xt, .int .i64 xn, .string xs]) (heap_alloc_new v3 _)) H1C.out (by decide) (by unfold maxLen; omega) (by omega) (by simp; omega) _ rfl ?_; intro g8 cap8 w8 ho8 hg8 _ _; have I8h := Lib.hid (PU.out w8 g8 cap8 ho8 hg8); have m2 : w8.cell? ⟨X, 2, none⟩ = some (.string xt) := (blk_kept hg8 (Ne.symm hUX.out) XA.out).cell 2; clear ho8 hg8)
                  go_roundg f
                  case measure => omega
                  case rel => exact ⟨a + xt.size, L ++ [⟨xk, a, xt, xn, xs⟩], _, by go_num, rfl, by omega, by omega, HG, by rw [List.length_append, HN.out]; simp; omega, I8h.out⟩
              by_cases h35 : c = 35
              · have d45 : (c == 45) = false := by simpa using h45
                have d39 : (c == 39) = false := by simpa using h39
                have d35 : (c == 35) = true := by simpa using h35
                have hO : oneT r = bitsT r := by rw [hOne, if_neg (by decide), decide_eq_false h45, if_neg (by decide), if_neg h39, if_pos h35]
                have TK : Hid (∀ W, Calls Tryd.prog 18 #[.string r] W fun e w' => e = .returned (.agg #[.int .i64 xk, .int .i64 0, .string xt, .int .i64 xn, .string xs]) ∧ Below W.heap.size W w') := Lib.hid (fun W => by
                  have := bits_any r hr0 hr4 W
                  rw [← hO] at this
                  rw [hx] at this
                  exact this)
                clear hx hOne hO h45 h39 h35
                go_wp2_with fail
                refine (BLc.out _).mono ?_
                rintro e wq ⟨rfl, rfl⟩
                go_wp2_with fail
                refine (LTc.out _).mono ?_
                rintro e wq ⟨rfl, rfl⟩
                go_wp2_with fail
                refine (DGc.out _).mono ?_
                rintro e wq ⟨rfl, rfl⟩
                go_wp2_with fail
                refine (TK.out _).mono ?_
                rintro e v1 ⟨rfl, b1⟩
                have I1h := Lib.hid (I0h.out.below b1)
                have X1h := Lib.hid (X0h.out.below b1)
                clear b1
                have y0 : v1.cell? ⟨X, 0, none⟩ = some (.int .i64 0) := X1h.out.cell 0
                have y1 : v1.cell? ⟨X, 1, none⟩ = some (.int .i64 0) := X1h.out.cell 1
                have y2 : v1.cell? ⟨X, 2, none⟩ = some (.string ⟨#[]⟩) := X1h.out.cell 2
                have y3 : v1.cell? ⟨X, 3, none⟩ = some (.int .i64 0) := X1h.out.cell 3
                have y4 : v1.cell? ⟨X, 4, none⟩ = some (.string ⟨#[]⟩) := X1h.out.cell 4
                have f0 := X1h.out.free 0
                have f1 := X1h.out.free 1
                have f2 := X1h.out.free 2
                have f3 := X1h.out.free 3
                have f4 := X1h.out.free 4
                obtain ⟨v2, hv2, X2, I2⟩ : ∃ v2, v2 = ((((v1.setCell ⟨X, 0, none⟩ (.int .i64 xk)).setCell ⟨X, 1, none⟩ (.int .i64 0)).setCell ⟨X, 2, none⟩ (.string xt)).setCell ⟨X, 3, none⟩ (.int .i64 xn)).setCell ⟨X, 4, none⟩ (.string xs) ∧ Blk v2 X 34 #[.int .i64 xk, .int .i64 0, .string xt, .int .i64 xn, .string xs] ∧ ScI w v2 Y L (.slice ua n uc) :=
                  ⟨_, rfl, ((((X1h.out.set 0 _).set 1 _).set 2 _).set 3 _).set 4 _, ((((I1h.out.set hYX hUX.out 0 _).set hYX hUX.out 1 _).set hYX hUX.out 2 _).set hYX hUX.out 3 _).set hYX hUX.out 4 _⟩
                have V2 := Lib.hid hv2
                have X2h := Lib.hid X2
                have I2h := Lib.hid I2
                clear hv2 X2 I2
                go_upto_region 18 with fail
                rw [← V2.out]
                clear y0 y1 y2 y3 y4 f0 f1 f2 f3 f4 I1h X1h V2
                have z0 : v2.cell? ⟨X, 0, none⟩ = some (.int .i64 xk) := X2h.out.cell 0
                have z1 : v2.cell? ⟨X, 1, none⟩ = some (.int .i64 0) := X2h.out.cell 1
                have z2 : v2.cell? ⟨X, 2, none⟩ = some (.string xt) := X2h.out.cell 2
                have z3 : v2.cell? ⟨X, 3, none⟩ = some (.int .i64 xn) := X2h.out.cell 3
                have z4 : v2.cell? ⟨X, 4, none⟩ = some (.string xs) := X2h.out.cell 4
                have zf := X2h.out.free 1
                by_cases hm : xt.size = 0
                · have HE := Lib.hid (ERR.out hm)
                  obtain rfl := ba_empty hm
                  clear hm
                  go_wp2_with fail
                  try rw [Exit.noGoto_ret]
                  go_ret3
                  exact scand_err HE.out (hy ▸ I2h.out.b)
                · have HG := Lib.hid (GO.out hm)
                  obtain ⟨q0, q1, q2⟩ := ba_some (b := xt) (by omega)
                  have HXM := Lib.hid hxm
                  have hxl : (a : Int) + (xt.size : Int) ≤ 4096 := by omega
                  have hxp : 0 < xt.size := by omega
                  obtain ⟨v3, hv3, X3, I3⟩ : ∃ v3, v3 = v2.setCell ⟨X, 1, none⟩ (.int .i64 a) ∧ Blk v3 X 34 #[.int .i64 xk, .int .i64 a, .string xt, .int .i64 xn, .string xs] ∧ ScI w v3 Y L (.slice ua n uc) :=
                    ⟨_, rfl, X2h.out.set 1 _, I2h.out.set hYX hUX.out 1 _⟩
                  have V3 := Lib.hid hv3
                  have X3h := Lib.hid X3
                  have I3h := Lib.hid I3
                  clear hv3 X3 I3 hm
                  go_upto_region 21 with fail
                  rw [← V3.out]
                  clear z0 z1 z2 z3 z4 zf X2h I2h V3
                  have z0 : v3.cell? ⟨X, 0, none⟩ = some (.int .i64 xk) := X3h.out.cell 0
                  have z1 : v3.cell? ⟨X, 1, none⟩ = some (.int .i64 a) := X3h.out.cell 1
                  have z2 : v3.cell? ⟨X, 2, none⟩ = some (.string xt) := X3h.out.cell 2
                  have z3 : v3.cell? ⟨X, 3, none⟩ = some (.int .i64 xn) := X3h.out.cell 3
                  have z4 : v3.cell? ⟨X, 4, none⟩ = some (.string xs) := X3h.out.cell 4
                  have PU := Lib.hid (fun w8 g cap => (I3h.out.below ((Below.refl _ v3).alloc (Nat.le_refl _) (.cells #[.int .i64 xk, .int .i64 a, .string xt, .int .i64 xn, .string xs] 34))).push (w8 := w8) (g := g) (cap := cap) (x := ⟨xk, a, xt, xn, xs⟩))
                  rw [HN.out] at PU
                  have H1C := Lib.hid (one_cells ⟨xk, a, xt, xn, xs⟩)
                  have OW : Hid (v3.ownsRow Y 34 5 (.slice ua n uc) n (cellsT L)) := Lib.hid (by have := I3h.out.o; rw [HN.out] at this; exact this)
                  have hYv : Y ≤ v3.heap.size := I3h.out.y
                  have XA := Lib.hid (X3h.out.below ((Below.refl _ v3).alloc (Nat.le_refl _) (.cells #[.int .i64 xk, .int .i64 a, .string xt, .int .i64 xn, .string xs] 34)))
                  go_wp2_with (at_builtin; refine wpList_append_lies _ rfl (.tmp 57) (.tmp 59) 22 rfl Y 34 i34 (.agg #[.int .i64 0, .int .i64 0, .string ⟨#[]⟩, .int .i64 0, .string ⟨#[]⟩]) 5 56 Tryd.underlying22 hi hz0 hz1 hz2 rfl (by decide) (.slice ua n uc) n (cellsT L) rfl (World.ownsRow.alloc OW.out _) ⟨v3.heap.size, 0, none⟩ 1 1 (encT ⟨xk, a, xt, xn, xs⟩) rfl rfl (World.news_of_block (cs := #[.int .i64 xk, .int .i64 a, .string xt, .int .i64 xn, .string xs]) (heap_alloc_new v3 _)) H1C.out (by decide) (by unfold maxLen; omega) (by omega) (by simp; omega) _ rfl ?_; intro g8 cap8 w8 ho8 hg8 _ _; have I8h := Lib.hid (PU.out w8 g8 cap8 ho8 hg8); have m2 : w8.cell? ⟨X, 2, none⟩ = some (.string xt) := (blk_kept hg8 (Ne.symm hUX.out) XA.out).cell 2; clear ho8 hg8)
                  go_roundg f
                  case measure => omega
                  case rel => exact ⟨a + xt.size, L ++ [⟨xk, a, xt, xn, xs⟩], _, by go_num, rfl, by omega, by omega, HG, by rw [List.length_append, HN.out]; simp; omega, I8h.out⟩
              have d45 : (c == 45) = false := by simpa using h45
              have d39 : (c == 39) = false := by simpa using h39
              have d35 : (c == 35) = false := by simpa using h35
              have hO : oneT r = signT r := by rw [hOne, if_neg (by decide), decide_eq_false h45, if_neg (by decide), if_neg h39, if_neg h35]
              have TK : Hid (∀ W, Calls Tryd.prog 19 #[.string r] W fun e w' => e = .returned (.agg #[.int .i64 xk, .int .i64 0, .string xt, .int .i64 xn, .string xs]) ∧ Below W.heap.size W w') := Lib.hid (fun W => by
                have := sign_any r hr0 hr4 W
                rw [← hO] at this
                rw [hx] at this
                exact this)
              clear hx hOne hO h45 h39 h35
              go_wp2_with fail
              refine (BLc.out _).mono ?_
              rintro e wq ⟨rfl, rfl⟩
              go_wp2_with fail
              refine (LTc.out _).mono ?_
              rintro e wq ⟨rfl, rfl⟩
              go_wp2_with fail
              refine (DGc.out _).mono ?_
              rintro e wq ⟨rfl, rfl⟩
              go_wp2_with fail
              refine (TK.out _).mono ?_
              rintro e v1 ⟨rfl, b1⟩
              have I1h := Lib.hid (I0h.out.below b1)
              have X1h := Lib.hid (X0h.out.below b1)
              clear b1
              have y0 : v1.cell? ⟨X, 0, none⟩ = some (.int .i64 0) := X1h.out.cell 0
              have y1 : v1.cell? ⟨X, 1, none⟩ = some (.int .i64 0) := X1h.out.cell 1
              have y2 : v1.cell? ⟨X, 2, none⟩ = some (.string ⟨#[]⟩) := X1h.out.cell 2
              have y3 : v1.cell? ⟨X, 3, none⟩ = some (.int .i64 0) := X1h.out.cell 3
              have y4 : v1.cell? ⟨X, 4, none⟩ = some (.string ⟨#[]⟩) := X1h.out.cell 4
              have f0 := X1h.out.free 0
              have f1 := X1h.out.free 1
              have f2 := X1h.out.free 2
              have f3 := X1h.out.free 3
              have f4 := X1h.out.free 4
              obtain ⟨v2, hv2, X2, I2⟩ : ∃ v2, v2 = ((((v1.setCell ⟨X, 0, none⟩ (.int .i64 xk)).setCell ⟨X, 1, none⟩ (.int .i64 0)).setCell ⟨X, 2, none⟩ (.string xt)).setCell ⟨X, 3, none⟩ (.int .i64 xn)).setCell ⟨X, 4, none⟩ (.string xs) ∧ Blk v2 X 34 #[.int .i64 xk, .int .i64 0, .string xt, .int .i64 xn, .string xs] ∧ ScI w v2 Y L (.slice ua n uc) :=
                ⟨_, rfl, ((((X1h.out.set 0 _).set 1 _).set 2 _).set 3 _).set 4 _, ((((I1h.out.set hYX hUX.out 0 _).set hYX hUX.out 1 _).set hYX hUX.out 2 _).set hYX hUX.out 3 _).set hYX hUX.out 4 _⟩
              have V2 := Lib.hid hv2
              have X2h := Lib.hid X2
              have I2h := Lib.hid I2
              clear hv2 X2 I2
              go_upto_region 18 with fail
              rw [← V2.out]
              clear y0 y1 y2 y3 y4 f0 f1 f2 f3 f4 I1h X1h V2
              have z0 : v2.cell? ⟨X, 0, none⟩ = some (.int .i64 xk) := X2h.out.cell 0
              have z1 : v2.cell? ⟨X, 1, none⟩ = some (.int .i64 0) := X2h.out.cell 1
              have z2 : v2.cell? ⟨X, 2, none⟩ = some (.string xt) := X2h.out.cell 2
              have z3 : v2.cell? ⟨X, 3, none⟩ = some (.int .i64 xn) := X2h.out.cell 3
              have z4 : v2.cell? ⟨X, 4, none⟩ = some (.string xs) := X2h.out.cell 4
              have zf := X2h.out.free 1
              by_cases hm : xt.size = 0
              · have HE := Lib.hid (ERR.out hm)
                obtain rfl := ba_empty hm
                clear hm
                go_wp2_with fail
                try rw [Exit.noGoto_ret]
                go_ret3
                exact scand_err HE.out (hy ▸ I2h.out.b)
              · have HG := Lib.hid (GO.out hm)
                obtain ⟨q0, q1, q2⟩ := ba_some (b := xt) (by omega)
                have HXM := Lib.hid hxm
                have hxl : (a : Int) + (xt.size : Int) ≤ 4096 := by omega
                have hxp : 0 < xt.size := by omega
                obtain ⟨v3, hv3, X3, I3⟩ : ∃ v3, v3 = v2.setCell ⟨X, 1, none⟩ (.int .i64 a) ∧ Blk v3 X 34 #[.int .i64 xk, .int .i64 a, .string xt, .int .i64 xn, .string xs] ∧ ScI w v3 Y L (.slice ua n uc) :=
                  ⟨_, rfl, X2h.out.set 1 _, I2h.out.set hYX hUX.out 1 _⟩
                have V3 := Lib.hid hv3
                have X3h := Lib.hid X3
                have I3h := Lib.hid I3
                clear hv3 X3 I3 hm
                go_upto_region 21 with fail
                rw [← V3.out]
                clear z0 z1 z2 z3 z4 zf X2h I2h V3
                have z0 : v3.cell? ⟨X, 0, none⟩ = some (.int .i64 xk) := X3h.out.cell 0
                have z1 : v3.cell? ⟨X, 1, none⟩ = some (.int .i64 a) := X3h.out.cell 1
                have z2 : v3.cell? ⟨X, 2, none⟩ = some (.string xt) := X3h.out.cell 2
                have z3 : v3.cell? ⟨X, 3, none⟩ = some (.int .i64 xn) := X3h.out.cell 3
                have z4 : v3.cell? ⟨X, 4, none⟩ = some (.string xs) := X3h.out.cell 4
                have PU := Lib.hid (fun w8 g cap => (I3h.out.below ((Below.refl _ v3).alloc (Nat.le_refl _) (.cells #[.int .i64 xk, .int .i64 a, .string xt, .int .i64 xn, .string xs] 34))).push (w8 := w8) (g := g) (cap := cap) (x := ⟨xk, a, xt, xn, xs⟩))
                rw [HN.out] at PU
                have H1C := Lib.hid (one_cells ⟨xk, a, xt, xn, xs⟩)
                have OW : Hid (v3.ownsRow Y 34 5 (.slice ua n uc) n (cellsT L)) := Lib.hid (by have := I3h.out.o; rw [HN.out] at this; exact this)
                have hYv : Y ≤ v3.heap.size := I3h.out.y
                have XA := Lib.hid (X3h.out.below ((Below.refl _ v3).alloc (Nat.le_refl _) (.cells #[.int .i64 xk, .int .i64 a, .string xt, .int .i64 xn, .string xs] 34)))
                go_wp2_with (at_builtin; refine wpList_append_lies _ rfl (.tmp 57) (.tmp 59) 22 rfl Y 34 i34 (.agg #[.int .i64 0, .int .i64 0, .string ⟨#[]⟩, .int .i64 0, .string ⟨#[]⟩]) 5 56 Tryd.underlying22 hi hz0 hz1 hz2 rfl (by decide) (.slice ua n uc) n (cellsT L) rfl (World.ownsRow.alloc OW.out _) ⟨v3.heap.size, 0, none⟩ 1 1 (encT ⟨xk, a, xt, xn, xs⟩) rfl rfl (World.news_of_block (cs := #[.int .i64 xk, .int .i64 a, .string xt, .int .i64 xn, .string xs]) (heap_alloc_new v3 _)) H1C.out (by decide) (by unfold maxLen; omega) (by omega) (by simp; omega) _ rfl ?_; intro g8 cap8 w8 ho8 hg8 _ _; have I8h := Lib.hid (PU.out w8 g8 cap8 ho8 hg8); have m2 : w8.cell? ⟨X, 2, none⟩ = some (.string xt) := (blk_kept hg8 (Ne.symm hUX.out) XA.out).cell 2; clear ho8 hg8)
                go_roundg f
                case measure => omega
                case rel => exact ⟨a + xt.size, L ++ [⟨xk, a, xt, xn, xs⟩], _, by go_num, rfl, by omega, by omega, HG, by rw [List.length_append, HN.out]; simp; omega, I8h.out⟩
            · have hO : oneT r = numT r := by rw [hOne, if_neg (by decide)]; rfl
              have TK : Hid (∀ W, Calls Tryd.prog 16 #[.string r] W fun e w' => e = .returned (.agg #[.int .i64 xk, .int .i64 0, .string xt, .int .i64 xn, .string xs]) ∧ Below W.heap.size W w') := Lib.hid (fun W => by
                have := number_any r hr4 W
                rw [← hO] at this
                rw [hx] at this
                exact this)
              clear hx hOne hO
              go_wp2_with fail
              refine (BLc.out _).mono ?_
              rintro e wq ⟨rfl, rfl⟩
              go_wp2_with fail
              refine (LTc.out _).mono ?_
              rintro e wq ⟨rfl, rfl⟩
              go_wp2_with fail
              refine (DGc.out _).mono ?_
              rintro e wq ⟨rfl, rfl⟩
              go_wp2_with fail
              refine (TK.out _).mono ?_
              rintro e v1 ⟨rfl, b1⟩
              have I1h := Lib.hid (I0h.out.below b1)
              have X1h := Lib.hid (X0h.out.below b1)
              clear b1
              have y0 : v1.cell? ⟨X, 0, none⟩ = some (.int .i64 0) := X1h.out.cell 0
              have y1 : v1.cell? ⟨X, 1, none⟩ = some (.int .i64 0) := X1h.out.cell 1
              have y2 : v1.cell? ⟨X, 2, none⟩ = some (.string ⟨#[]⟩) := X1h.out.cell 2
              have y3 : v1.cell? ⟨X, 3, none⟩ = some (.int .i64 0) := X1h.out.cell 3
              have y4 : v1.cell? ⟨X, 4, none⟩ = some (.string ⟨#[]⟩) := X1h.out.cell 4
              have f0 := X1h.out.free 0
              have f1 := X1h.out.free 1
              have f2 := X1h.out.free 2
              have f3 := X1h.out.free 3
              have f4 := X1h.out.free 4
              obtain ⟨v2, hv2, X2, I2⟩ : ∃ v2, v2 = ((((v1.setCell ⟨X, 0, none⟩ (.int .i64 xk)).setCell ⟨X, 1, none⟩ (.int .i64 0)).setCell ⟨X, 2, none⟩ (.string xt)).setCell ⟨X, 3, none⟩ (.int .i64 xn)).setCell ⟨X, 4, none⟩ (.string xs) ∧ Blk v2 X 34 #[.int .i64 xk, .int .i64 0, .string xt, .int .i64 xn, .string xs] ∧ ScI w v2 Y L (.slice ua n uc) :=
                ⟨_, rfl, ((((X1h.out.set 0 _).set 1 _).set 2 _).set 3 _).set 4 _, ((((I1h.out.set hYX hUX.out 0 _).set hYX hUX.out 1 _).set hYX hUX.out 2 _).set hYX hUX.out 3 _).set hYX hUX.out 4 _⟩
              have V2 := Lib.hid hv2
              have X2h := Lib.hid X2
              have I2h := Lib.hid I2
              clear hv2 X2 I2
              go_upto_region 18 with fail
              rw [← V2.out]
              clear y0 y1 y2 y3 y4 f0 f1 f2 f3 f4 I1h X1h V2
              have z0 : v2.cell? ⟨X, 0, none⟩ = some (.int .i64 xk) := X2h.out.cell 0
              have z1 : v2.cell? ⟨X, 1, none⟩ = some (.int .i64 0) := X2h.out.cell 1
              have z2 : v2.cell? ⟨X, 2, none⟩ = some (.string xt) := X2h.out.cell 2
              have z3 : v2.cell? ⟨X, 3, none⟩ = some (.int .i64 xn) := X2h.out.cell 3
              have z4 : v2.cell? ⟨X, 4, none⟩ = some (.string xs) := X2h.out.cell 4
              have zf := X2h.out.free 1
              by_cases hm : xt.size = 0
              · have HE := Lib.hid (ERR.out hm)
                obtain rfl := ba_empty hm
                clear hm
                go_wp2_with fail
                try rw [Exit.noGoto_ret]
                go_ret3
                exact scand_err HE.out (hy ▸ I2h.out.b)
              · have HG := Lib.hid (GO.out hm)
                obtain ⟨q0, q1, q2⟩ := ba_some (b := xt) (by omega)
                have HXM := Lib.hid hxm
                have hxl : (a : Int) + (xt.size : Int) ≤ 4096 := by omega
                have hxp : 0 < xt.size := by omega
                obtain ⟨v3, hv3, X3, I3⟩ : ∃ v3, v3 = v2.setCell ⟨X, 1, none⟩ (.int .i64 a) ∧ Blk v3 X 34 #[.int .i64 xk, .int .i64 a, .string xt, .int .i64 xn, .string xs] ∧ ScI w v3 Y L (.slice ua n uc) :=
                  ⟨_, rfl, X2h.out.set 1 _, I2h.out.set hYX hUX.out 1 _⟩
                have V3 := Lib.hid hv3
                have X3h := Lib.hid X3
                have I3h := Lib.hid I3
                clear hv3 X3 I3 hm
                go_upto_region 21 with fail
                rw [← V3.out]
                clear z0 z1 z2 z3 z4 zf X2h I2h V3
                have z0 : v3.cell? ⟨X, 0, none⟩ = some (.int .i64 xk) := X3h.out.cell 0
                have z1 : v3.cell? ⟨X, 1, none⟩ = some (.int .i64 a) := X3h.out.cell 1
                have z2 : v3.cell? ⟨X, 2, none⟩ = some (.string xt) := X3h.out.cell 2
                have z3 : v3.cell? ⟨X, 3, none⟩ = some (.int .i64 xn) := X3h.out.cell 3
                have z4 : v3.cell? ⟨X, 4, none⟩ = some (.string xs) := X3h.out.cell 4
                have PU := Lib.hid (fun w8 g cap => (I3h.out.below ((Below.refl _ v3).alloc (Nat.le_refl _) (.cells #[.int .i64 xk, .int .i64 a, .string xt, .int .i64 xn, .string xs] 34))).push (w8 := w8) (g := g) (cap := cap) (x := ⟨xk, a, xt, xn, xs⟩))
                rw [HN.out] at PU
                have H1C := Lib.hid (one_cells ⟨xk, a, xt, xn, xs⟩)
                have OW : Hid (v3.ownsRow Y 34 5 (.slice ua n uc) n (cellsT L)) := Lib.hid (by have := I3h.out.o; rw [HN.out] at this; exact this)
                have hYv : Y ≤ v3.heap.size := I3h.out.y
                have XA := Lib.hid (X3h.out.below ((Below.refl _ v3).alloc (Nat.le_refl _) (.cells #[.int .i64 xk, .int .i64 a, .string xt, .int .i64 xn, .string xs] 34)))
                go_wp2_with (at_builtin; refine wpList_append_lies _ rfl (.tmp 57) (.tmp 59) 22 rfl Y 34 i34 (.agg #[.int .i64 0, .int .i64 0, .string ⟨#[]⟩, .int .i64 0, .string ⟨#[]⟩]) 5 56 Tryd.underlying22 hi hz0 hz1 hz2 rfl (by decide) (.slice ua n uc) n (cellsT L) rfl (World.ownsRow.alloc OW.out _) ⟨v3.heap.size, 0, none⟩ 1 1 (encT ⟨xk, a, xt, xn, xs⟩) rfl rfl (World.news_of_block (cs := #[.int .i64 xk, .int .i64 a, .string xt, .int .i64 xn, .string xs]) (heap_alloc_new v3 _)) H1C.out (by decide) (by unfold maxLen; omega) (by omega) (by simp; omega) _ rfl ?_; intro g8 cap8 w8 ho8 hg8 _ _; have I8h := Lib.hid (PU.out w8 g8 cap8 ho8 hg8); have m2 : w8.cell? ⟨X, 2, none⟩ = some (.string xt) := (blk_kept hg8 (Ne.symm hUX.out) XA.out).cell 2; clear ho8 hg8)
                go_roundg f
                case measure => omega
                case rel => exact ⟨a + xt.size, L ++ [⟨xk, a, xt, xn, xs⟩], _, by go_num, rfl, by omega, by omega, HG, by rw [List.length_append, HN.out]; simp; omega, I8h.out⟩
          · have hO : oneT r = wordT r := hOne.trans (if_pos rfl)
            have TK : Hid (∀ W, Calls Tryd.prog 14 #[.string r] W fun e w' => e = .returned (.agg #[.int .i64 xk, .int .i64 0, .string xt, .int .i64 xn, .string xs]) ∧ Below W.heap.size W w') := Lib.hid (fun W => by
              have := word_any r hr4 W
              rw [← hO] at this
              rw [hx] at this
              exact this)
            clear hx hOne hO
            go_wp2_with fail
            refine (BLc.out _).mono ?_
            rintro e wq ⟨rfl, rfl⟩
            go_wp2_with fail
            refine (LTc.out _).mono ?_
            rintro e wq ⟨rfl, rfl⟩
            go_wp2_with fail
            refine (TK.out _).mono ?_
            rintro e v1 ⟨rfl, b1⟩
            have I1h := Lib.hid (I0h.out.below b1)
            have X1h := Lib.hid (X0h.out.below b1)
            clear b1
            have y0 : v1.cell? ⟨X, 0, none⟩ = some (.int .i64 0) := X1h.out.cell 0
            have y1 : v1.cell? ⟨X, 1, none⟩ = some (.int .i64 0) := X1h.out.cell 1
            have y2 : v1.cell? ⟨X, 2, none⟩ = some (.string ⟨#[]⟩) := X1h.out.cell 2
            have y3 : v1.cell? ⟨X, 3, none⟩ = some (.int .i64 0) := X1h.out.cell 3
            have y4 : v1.cell? ⟨X, 4, none⟩ = some (.string ⟨#[]⟩) := X1h.out.cell 4
            have f0 := X1h.out.free 0
            have f1 := X1h.out.free 1
            have f2 := X1h.out.free 2
            have f3 := X1h.out.free 3
            have f4 := X1h.out.free 4
            obtain ⟨v2, hv2, X2, I2⟩ : ∃ v2, v2 = ((((v1.setCell ⟨X, 0, none⟩ (.int .i64 xk)).setCell ⟨X, 1, none⟩ (.int .i64 0)).setCell ⟨X, 2, none⟩ (.string xt)).setCell ⟨X, 3, none⟩ (.int .i64 xn)).setCell ⟨X, 4, none⟩ (.string xs) ∧ Blk v2 X 34 #[.int .i64 xk, .int .i64 0, .string xt, .int .i64 xn, .string xs] ∧ ScI w v2 Y L (.slice ua n uc) :=
              ⟨_, rfl, ((((X1h.out.set 0 _).set 1 _).set 2 _).set 3 _).set 4 _, ((((I1h.out.set hYX hUX.out 0 _).set hYX hUX.out 1 _).set hYX hUX.out 2 _).set hYX hUX.out 3 _).set hYX hUX.out 4 _⟩
            have V2 := Lib.hid hv2
            have X2h := Lib.hid X2
            have I2h := Lib.hid I2
            clear hv2 X2 I2
            go_upto_region 18 with fail
            rw [← V2.out]
            clear y0 y1 y2 y3 y4 f0 f1 f2 f3 f4 I1h X1h V2
            have z0 : v2.cell? ⟨X, 0, none⟩ = some (.int .i64 xk) := X2h.out.cell 0
            have z1 : v2.cell? ⟨X, 1, none⟩ = some (.int .i64 0) := X2h.out.cell 1
            have z2 : v2.cell? ⟨X, 2, none⟩ = some (.string xt) := X2h.out.cell 2
            have z3 : v2.cell? ⟨X, 3, none⟩ = some (.int .i64 xn) := X2h.out.cell 3
            have z4 : v2.cell? ⟨X, 4, none⟩ = some (.string xs) := X2h.out.cell 4
            have zf := X2h.out.free 1
            by_cases hm : xt.size = 0
            · have HE := Lib.hid (ERR.out hm)
              obtain rfl := ba_empty hm
              clear hm
              go_wp2_with fail
              try rw [Exit.noGoto_ret]
              go_ret3
              exact scand_err HE.out (hy ▸ I2h.out.b)
            · have HG := Lib.hid (GO.out hm)
              obtain ⟨q0, q1, q2⟩ := ba_some (b := xt) (by omega)
              have HXM := Lib.hid hxm
              have hxl : (a : Int) + (xt.size : Int) ≤ 4096 := by omega
              have hxp : 0 < xt.size := by omega
              obtain ⟨v3, hv3, X3, I3⟩ : ∃ v3, v3 = v2.setCell ⟨X, 1, none⟩ (.int .i64 a) ∧ Blk v3 X 34 #[.int .i64 xk, .int .i64 a, .string xt, .int .i64 xn, .string xs] ∧ ScI w v3 Y L (.slice ua n uc) :=
                ⟨_, rfl, X2h.out.set 1 _, I2h.out.set hYX hUX.out 1 _⟩
              have V3 := Lib.hid hv3
              have X3h := Lib.hid X3
              have I3h := Lib.hid I3
              clear hv3 X3 I3 hm
              go_upto_region 21 with fail
              rw [← V3.out]
              clear z0 z1 z2 z3 z4 zf X2h I2h V3
              have z0 : v3.cell? ⟨X, 0, none⟩ = some (.int .i64 xk) := X3h.out.cell 0
              have z1 : v3.cell? ⟨X, 1, none⟩ = some (.int .i64 a) := X3h.out.cell 1
              have z2 : v3.cell? ⟨X, 2, none⟩ = some (.string xt) := X3h.out.cell 2
              have z3 : v3.cell? ⟨X, 3, none⟩ = some (.int .i64 xn) := X3h.out.cell 3
              have z4 : v3.cell? ⟨X, 4, none⟩ = some (.string xs) := X3h.out.cell 4
              have PU := Lib.hid (fun w8 g cap => (I3h.out.below ((Below.refl _ v3).alloc (Nat.le_refl _) (.cells #[.int .i64 xk, .int .i64 a, .string xt, .int .i64 xn, .string xs] 34))).push (w8 := w8) (g := g) (cap := cap) (x := ⟨xk, a, xt, xn, xs⟩))
              rw [HN.out] at PU
              have H1C := Lib.hid (one_cells ⟨xk, a, xt, xn, xs⟩)
              have OW : Hid (v3.ownsRow Y 34 5 (.slice ua n uc) n (cellsT L)) := Lib.hid (by have := I3h.out.o; rw [HN.out] at this; exact this)
              have hYv : Y ≤ v3.heap.size := I3h.out.y
              have XA := Lib.hid (X3h.out.below ((Below.refl _ v3).alloc (Nat.le_refl _) (.cells #[.int .i64 xk, .int .i64 a, .string xt, .int .i64 xn, .string xs] 34)))
              go_wp2_with (at_builtin; refine wpList_append_lies _ rfl (.tmp 57) (.tmp 59) 22 rfl Y 34 i34 (.agg #[.int .i64 0, .int .i64 0, .string ⟨#[]⟩, .int .i64 0, .string ⟨#[]⟩]) 5 56 Tryd.underlying22 hi hz0 hz1 hz2 rfl (by decide) (.slice ua n uc) n (cellsT L) rfl (World.ownsRow.alloc OW.out _) ⟨v3.heap.size, 0, none⟩ 1 1 (encT ⟨xk, a, xt, xn, xs⟩) rfl rfl (World.news_of_block (cs := #[.int .i64 xk, .int .i64 a, .string xt, .int .i64 xn, .string xs]) (heap_alloc_new v3 _)) H1C.out (by decide) (by unfold maxLen; omega) (by omega) (by simp; omega) _ rfl ?_; intro g8 cap8 w8 ho8 hg8 _ _; have I8h := Lib.hid (PU.out w8 g8 cap8 ho8 hg8); have m2 : w8.cell? ⟨X, 2, none⟩ = some (.string xt) := (blk_kept hg8 (Ne.symm hUX.out) XA.out).cell 2; clear ho8 hg8)
              go_roundg f
              case measure => omega
              case rel => exact ⟨a + xt.size, L ++ [⟨xk, a, xt, xn, xs⟩], _, by go_num, rfl, by omega, by omega, HG, by rw [List.length_append, HN.out]; simp; omega, I8h.out⟩
        · have HG := Lib.hid (HBL.out rfl)
          clear HBL ERR0 GO0 hOne hx
          go_wp2_with fail
          refine (BLc.out _).mono ?_
          rintro e wq ⟨rfl, rfl⟩
          go_wp2_with fail
          go_roundg f
          case measure => omega
          case rel => exact ⟨a + 1, L, _, by go_num, rfl, by omega, by omega, HG, by rw [HN.out]; omega, I0h.out⟩
  · have h4' : (4096 : Int) < (s.size : Int) := by omega
    have HE : Hid (scanO s = ⟨[], 0, 2⟩) := Lib.hid (by unfold scanO; rw [if_pos (by omega)])
    generalize scanO s = R at *
    go_enter Tryd.func7, Tryd.ntmps7
    go_wp2_with fail
    try go_step3
    go_wp2_with fail
    try rw [Exit.noGoto_ret]
    go_ret3
    exact scand_err HE.out (Below.refl _ _)
end Go.Proofs.YtffneogphgodnaaDoor
