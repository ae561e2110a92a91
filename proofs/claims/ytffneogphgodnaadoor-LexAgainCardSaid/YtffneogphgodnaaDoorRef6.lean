/-
  THE WALK OF THE DOCUMENT's Scan.
-/
import Derived.Test.YtffneogphgodnaaDoorRef5
import Derived.WalkMore
import Derived.Deep.LoopGhost
namespace Go.Proofs.YtffneogphgodnaaDoor
open Go.RowKit
theorem info39 : (Tryd.prog.info? 39).map (fun i => (i.zero, i.size, i.bytes)) = some (some (.agg #[.int .i64 0, .int .i64 0, .string ⟨#[]⟩, .int .i64 0, .string ⟨#[]⟩]), 5, 56) := by kernel_rfl
/-- at the head of a round -/
structure SrI (w W : World) (Y : Nat) (L : List Tok) (u : Value) : Prop where
  o : W.ownsRow Y 39 5 u L.length (cellsT L)
  b : Below Y w W
  y : Y ≤ W.heap.size
theorem SrI.below {w W W' : World} {Y : Nat} {L : List Tok} {u : Value} (h : SrI w W Y L u) (b : Below W.heap.size W W') : SrI w W' Y L u :=
  ⟨World.ownsRow.kept h.o (row := none) ⟨b.os, b.tape, b.output, b.size, fun q hq _ => b.block q hq⟩ (by cases u.ownBlock <;> simp), h.b.trans (b.mono h.y), Nat.le_trans h.y b.size⟩
theorem SrI.set {w W : World} {Y q : Nat} {L : List Tok} {u : Value} (h : SrI w W Y L u) (hq : Y ≤ q) (hu : u.ownBlock ≠ some q) (i : Nat) (x : Value) : SrI w (W.setCell ⟨q, i, none⟩ x) Y L u :=
  ⟨ownsRow_setCell_other h.o hu _, h.b.setCell (p := ⟨q, i, none⟩) hq _, by have := h.y; simpa using this⟩
theorem SrI.push {w W w8 : World} {Y g cap : Nat} {L : List Tok} {u : Value} {x : Tok} (h : SrI w W Y L u) (ho : w8.ownsRow Y 39 5 (.slice (some ⟨g, 0, none⟩) (L.length + 1) cap) (L.length + 1) (cellsT L ++ encT x)) (hg : W.grownBy w8 u.ownBlock) : SrI w w8 Y (L ++ [x]) (.slice (some ⟨g, 0, none⟩) (L.length + 1) cap) :=
  ⟨by rw [cellsT_one, List.length_append]; exact ho, h.b.trans ⟨hg.os, hg.tape, hg.output, hg.size, fun q hq => hg.block q (Nat.lt_of_lt_of_le hq h.y) (fun e => by have := (World.ownsRow.lt h.o _ e.symm).1; omega)⟩, Nat.le_trans h.y hg.size⟩
theorem scand_ok9 {w W : World} {L : List Tok} {p : Option Addr} {cp n : Nat} {R : Out} (hR : R = ⟨L, 0, 0⟩) (hn : n = L.length) (h : SrI w W w.heap.size L (.slice p n cp)) : Scand w R (.returned (.tuple #[.slice p n cp, .int .i64 0, .int .i64 0])) W := by
  subst hR
  subst hn
  exact ⟨p, cp, rfl, toks_row rfl h.o, h.b⟩
theorem hd_at (s : ByteArray) (a : Nat) (h : a < s.size) : hd (rst s a) = (s[a].toNat : Int) := by unfold hd; rw [rst_headD s a h]
/-- the document's One, at the bytes of a place that bears a token, or none -/
theorem rone_met (s : ByteArray) (a : Nat) (ha : a < s.size) (hs : s.size ≤ 4096) {x : T1} (hx : oneT (rst s a) = x) (W : World) : Calls Tryd.prog 21 #[.string s, .int .i64 a] W fun e w' => ∃ (k p : Int) (t : ByteArray) (n : Int) (z : ByteArray), e = .returned (.tuple #[.agg #[.int .i64 k, .int .i64 p, .string t, .int .i64 n, .string z], .bool (decide (x.m ≠ 0))]) ∧ (x.m ≠ 0 → k = x.k ∧ p = a ∧ t = (rst s a).extract 0 x.m ∧ n = x.n ∧ z = x.s) ∧ Below W.heap.size W w' := by
  have := rone_any s a ha hs W
  rw [hx] at this
  unfold Ond tokV at this
  exact this
set_option maxHeartbeats 16000000 in
set_option maxRecDepth 100000 in
theorem rscan_any (s : ByteArray) (hs : s.size ≤ 9223372036854775807) (w : World) : Calls Tryd.prog 8 #[.string s] w (Scand w (scanO s)) := by
  by_cases h4 : s.size ≤ 4096
  · have h4' : ¬ (4096 : Int) < (s.size : Int) := by omega
    obtain ⟨R, hR⟩ : ∃ R, scanO s = R := ⟨_, rfl⟩
    have HR : Hid (scanF s (s.size + 1) 0 [] = R) := Lib.hid (by rw [← hR]; unfold scanO; rw [if_neg (by omega)])
    rw [hR]
    clear hR
    obtain ⟨i39, hi, hz0, hz1, hz2⟩ := info_parts info39
    generalize hy : w.heap.size = Y at *
    have hY0 : Hid (SrI w w Y [] (.slice none 0 0)) := Lib.hid ⟨World.ownsRow_nil _ _ _ _, Below.refl _ _, by rw [hy]; exact Nat.le_refl _⟩
    go_enter Tryd.func8, Tryd.ntmps8
    go_wp2_with fail
    go_loopg [6, 5] (s.size + 1) (fun f i ts wq => ∃ (a : Nat) (L : List Tok) (u : Value), i = .int .i64 a ∧ ts = u ∧ a ≤ s.size ∧ s.size - a < f ∧ Hid (scanF s f a L = R) ∧ L.length ≤ a ∧ SrI w wq Y L u)
    case atStart => exact ⟨0, [], .slice none 0 0, rfl, rfl, Nat.zero_le _, by omega, HR, Nat.le_refl _, hY0.out⟩
    case round =>
      obtain ⟨a, L, u, rfl, rfl, ha, hf, hS, hLa, hI⟩ := hrel
      obtain ⟨f, rfl⟩ : ∃ f, gk = f + 1 := ⟨gk - 1, by omega⟩
      obtain ⟨ua, uc, hu⟩ := row_form hI.o
      subst hu
      have HI := Lib.hid hI
      clear hI
      obtain ⟨n, hn⟩ : ∃ n, L.length = n := ⟨_, rfl⟩
      have HN := Lib.hid hn
      rw [hn] at hLa HI ⊢
      clear hn
      by_cases hend : s.size ≤ a
      · obtain rfl : a = s.size := by omega
        have HE : Hid (R = ⟨L ++ [⟨0, s.size, ⟨#[]⟩, 0, ⟨#[]⟩⟩], 0, 0⟩) := Lib.hid (by rw [← hS.out]; unfold scanF; rw [if_pos hend])
        have PU := Lib.hid (fun W (h : SrI w W Y L (.slice ua n uc)) w8 g cap => h.push (w8 := w8) (g := g) (cap := cap) (x := ⟨0, s.size, ⟨#[]⟩, 0, ⟨#[]⟩⟩))
        rw [HN.out] at PU
        have H1C := Lib.hid (one_cells ⟨0, s.size, ⟨#[]⟩, 0, ⟨#[]⟩⟩)
        have OW : Hid (wr.ownsRow Y 39 5 (.slice ua n uc) n (cellsT L)) := Lib.hid (by have := HI.out.o; rw [HN.out] at this; exact this)
        have hYv : Y ≤ wr.heap.size := HI.out.y
        have IA := Lib.hid (HI.out.below ((Below.refl _ wr).alloc (Nat.le_refl _) (.cells #[.int .i64 0, .int .i64 s.size, .string ⟨#[]⟩, .int .i64 0, .string ⟨#[]⟩] 39)))
        clear hend
        go_wp2_with (at_builtin; refine wpList_append_lies _ rfl (.tmp 40) (.tmp 44) 26 rfl Y 39 i39 (.agg #[.int .i64 0, .int .i64 0, .string ⟨#[]⟩, .int .i64 0, .string ⟨#[]⟩]) 5 56 Tryd.underlying26 hi hz0 hz1 hz2 rfl (by decide) (.slice ua n uc) n (cellsT L) rfl (World.ownsRow.alloc OW.out _) ⟨wr.heap.size, 0, none⟩ 1 1 (encT ⟨0, s.size, ⟨#[]⟩, 0, ⟨#[]⟩⟩) rfl rfl (World.news_of_block (cs := #[.int .i64 0, .int .i64 s.size, .string ⟨#[]⟩, .int .i64 0, .string ⟨#[]⟩]) (heap_alloc_new wr _)) H1C.out (by decide) (by unfold maxLen; omega) (by omega) (by simp; omega) _ rfl ?_; intro g8 cap8 w8 ho8 hg8 _ _; have I8h := Lib.hid (PU.out _ IA.out w8 g8 cap8 ho8 hg8); clear ho8 hg8)
        try rw [Exit.noGoto_ret]
        go_ret3
        exact scand_ok9 HE.out (by rw [List.length_append, HN.out]; rfl) (hy ▸ I8h.out)
      · have hlt : a < s.size := by omega
        have hml := oneT_le (rst s a)
        have hrs := rst_size s a
        have hbb := hd_at s a hlt
        have HBL : Hid (blankB (s[a].toNat : Int) = true → scanF s f (a + 1) L = R) := Lib.hid (fun h => by
          rw [← hS.out]; conv => rhs; unfold scanF
          rw [if_neg hend, if_pos (by rw [hbb]; exact h)])
        have ERR : Hid (blankB (s[a].toNat : Int) = false → (oneT (rst s a)).m = 0 → R = ⟨[], a, 90⟩) := Lib.hid (fun h h0 => by
          rw [← hS.out]; unfold scanF
          rw [if_neg hend, if_neg (by rw [hbb, h]; decide), if_pos h0])
        have GO : Hid (blankB (s[a].toNat : Int) = false → (oneT (rst s a)).m ≠ 0 → scanF s f (a + (oneT (rst s a)).m) (L ++ [⟨(oneT (rst s a)).k, a, (rst s a).extract 0 (oneT (rst s a)).m, (oneT (rst s a)).n, (oneT (rst s a)).s⟩]) = R) := Lib.hid (fun h h0 => by
          rw [← hS.out]; conv => rhs; unfold scanF
          rw [if_neg hend, if_neg (by rw [hbb, h]; decide), if_neg h0]
          rfl)
        have hts : ((rst s a).extract 0 (oneT (rst s a)).m).size = (oneT (rst s a)).m := by rw [ByteArray.size_extract]; omega
        have hxm : a + (oneT (rst s a)).m ≤ s.size := by omega
        obtain ⟨x, hx⟩ : ∃ x, oneT (rst s a) = x := ⟨_, rfl⟩
        have TK := Lib.hid (rone_met s a hlt h4 hx)
        rw [hx] at ERR GO hts hxm
        clear hml hrs hbb hS hend hx
        obtain ⟨c, hc⟩ : ∃ c : Int, (s[a].toNat : Int) = c := ⟨_, rfl⟩
        rw [hc] at HBL ERR GO
        have BLc := Lib.hid (rblank_any c)
        generalize blankB c = bB at *
        cases bB
        · replace ERR : Hid (x.m = 0 → R = ⟨[], a, 90⟩) := Lib.hid (ERR.out rfl)
          have GO1 : Hid (x.m ≠ 0 → scanF s f (a + x.m) (L ++ [⟨x.k, a, (rst s a).extract 0 x.m, x.n, x.s⟩]) = R) := Lib.hid (GO.out rfl)
          clear HBL GO
          by_cases hm : x.m = 0
          · have HE := Lib.hid (ERR.out hm)
            rw [hm] at TK
            clear ERR GO1 hts hxm hm
            go_wp2_with fail
            refine (BLc.out _).mono ?_
            rintro e wq ⟨rfl, rfl⟩
            go_wp2_with fail
            refine (TK.out _).mono ?_
            rintro e w1 ⟨k, p, t, nn, z, rfl, _, b1⟩
            have I1h := Lib.hid ((HI.out.below b1).below ((Below.refl _ w1).alloc (Nat.le_refl _) (.cells #[.int .i64 k, .int .i64 p, .string t, .int .i64 nn, .string z] 39)))
            clear b1 TK
            go_wp2_with fail
            try rw [Exit.noGoto_ret]
            go_ret3
            exact scand_err HE.out (hy ▸ I1h.out.b)
          · have HG := Lib.hid (GO1.out hm)
            have hbt : decide (x.m ≠ 0) = true := decide_eq_true hm
            rw [hbt] at TK
            have HXM := Lib.hid hxm
            have HTS := Lib.hid hts
            have HM := Lib.hid hm
            have hx4 : x.m ≤ 4096 := by omega
            clear ERR GO1 hbt hts hxm hm
            go_wp2_with fail
            refine (BLc.out _).mono ?_
            rintro e wq ⟨rfl, rfl⟩
            go_wp2_with fail
            refine (TK.out _).mono ?_
            rintro e w1 ⟨k, p, t, nn, z, rfl, hh, b1⟩
            obtain ⟨rfl, rfl, ht, rfl, rfl⟩ := hh HM.out
            have HTT := Lib.hid ht
            have htl : t.size = x.m := by rw [ht]; exact HTS.out
            have HTL := Lib.hid htl
            obtain ⟨X, hX⟩ : ∃ X, w1.heap.size = X := ⟨_, rfl⟩
            obtain ⟨v3, hv3, X3, I3⟩ : ∃ v3, v3 = w1.alloc (.cells #[.int .i64 x.k, .int .i64 a, .string t, .int .i64 x.n, .string x.s] 39) ∧ Blk v3 X 39 #[.int .i64 x.k, .int .i64 a, .string t, .int .i64 x.n, .string x.s] ∧ SrI w v3 Y L (.slice ua n uc) :=
              ⟨_, rfl, by rw [← hX]; exact Blk.new w1 39 _, (HI.out.below b1).below ((Below.refl _ w1).alloc (Nat.le_refl _) _)⟩
            have hYX : Y ≤ X := by rw [← hX]; exact (HI.out.below b1).y
            have hUX : Hid ((Value.slice ua n uc).ownBlock ≠ some X) := Lib.hid (fun hq => by have := (World.ownsRow.lt (HI.out.below b1).o _ hq).2; omega)
            have V3 := Lib.hid hv3
            have X3h := Lib.hid X3
            have I3h := Lib.hid I3
            clear hv3 X3 I3 b1 hh ht TK HI
            go_upto_region 9 with fail
            rw [← V3.out]
            try rw [hX]
            clear V3 hX
            have htp : t.size ≤ 4096 := by omega
            clear htl
            have z0 : v3.cell? ⟨X, 0, none⟩ = some (.int .i64 x.k) := X3h.out.cell 0
            have z1 : v3.cell? ⟨X, 1, none⟩ = some (.int .i64 a) := X3h.out.cell 1
            have z2 : v3.cell? ⟨X, 2, none⟩ = some (.string t) := X3h.out.cell 2
            have z3 : v3.cell? ⟨X, 3, none⟩ = some (.int .i64 x.n) := X3h.out.cell 3
            have z4 : v3.cell? ⟨X, 4, none⟩ = some (.string x.s) := X3h.out.cell 4
            have PU := Lib.hid (fun w8 g cap => (I3h.out.below ((Below.refl _ v3).alloc (Nat.le_refl _) (.cells #[.int .i64 x.k, .int .i64 a, .string t, .int .i64 x.n, .string x.s] 39))).push (w8 := w8) (g := g) (cap := cap) (x := ⟨x.k, a, t, x.n, x.s⟩))
            rw [HN.out] at PU
            have H1C := Lib.hid (one_cells ⟨x.k, a, t, x.n, x.s⟩)
            have OW : Hid (v3.ownsRow Y 39 5 (.slice ua n uc) n (cellsT L)) := Lib.hid (by have := I3h.out.o; rw [HN.out] at this; exact this)
            have hYv : Y ≤ v3.heap.size := I3h.out.y
            have XA := Lib.hid (X3h.out.below ((Below.refl _ v3).alloc (Nat.le_refl _) (.cells #[.int .i64 x.k, .int .i64 a, .string t, .int .i64 x.n, .string x.s] 39)))
            generalize x.k = xk at *
            generalize x.n = xn at *
            generalize x.s = xs at *
            go_wp2_with (at_builtin; refine wpList_append_lies _ rfl (.tmp 31) (.tmp 33) 26 rfl Y 39 i39 (.agg #[.int .i64 0, .int .i64 0, .string ⟨#[]⟩, .int .i64 0, .string ⟨#[]⟩]) 5 56 Tryd.underlying26 hi hz0 hz1 hz2 rfl (by decide) (.slice ua n uc) n (cellsT L) rfl (World.ownsRow.alloc OW.out _) ⟨v3.heap.size, 0, none⟩ 1 1 (encT ⟨xk, a, t, xn, xs⟩) rfl rfl (World.news_of_block (cs := #[.int .i64 xk, .int .i64 a, .string t, .int .i64 xn, .string xs]) (heap_alloc_new v3 _)) H1C.out (by decide) (by unfold maxLen; omega) (by omega) (by simp; omega) _ rfl ?_; intro g8 cap8 w8 ho8 hg8 _ _; have I8h := Lib.hid (PU.out w8 g8 cap8 ho8 hg8); have m2 : w8.cell? ⟨X, 2, none⟩ = some (.string t) := (blk_kept hg8 (Ne.symm hUX.out) XA.out).cell 2; clear ho8 hg8)
            go_roundg f
            case measure => omega
            case rel => exact ⟨a + x.m, L ++ [⟨xk, a, t, xn, xs⟩], _, by rw [← HTL.out]; go_num, rfl, HXM.out, by have := HM.out; omega, by rw [HTT.out]; exact HG, by rw [List.length_append, HN.out]; have := HM.out; simp; omega, I8h.out⟩
        · have HG := Lib.hid (HBL.out rfl)
          clear HBL ERR GO hts hxm TK
          go_wp2_with fail
          refine (BLc.out _).mono ?_
          rintro e wq ⟨rfl, rfl⟩
          go_wp2_with fail
          go_roundg f
          case measure => omega
          case rel => exact ⟨a + 1, L, _, by go_num, rfl, by omega, by omega, HG, by rw [HN.out]; omega, HI.out⟩
  · have h4' : (4096 : Int) < (s.size : Int) := by omega
    have HE : Hid (scanO s = ⟨[], 0, 2⟩) := Lib.hid (by unfold scanO; rw [if_pos (by omega)])
    go_enter Tryd.func8, Tryd.ntmps8
    go_wp2_with fail
    go_ret3
    exact scand_err HE.out (Below.refl _ _)
end Go.Proofs.YtffneogphgodnaaDoor
