/-
  THE DOCUMENT'S TABLE: with.
-/
import Derived.Test.YtkaocpfkigdpoaaRwo
namespace Go.Proofs.Ytkaocpfkigdpoaa
open Go.RowKit
def wstp (x : Sn) (S : List Sn × Bool) (y : Sn) : List Sn × Bool := if S.2 = false ∧ x.1 < y.1 then (S.1 ++ [x] ++ [y], true) else (S.1 ++ [y], S.2)
def wfold (x : Sn) (L : List Sn) : List Sn × Bool := L.foldl (wstp x) ([], false)
def wi (x : Sn) (L : List Sn) : List Sn := if (wfold x L).2 = true then (wfold x L).1 else (wfold x L).1 ++ [x]
theorem wfold_take {x : Sn} {L : List Sn} {j : Nat} (hj : j < L.length) : wfold x (L.take (j + 1)) = wstp x (wfold x (L.take j)) L[j] := by
  unfold wfold
  rw [List.take_succ_eq_append_getElem hj, List.foldl_append]
  rfl
theorem wstp_len (x : Sn) (S : List Sn × Bool) (y : Sn) : (wstp x S y).1.length ≤ S.1.length + 2 := by
  unfold wstp
  split <;> simp
theorem wfold_len (x : Sn) (L : List Sn) : (wfold x L).1.length ≤ 2 * L.length := by
  unfold wfold
  have aux : ∀ (L : List Sn) (S : List Sn × Bool), (L.foldl (wstp x) S).1.length ≤ S.1.length + 2 * L.length := by
    intro L
    induction L with
    | nil => intro S; simp
    | cons y L ih =>
      intro S
      have h1 := ih (wstp x S y)
      have h2 := wstp_len x S y
      rw [List.foldl_cons, List.length_cons]
      omega
  have := aux L ([], false)
  simpa using this
/-- the walk's blocks: the table that came in, the session, the result's cell -/
structure Xs (w0 w : World) (a : Value) (x : Sn) (v : Value) (R : List Sn) : Prop where
  k0 : Blk w w0.heap.size 27 #[a]
  k1 : Blk w (w0.heap.size + 1) 58 #[.int .i64 x.1, .int .i64 x.2]
  k2 : Blk w (w0.heap.size + 2) 27 #[.slice none 0 0]
  own : OwnR w (w0.heap.size + 3) v R
  bel : Below w0.heap.size w0 w
theorem Xs.next {w0 w w' : World} {a v : Value} {x : Sn} {R : List Sn} (h : Xs w0 w a x v R) (b : Below w.heap.size w w') : Xs w0 w' a x v R :=
  ⟨h.k0.next b, h.k1.next b, h.k2.next b, h.own.next b, h.bel.trans (b.mono h.bel.size)⟩
theorem Xs.push {w0 w w1 : World} {a v v' : Value} {x y : Sn} {R : List Sn} (h : Xs w0 w a x v R) (ho : w1.ownsRow (w0.heap.size + 3) 58 2 v' (R.length + 1) (cells R ++ enc y)) (hg : w.grownBy w1 v.ownBlock) : Xs w0 w1 a x v' (R ++ [y]) := by
  have f1 : Fr w w1 (fun q => v.ownBlock = some q) := (Fr.of_grown hg).mono (fun q _ e => e.symm)
  have n : ∀ q, q < w0.heap.size + 3 → ¬ (v.ownBlock = some q) := fun q hq e => by have := (ownr_ne h.own q e).1; omega
  refine ⟨h.k0.fr f1 (n _ (by omega)), h.k1.fr f1 (n _ (by omega)), h.k2.fr f1 (n _ (by omega)), ?_, h.bel.trans (f1.below (fun q hq => by have := (ownr_ne h.own q hq).1; omega) h.bel.size)⟩
  unfold OwnR
  rw [List.length_append, cells_append, show cells [y] = enc y from by unfold cells; simp]
  exact ho
theorem Xs.fin {w0 w : World} {a v : Value} {x : Sn} {R : List Sn} (h : Xs w0 w a x v R) : ∃ W, W = w.setCell ⟨w0.heap.size + 2, 0, none⟩ v ∧ W.cell? ⟨w0.heap.size + 2, 0, none⟩ = some v ∧ OwnR W w0.heap.size v R ∧ Below w0.heap.size w0 W := by
  have f := fr_set w (w0.heap.size + 2) 0 v
  exact ⟨_, rfl, (h.k2.set 0 v).cell 0, OwnR.le (Fr.own h.own f (fun q hq e => by have := (ownr_ne h.own q hq).1; omega)) (by omega), h.bel.setCell (p := ⟨w0.heap.size + 2, 0, none⟩) (by simp) _⟩
/-- an append of one session of the document's, as a step of the walk -/
theorem wpList_push {ops : Array Oper} {rest : List Oper} {o : Oper} {a : Act} {Q : Exit → Act → World → Prop} (hgd : o.guard = none) (s xo : Operand)
    (ho : o.op = .call { callee := .builtin .append, args := #[s, xo], argTypes := #[25, 25] }) {w0 W : World} {c v : Value} {x : Sn} {R : List Sn} (y : Sn) (S : Xs w0 W c x v R) (hR : R.length ≤ 3000) (hs : a.eval s = v) (hx : a.eval xo = .slice (some ⟨W.heap.size, 0, none⟩) 1 1)
    (h : ∀ v' w9, Xs w0 w9 c x v' (R ++ [y]) → wpList Try.prog ops Q rest (a.put o.dst v') w9) : wpList Try.prog ops Q (o :: rest) a (W.alloc (.cells #[.int .i64 y.1, .int .i64 y.2] 58)) := by
  obtain ⟨i0, hi, hz0, hz1, hz2⟩ := info_parts info58
  have B5 := (Below.refl W.heap.size W).alloc (Nat.le_refl _) (.cells #[.int .i64 y.1, .int .i64 y.2] 58)
  have N5 := enc_at58 (x := y) (Blk.new W 58 (enc y).toArray)
  have S5 := S.next B5
  refine wpList_append_own _ hgd s xo 25 ho (w0.heap.size + 3) 58 i0 _ 2 16 Try.underlying25 hi hz0 hz1 hz2 rfl (by decide) v R.length (cells R) hs S5.own ⟨W.heap.size, 0, none⟩ 1 1 (enc y) hx rfl N5 (enc_one y) (by unfold maxLen; omega) (by omega) (by have := S5.k2.lt; omega) ?_
  intro v' w9 ho9 hg9 _
  exact h v' w9 (S5.push ho9 hg9)
set_option maxHeartbeats 4000000 in
set_option maxRecDepth 100000 in
theorem with_any {w : World} {v : Value} {L : List Sn} (x1 x2 : Int) (h : Ses w v L) (hl : L.length ≤ 1000) : Calls Try.prog 26 #[.agg #[v], .agg #[.int .i64 x1, .int .i64 x2]] w (Tbl w (wi (x1, x2) L)) := by
  obtain ⟨a, c, rfl, f⟩ := h
  obtain ⟨W1, hW1⟩ : ∃ W1, W1 = ((w.alloc (.cells #[.slice a L.length c] 27)).alloc (.cells #[.int .i64 x1, .int .i64 x2] 58)).alloc (.cells #[.slice none 0 0] 27) := ⟨_, rfl⟩
  have S1 : Hid (Xs w W1 (.slice a L.length c) (x1, x2) (.slice none 0 0) (wfold (x1, x2) (L.take 0)).1) := by
    have ba := (Below.refl w.heap.size w).alloc (Nat.le_refl _) (.cells #[.slice a L.length c] 27)
    have bb := (Below.refl (w.alloc (.cells #[.slice a L.length c] 27)).heap.size (w.alloc (.cells #[.slice a L.length c] 27))).alloc (Nat.le_refl _) (.cells #[.int .i64 x1, .int .i64 x2] 58)
    have bc := (Below.refl ((w.alloc (.cells #[.slice a L.length c] 27)).alloc (.cells #[.int .i64 x1, .int .i64 x2] 58)).heap.size ((w.alloc (.cells #[.slice a L.length c] 27)).alloc (.cells #[.int .i64 x1, .int .i64 x2] 58))).alloc (Nat.le_refl _) (.cells #[.slice none 0 0] 27)
    have k1 := Blk.new (w.alloc (.cells #[.slice a L.length c] 27)) 58 #[.int .i64 x1, .int .i64 x2]
    have k2 := Blk.new ((w.alloc (.cells #[.slice a L.length c] 27)).alloc (.cells #[.int .i64 x1, .int .i64 x2] 58)) 27 #[.slice none 0 0]
    rw [World.size_alloc] at k1
    rw [World.size_alloc, World.size_alloc] at k2
    rw [hW1]
    have b2 := ba.trans (bb.mono (by simp))
    exact Lib.hid ⟨((Blk.new w 27 _).next bb).next bc, k1.next bc, k2, by rw [List.take_zero]; exact World.ownsRow_nil _ _ _ _, b2.trans (bc.mono b2.size)⟩
  have F := Lib.hid f
  have HW := Lib.hid hW1
  have WT := Lib.hid (fun j (hj : j < L.length) => wfold_take (x := (x1, x2)) hj)
  have WL := Lib.hid (fun j => Nat.le_trans (wfold_len (x1, x2) (L.take j)) (show 2 * (L.take j).length ≤ 2000 by rw [List.length_take]; omega))
  have WE := Lib.hid (show wi (x1, x2) L = if (wfold (x1, x2) (L.take L.length)).2 = true then (wfold (x1, x2) (L.take L.length)).1 else (wfold (x1, x2) (L.take L.length)).1 ++ [(x1, x2)] by rw [List.take_length]; rfl)
  have W0 := Lib.hid (show (wfold (x1, x2) (L.take 0)).2 = false by rw [List.take_zero]; rfl)
  have hl2 : (L.length : Int) ≤ 1000 := by omega
  clear f hW1
  go_enter Try.func26, Try.ntmps26
  go_wp2_with fail
  rw [← HW.out]
  go_loopw [7, 5, 6] (fun i s b wq => ∃ (j : Nat) (s5 : Value) (b6 : Bool), i = .int .i64 j ∧ s5 = s ∧ b = .bool b6 ∧ j ≤ L.length ∧ Hid ((wfold (x1, x2) (L.take j)).2 = b6) ∧ Hid (Xs w wq (.slice a L.length c) (x1, x2) s5 (wfold (x1, x2) (L.take j)).1)) (fun i _ _ _ => L.length - (intOf i).toNat)
  case atStart => exact ⟨0, _, false, rfl, rfl, rfl, Nat.zero_le _, W0, S1⟩
  case round =>
    obtain ⟨j, s5, b6, rfl, rfl, rfl, hj, hb6, S⟩ := hrel
    have c0 : wr.cell? ⟨w.heap.size, 0, none⟩ = some (.slice a L.length c) := S.out.k0.cell 0
    have d1 : wr.cell? ⟨w.heap.size + 1, 0, none⟩ = some (.int .i64 x1) := S.out.k1.cell 0
    have d2 : wr.cell? ⟨w.heap.size + 1, 1, none⟩ = some (.int .i64 x2) := S.out.k1.cell 1
    by_cases hjn : j < L.length
    · obtain ⟨g, o, rfl, hg, c1, c2⟩ := F.out j hjn
      have HC1 := Lib.hid c1
      have HC2 := Lib.hid c2
      rw [← S.out.bel.cell (p := ⟨g, _, none⟩) hg] at c1 c2
      have hjI : (j : Int) < (L.length : Int) := by omega
      have HJ := Lib.hid (show j + 1 ≤ L.length by omega)
      have T := WT.out j hjn
      have wl := WL.out j
      unfold wstp at T
      rw [hb6.out] at T
      generalize L[j] = y at *
      obtain ⟨y1, y2⟩ := y
      simp only at c1 c2 T
      generalize (wfold (x1, x2) (L.take j)).1 = R at *
      have HT := Lib.hid T
      clear T hb6
      cases b6
      · by_cases hxy : x1 < y1
        · have E1 := HT.out
          rw [if_pos ⟨rfl, hxy⟩] at E1
          have E2 := Lib.hid (show (wfold (x1, x2) (L.take (j + 1))).2 = true by rw [E1])
          have E3 := Lib.hid (show (wfold (x1, x2) (L.take (j + 1))).1 = R ++ [(x1, x2)] ++ [(y1, y2)] by rw [E1])
          have hxyB : decide (x1 < y1) = true := decide_eq_true hxy
          clear E1 HT
          go_wp2_with fail
          go_quiet (fail)
          have S6 := Lib.hid (S.out.next (below_drewN (Below.refl _ _) nq))
          have c0' : (wr.drewN nq).cell? ⟨w.heap.size, 0, none⟩ = some (.slice (some ⟨g, o, none⟩) L.length c) := c0
          have d1' : (wr.drewN nq).cell? ⟨w.heap.size + 1, 0, none⟩ = some (.int .i64 x1) := d1
          have d2' : (wr.drewN nq).cell? ⟨w.heap.size + 1, 1, none⟩ = some (.int .i64 x2) := d2
          have c1' : (wr.drewN nq).cell? ⟨g, o + j * 2, none⟩ = some (.int .i64 y1) := c1
          have c2' : (wr.drewN nq).cell? ⟨g, o + j * 2 + 1, none⟩ = some (.int .i64 y2) := c2
          clear c0 d1 d2 c1 c2 S
          generalize wr.drewN nq = w6 at *
          go_wp2_with (first
            | (at_builtin; refine wpList_push rfl _ _ rfl (x1, x2) S6.out (by omega) rfl rfl ?_; intro v9 w9 S9; have S9 := Lib.hid S9; have c0'' : w9.cell? ⟨w.heap.size, 0, none⟩ = some (.slice (some ⟨g, o, none⟩) L.length c) := S9.out.k0.cell 0; have c1'' := (S9.out.bel.cell (p := ⟨g, o + j * 2, none⟩) hg).trans HC1.out; have c2'' := (S9.out.bel.cell (p := ⟨g, o + j * 2 + 1, none⟩) hg).trans HC2.out)
            | (at_builtin; refine wpList_push rfl _ _ rfl (y1, y2) S9.out (by rw [List.length_append]; show _ + 1 ≤ _; omega) rfl rfl ?_; intro va wa Sa; have Sa := Lib.hid Sa))
          go_roundw
          case rel => exact ⟨j + 1, _, true, by go_num, rfl, rfl, HJ.out, E2, by rw [E3.out]; exact Sa⟩
          case measure => have h9 := HJ.out; simp [intOf]; omega
        · have E1 := HT.out
          rw [if_neg (fun h => hxy h.2)] at E1
          have E2 := Lib.hid (show (wfold (x1, x2) (L.take (j + 1))).2 = false by rw [E1])
          have E3 := Lib.hid (show (wfold (x1, x2) (L.take (j + 1))).1 = R ++ [(y1, y2)] by rw [E1])
          have hxyB : decide (x1 < y1) = false := decide_eq_false hxy
          clear E1 HT
          go_wp2_with fail
          go_quiet (fail)
          have S6 := Lib.hid (S.out.next (below_drewN (Below.refl _ _) nq))
          have c0' : (wr.drewN nq).cell? ⟨w.heap.size, 0, none⟩ = some (.slice (some ⟨g, o, none⟩) L.length c) := c0
          have d1' : (wr.drewN nq).cell? ⟨w.heap.size + 1, 0, none⟩ = some (.int .i64 x1) := d1
          have d2' : (wr.drewN nq).cell? ⟨w.heap.size + 1, 1, none⟩ = some (.int .i64 x2) := d2
          have c1' : (wr.drewN nq).cell? ⟨g, o + j * 2, none⟩ = some (.int .i64 y1) := c1
          have c2' : (wr.drewN nq).cell? ⟨g, o + j * 2 + 1, none⟩ = some (.int .i64 y2) := c2
          clear c0 d1 d2 c1 c2 S
          generalize wr.drewN nq = w6 at *
          go_wp2_with (at_builtin; refine wpList_push rfl _ _ rfl (y1, y2) S6.out (by omega) rfl rfl ?_; intro va wa Sa; have Sa := Lib.hid Sa)
          go_roundw
          case rel => exact ⟨j + 1, _, false, by go_num, rfl, rfl, HJ.out, E2, by rw [E3.out]; exact Sa⟩
          case measure => have h9 := HJ.out; simp [intOf]; omega
      · have E1 := HT.out
        rw [if_neg (fun h => by cases h.1)] at E1
        have E2 := Lib.hid (show (wfold (x1, x2) (L.take (j + 1))).2 = true by rw [E1])
        have E3 := Lib.hid (show (wfold (x1, x2) (L.take (j + 1))).1 = R ++ [(y1, y2)] by rw [E1])
        clear E1 HT
        go_wp2_with fail
        go_quiet (fail)
        have S6 := Lib.hid (S.out.next (below_drewN (Below.refl _ _) nq))
        have c0' : (wr.drewN nq).cell? ⟨w.heap.size, 0, none⟩ = some (.slice (some ⟨g, o, none⟩) L.length c) := c0
        have d1' : (wr.drewN nq).cell? ⟨w.heap.size + 1, 0, none⟩ = some (.int .i64 x1) := d1
        have d2' : (wr.drewN nq).cell? ⟨w.heap.size + 1, 1, none⟩ = some (.int .i64 x2) := d2
        have c1' : (wr.drewN nq).cell? ⟨g, o + j * 2, none⟩ = some (.int .i64 y1) := c1
        have c2' : (wr.drewN nq).cell? ⟨g, o + j * 2 + 1, none⟩ = some (.int .i64 y2) := c2
        clear c0 d1 d2 c1 c2 S
        generalize wr.drewN nq = w6 at *
        go_wp2_with (at_builtin; refine wpList_push rfl _ _ rfl (y1, y2) S6.out (by omega) rfl rfl ?_; intro va wa Sa; have Sa := Lib.hid Sa)
        go_roundw
        case rel => exact ⟨j + 1, _, true, by go_num, rfl, rfl, HJ.out, E2, by rw [E3.out]; exact Sa⟩
        case measure => have h9 := HJ.out; simp [intOf]; omega
    · obtain rfl : j = L.length := by omega
      have wl := WL.out L.length
      have E := WE.out
      rw [hb6.out] at E
      generalize (wfold (x1, x2) (L.take L.length)).1 = R at *
      cases b6
      · have E : wi (x1, x2) L = R ++ [(x1, x2)] := by rw [E]; rfl
        have EE := Lib.hid E
        clear E hb6
        go_wp2_with (at_builtin; refine wpList_push rfl _ _ rfl (x1, x2) S.out (by omega) rfl rfl ?_; intro va wa Sa; obtain ⟨W, hW, z0, ow, bw⟩ := Sa.fin; have c5 : wa.cell? ⟨w.heap.size + 2, 0, none⟩ = some (.slice none 0 0) := Sa.k2.cell 0; have f5 := Sa.k2.free 0; obtain ⟨a5, d5, hv⟩ := Sa.own.form; have HWf := Lib.hid hW; have HO := Lib.hid ow; have HB := Lib.hid bw; have HZ := Lib.hid z0; clear hW ow bw z0 Sa; generalize (R ++ [(x1, x2)]).length = m5 at hv; subst hv)
        rw [← HWf.out]
        have z0 := HZ.out
        clear c0 d1 d2 c5 f5 HWf
        refine bodyPost_ret (by simp [results, Try.results26, go_sem, z0]; try rfl) rfl ?_
        exact ⟨_, rfl, by first | exact HO.out | (rw [EE.out]; exact HO.out), HB.out⟩
      · have E : wi (x1, x2) L = R := by rw [E]; rfl
        have EE := Lib.hid E
        clear E hb6
        obtain ⟨W, hW, z0, ow, bw⟩ := S.out.fin
        have c5 : wr.cell? ⟨w.heap.size + 2, 0, none⟩ = some (.slice none 0 0) := S.out.k2.cell 0
        have f5 := S.out.k2.free 0
        obtain ⟨a5, d5, hv⟩ := S.out.own.form
        have HWf := Lib.hid hW
        have HO := Lib.hid ow
        have HB := Lib.hid bw
        have HZ := Lib.hid z0
        clear hW ow bw z0 S
        subst hv
        go_wp2_with fail
        rw [← HWf.out]
        have z0 := HZ.out
        clear c0 d1 d2 c5 f5 HWf
        refine bodyPost_ret (by simp [results, Try.results26, go_sem, z0]; try rfl) rfl ?_
        exact ⟨_, rfl, by first | exact HO.out | (rw [EE.out]; exact HO.out), HB.out⟩
end Go.Proofs.Ytkaocpfkigdpoaa
