/-
  A CHANGE IS DONE: bytes are laid at a place.
-/
import Derived.Test.YtejmoaloomnmkaaFlx
namespace Go.Proofs.Ytejmoaloomnmkaa
open Go.RowKit
theorem extract_all (s : ByteArray) : s.extract 0 s.size = s := by
  have h : bl (s.extract 0 s.size) = bl s := by
    unfold bl
    rw [Lib.extract_data, List.drop_zero, List.take_of_length_le]
    rw [← Lib.size_eq]
    exact Nat.le_refl _
  unfold bl at h
  have := Array.toList_inj.1 h
  cases hs : s.extract 0 s.size; cases s; simp_all
theorem splice_end (l b : List UInt8) : splice l l.length b = l ++ b := by
  unfold splice
  rw [List.take_length, List.drop_eq_nil_of_le (Nat.le_add_right _ _), List.append_nil]
theorem bl_extract (s : ByteArray) (k : Nat) : bl (s.extract k s.size) = (bl s).drop k := by
  unfold bl
  rw [Lib.extract_data, List.take_of_length_le]
  rw [List.length_drop, ← Lib.size_eq]
  exact Nat.le_refl _
/-- an append of which the run is known, at a step of a region -/
theorem step_append_run {P : Program} {ops : Array Oper} {o : Oper} {a : Act} {w : World} {K : Act → World → Prop} {Q : Exit → Act → World → Prop} {E : Prop} (hgd : o.guard = none) (sl x : Operand) (t u : TypeId)
    (hop : o.op = Op.call { callee := Callee.builtin Builtin.append, args := #[sl, x], argTypes := #[t, u] }) (v y : Value) (hs : a.eval sl = v) (hx : a.eval x = y) (v' : Value) (w' : World)
    (hr : (Builtin.append_ #[t, u] o.type #[v, y]).run P w = .ok v' w') (hK : K (a.put o.dst v') w') : if Region.wanted o (yielded ops a.tmps) = true then Oper.wp P o a w K Q else E := by
  have hw : Region.wanted o (yielded ops a.tmps) = true := by simp [Region.wanted, hgd]
  rw [if_pos hw]
  unfold Oper.wp execOp
  simp only [hop, resolve, invoke, builtin, Sem.run_bind, Sem.run_pure, Result.andThen_ok, List.map_toArray, List.map_cons, List.map_nil, hs, hx, hr]
  exact hK
/-- behind the copy: what is left goes behind, and the file is set -/
theorem put_tail {w w3 : World} {B D M n T o m k g0 : Nat} {cs : Array Value} {fs : Fm} {V : Nm → Value} {f : Nm} {at_ : Nat} {s : ByteArray} {av : Option Addr} {cv : Nat} {L : List UInt8} (h : Fls w B M n fs V) (hB : Blk w D T cs) (h0 : cs[o]? = some (.map (some M))) (h1 : cs[o + 1]? = some (.int .i64 (sz fs))) (hF : ¬ Foot M V D) (hBD : B ≤ w.heap.size)
    (hG : Good fs m) (hm : m ≤ 100000) (hn : n < 1000000) (hf : f.size ≤ 64) (ha : at_ ≤ (gl fs f).length) (hs : at_ + s.size ≤ 4194304) (hV : V f = .slice av g0 cv) (hg0 : (gl fs f).length = g0)
    (hk : k ≤ s.size) (hL : L ++ (bl s).drop k = splice (gl fs f) at_ (bl s)) (hLl : L.length = g0) (hown : w3.ownsRow B 5 1 (.slice av g0 cv) g0 (bcells L)) (hfr : Fr w w3 (fun q => q = w.heap.size ∨ some q = (V f).ownBlock)) (hY : Blk w3 w.heap.size 60 #[.string f, .int .i64 at_, .string s]) :
      ∃ a' c' w4, (Builtin.append_ #[55, 9] 55 #[.slice av g0 cv, .string (s.extract k s.size)]).run Try.prog w3 = .ok (.slice a' (splice (gl fs f) at_ (bl s)).length c') w4 ∧ Blk w4 w.heap.size 60 #[.string f, .int .i64 at_, .string s] ∧
        Calls Try.prog 46 #[.pointer (some ⟨D, o, none⟩), .string f, .slice a' (splice (gl fs f) at_ (bl s)).length c'] w4 (fun e w5 => Done w B D M (n + 1) T o cs V (Ytejmoaloomnmkaa.put fs f (splice (gl fs f) at_ (bl s))) e w5 ∧ Blk w5 w.heap.size 60 #[.string f, .int .i64 at_, .string s]) := by
  have hgl := hG.gl_le f
  have hgs := gl_le_sz hG.uniq f
  have hsz := hG.sz_le
  have hsl := splice_len (b := bl s) ha
  rw [bl_len] at hsl
  have hx : (s.extract k s.size).size = s.size - k := by
    rw [← bl_len, bl_extract, List.length_drop, bl_len]
  have hlen : g0 + (s.extract k s.size).size = (splice (gl fs f) at_ (bl s)).length := by rw [← hL, List.length_append, hLl, List.length_drop, bl_len, hx]
  obtain ⟨v', w4, hr, ho, hg, hlie⟩ := append_own hown (s.extract k s.size) (by omega) (Nat.le_trans hBD hfr.size)
  rw [bl_extract, hL, hlen] at ho
  obtain ⟨a', c', rfl⟩ := own_form ho
  have hob : (Value.slice av g0 cv).ownBlock = (V f).ownBlock := by rw [hV]
  rw [hob] at hg hlie
  have hfr4 : Fr w w4 (fun q => some q = (V f).ownBlock) := hfr.trans (Fr.of_grown hg) (fun q hq h => by rcases h with rfl | h; exact absurd hq (Nat.lt_irrefl _); exact h) (fun _ _ h => h)
  have hsz3 := hfr.size
  have hsz4 := hg.size
  have hYf : (V f).ownBlock ≠ some w.heap.size := fun e => by have := (h.lt (.inr ⟨f, e⟩)).2; omega
  have hY4 : Blk w4 w.heap.size 60 #[.string f, .int .i64 at_, .string s] := hY.fr (Fr.of_grown hg) (fun e => hYf e.symm)
  have hDf : (V f).ownBlock ≠ some D := fun e => hF (.inr ⟨f, e⟩)
  have hDl := hB.lt
  have hMl := (h.lt (.inl rfl)).2
  have hYl := hY.lt
  have hB4 : Blk w4 D T cs := hB.fr hfr4 (fun e => hDf e.symm)
  refine ⟨a', c', w4, hr, hY4, ?_⟩
  have e1 : (sz fs : Int) + (((splice (gl fs f) at_ (bl s)).length : Int) - (gl fs f).length) = (sz (Ytejmoaloomnmkaa.put fs f (splice (gl fs f) at_ (bl s))) : Int) := by have := sz_put hG.uniq f (splice (gl fs f) at_ (bl s)); omega
  have C := setx_any (o := o) (u := (sz fs : Int)) (h.flx f hfr4 (fun _ h => h)) hB4 h0 h1 hF (by omega) hn (by omega) (by omega) (by omega) hgl (by omega) ho
    (fun t ht => by
      rcases hlie with e | e | e
      · exact .inl e
      · rw [e]; exact h.apart f t ht.symm
      · right
        rw [e]
        intro e'
        have := (h.lt (.inr ⟨t, e'.symm⟩)).2
        omega)
    (by
      rcases hlie with e | e | e
      · rw [e]; simp
      · rw [e]; exact h.off.2 f
      · rw [e]; intro e'; simp at e'; omega)
    (by
      rcases hlie with e | e | e
      · rw [e]; simp
      · rw [e]; exact hDf
      · rw [e]; intro e'; simp at e'; omega)
  rw [e1] at C
  refine C.mono fun e w5 hs5 => ?_
  obtain ⟨he, j1, j2, j3⟩ := hs5
  refine ⟨⟨he, _, j1, j2, hfr4.trans j3 (fun q _ hq => .inr (.inr ⟨f, hq.symm⟩)) (fun q _ hq => ?_), fun q hq => ?_⟩, hY4.fr j3 (by rintro (e | e) <;> omega)⟩
  · rcases hq with rfl | rfl
    · exact .inl rfl
    · exact .inr (.inl rfl)
  · rcases foot_upd hq with hh | hh
    · exact .inl hh
    · rcases hlie with e | e | e
      · rw [e] at hh; cases hh
      · rw [e] at hh; exact .inl (.inr ⟨f, hh⟩)
      · rw [e] at hh; right; simp at hh; omega
set_option maxHeartbeats 40000000 in
set_option maxRecDepth 100000 in
theorem do_put {w : World} {B D M n T o m : Nat} {cs : Array Value} {fs : Fm} {V : Nm → Value} {f : Nm} {at_ : Nat} {s : ByteArray} (h : Fls w B M n fs V) (hB : Blk w D T cs) (h0 : cs[o]? = some (.map (some M))) (h1 : cs[o + 1]? = some (.int .i64 (sz fs))) (hF : ¬ Foot M V D) (hBD : B ≤ w.heap.size)
    (hG : Good fs m) (hm : m ≤ 100000) (hn : n < 1000000) (hf : f.size ≤ 64) (ha : at_ ≤ (gl fs f).length) (hs : at_ + s.size ≤ 4194304) :
    Calls Try.prog 31 #[.pointer (some ⟨D, o, none⟩), (Chg.put f at_ s).val] w (Done w B D M (n + 1) T o cs V ((Chg.put f at_ s).doF fs)) := by
  have hsz := hG.sz_le
  have hgl := hG.gl_le f
  have hgs := gl_le_sz hG.uniq f
  have ho1 : o + 1 < cs.size := (Array.getElem?_eq_some_iff.1 h1).1
  obtain ⟨av, cv, hV⟩ := own_form (h.own f)
  obtain ⟨w1, hw1, hb1, Y1⟩ : ∃ w1, w1 = w.alloc (Obj.cells #[.string f, .int .i64 at_, .string s] 60) ∧ Below w.heap.size w w1 ∧ Blk w1 w.heap.size 60 #[.string f, .int .i64 at_, .string s] := ⟨_, rfl, (Below.refl w.heap.size w).alloc (Nat.le_refl _) _, Blk.new _ _ _⟩
  have hbn : ∀ q, Below w.heap.size w (w1.drewN q) := fun q => below_drewN hb1 q
  have LD : ∀ q, (Instr.lookup 48 (.map (some M)) (.string f) false).run Try.prog (w1.drewN q) = .ok (.slice av (gl fs f).length cv) (w1.drewN q) := fun q => by rw [(h.below (hbn q)).look (by unfold maxLen; omega), hV]
  have hYD : w.heap.size ≠ D := fun e => by have := hB.lt; omega
  have hYM : w.heap.size ≠ M := fun e => by have := (h.lt (.inl rfl)).2; omega
  have hfD : (V f).ownBlock ≠ some D := fun e => hF (.inr ⟨f, e⟩)
  have hYf : (V f).ownBlock ≠ some w.heap.size := fun e => by have := (h.lt (.inr ⟨f, e⟩)).2; omega
  have c0 : w1.cell? ⟨D, o, none⟩ = some (.map (some M)) := by rw [(hB.below hb1 hB.lt).cell]; exact h0
  have y0 : w1.cell? ⟨w.heap.size, 0, none⟩ = some (.string f) := by rw [Y1.cell]; rfl
  have y1 : w1.cell? ⟨w.heap.size, 1, none⟩ = some (.int .i64 at_) := by rw [Y1.cell]; rfl
  have y2 : w1.cell? ⟨w.heap.size, 2, none⟩ = some (.string s) := by rw [Y1.cell]; rfl
  have W1 := Lib.hid hw1
  have t1 := ta_60_60 w (.agg #[.string f, .int .i64 at_, .string s])
  have HO := Lib.hid (fun q => (h.below (hbn q)).own f)
  rw [hV] at HO
  have hmc : (gl fs f).length ≤ cv ∧ cv ≤ 9223372036854775807 := by
    have := h.own f
    rw [hV] at this
    rcases this.2 with ⟨e, e0⟩ | ⟨g, cap, cur, e, _, _, h1, h2, _⟩
    · injection e with _ e3 e4; omega
    · injection e with _ e3 e4; unfold maxLen at h2; omega
  have Hh := Lib.hid h
  have HB := Lib.hid hB
  have H0 := Lib.hid h0
  have H1 := Lib.hid h1
  have HF := Lib.hid hF
  have HG := Lib.hid hG
  have HV := Lib.hid hV
  have HYb := Lib.hid Y1
  have HN := Lib.hid hbn
  have HD := Lib.hid (show (V f).ownBlock ≠ some D ∧ (V f).ownBlock ≠ some w.heap.size ∧ w.heap.size ≠ D ∧ w.heap.size ≠ M from ⟨hfD, hYf, hYD, hYM⟩)
  have hs2 : s.size ≤ 4194304 := by omega
  have HSZ := Lib.hid hsz
  have HGS := Lib.hid hgs
  clear h hB h0 h1 hF hG hV Y1 hbn hfD hYf hYD hYM hb1 hw1 hsz hgs
  unfold Chg.val Chg.doF
  simp only
  generalize hgm : (gl fs f).length = g0 at *
  have HGM := Lib.hid hgm
  clear hgm
  go_enter Try.func31, Try.ntmps31
  go_wp2_with fail
  rw [← W1.out]
  clear W1 t1
  go_quiet (fail)
  obtain ⟨w2, hw2, z0, z1, z2, Y2, B2, O2⟩ : ∃ w2, w2 = w1.drewN nq ∧ w2.cell? ⟨w.heap.size, 0, none⟩ = some (.string f) ∧ w2.cell? ⟨w.heap.size, 1, none⟩ = some (.int .i64 at_) ∧ w2.cell? ⟨w.heap.size, 2, none⟩ = some (.string s) ∧ Hid (Blk w2 w.heap.size 60 #[.string f, .int .i64 at_, .string s]) ∧ Hid (Below w.heap.size w w2) ∧ Hid (w2.ownsRow B 5 1 (.slice av g0 cv) g0 (bcells (gl fs f))) :=
    ⟨_, rfl, y0, y1, y2, HYb.out, HN.out nq, HO.out nq⟩
  rw [← hw2]
  have hav : av = none ∨ ∃ g, av = some ⟨g, 0, none⟩ := by
    rcases O2.out.2 with ⟨e, _⟩ | ⟨g, cap, cur, e, _⟩
    · injection e with e1 _ _; exact .inl e1
    · injection e with e1 _ _; exact .inr ⟨g, e1⟩
  clear LD c0 y0 y1 y2 HO HN hw2 HYb
  /- behind the copy: k bytes have gone over -/
  have TAIL : Hid (∀ (w3 : World) (k : Nat) (L : List UInt8), k ≤ s.size → L ++ (bl s).drop k = splice (gl fs f) at_ (bl s) → L.length = g0 → w3.ownsRow B 5 1 (.slice av g0 cv) g0 (bcells L) → Fr w w3 (fun q => q = w.heap.size ∨ some q = (V f).ownBlock) → Blk w3 w.heap.size 60 #[.string f, .int .i64 at_, .string s] →
      ∃ a' c' w4, (Builtin.append_ #[55, 9] 55 #[.slice av g0 cv, .string (s.extract k s.size)]).run Try.prog w3 = .ok (.slice a' (splice (gl fs f) at_ (bl s)).length c') w4 ∧ Blk w4 w.heap.size 60 #[.string f, .int .i64 at_, .string s] ∧
        Calls Try.prog 46 #[.pointer (some ⟨D, o, none⟩), .string f, .slice a' (splice (gl fs f) at_ (bl s)).length c'] w4 (fun e w5 => Done w B D M (n + 1) T o cs V (Ytejmoaloomnmkaa.put fs f (splice (gl fs f) at_ (bl s))) e w5 ∧ Blk w5 w.heap.size 60 #[.string f, .int .i64 at_, .string s])) := Lib.hid (fun w3 k L a1 a2 a3 a4 a5 a6 => put_tail Hh.out HB.out H0.out H1.out HF.out hBD HG.out hm hn hf (by rw [HGM.out]; exact ha) hs HV.out HGM.out a1 a2 a3 a4 a5 a6)
  rcases hav with rfl | ⟨g, rfl⟩
  · have hz : g0 = 0 ∧ cv = 0 := by
      rcases O2.out.2 with ⟨e, e0⟩ | ⟨g, cap, cur, e, _⟩
      · injection e with _ e2 e3; exact ⟨e2, e3⟩
      · cases e
    have ha0 : at_ = 0 := by omega
    obtain ⟨rfl, rfl⟩ := hz
    subst ha0
    obtain ⟨w3, hw3⟩ : ∃ w3, w3 = w2.drew := ⟨_, rfl⟩
    have hcp := run_copy_zero (P := Try.prog) w2.drew 55 9 3 5 none 0 0 s Try.underlying55 (by rw [info5s]; rfl) (Nat.min_zero _)
    have hL : gl fs f ++ (bl s).drop 0 = splice (gl fs f) 0 (bl s) := by rw [List.eq_nil_of_length_eq_zero HGM.out]; simp [splice]
    have hYw : Blk w3.drew w.heap.size 60 #[.string f, .int .i64 (0 : Nat), .string s] := by rw [hw3]; exact Y2.out
    obtain ⟨a', c', w4, hap, hY4, hC⟩ := TAIL.out w3.drew 0 _ (Nat.zero_le _) hL HGM.out (by rw [hw3]; exact O2.out) (by rw [hw3]; exact Fr.of_below (B2.out.trans ((Below.refl w2.heap.size w2).drew.drew.mono B2.out.size)) _) hYw
    rw [extract_all] at hap
    have HAP := Lib.hid hap
    have HC := Lib.hid hC
    have HY3 := Lib.hid hYw
    have HY4 := Lib.hid hY4
    have W3 := Lib.hid hw3
    clear hap hC hYw hY4 hL hw3
    go_wp2_with fail
    go_region
    rw [← W3.out]
    clear hcp z0 z1 z2 W3
    have z0 : w3.cell? ⟨w.heap.size, 0, none⟩ = some (.string f) := by have := HY3.out.cell 0; exact this
    have z2 : w3.cell? ⟨w.heap.size, 2, none⟩ = some (.string s) := by have := HY3.out.cell 2; exact this
    have u0 : w4.cell? ⟨w.heap.size, 0, none⟩ = some (.string f) := by have := HY4.out.cell 0; exact this
    have u2 : w4.cell? ⟨w.heap.size, 2, none⟩ = some (.string s) := by have := HY4.out.cell 2; exact this
    go_wp2_with fail
    go_region_held3 (fun w' => w'.cell? ⟨w.heap.size, 0, none⟩ = some (.string f) ∧ w'.cell? ⟨w.heap.size, 2, none⟩ = some (.string s))
      (first | assumption | exact ⟨‹_›, ‹_›⟩)
      (first | (refine step_append_run (by rfl) _ _ _ _ (by rfl) _ _ (by rfl) (by rfl) _ _ HAP.out ?_) | (go_at_call 46; refine HC.out.mono ?_; rintro e w5 ⟨hd, hY5⟩; have F := Lib.hid hd; have x0 : w5.cell? ⟨w.heap.size, 0, none⟩ = some (.string f) := by { have := hY5.cell 0; exact this }; have x2 : w5.cell? ⟨w.heap.size, 2, none⟩ = some (.string s) := by { have := hY5.cell 2; exact this }; obtain ⟨rfl, _⟩ := hd))
    clear HC HAP TAIL z0 z2 u0 u2 x0 x2
    go_wp2_with fail
    go_end0
    exact F.out
  · by_cases hcv : cv = at_
    · have hga : g0 = at_ := by omega
      subst hga
      subst hcv
      obtain ⟨w3, hw3⟩ : ∃ w3, w3 = w2.drew := ⟨_, rfl⟩
      have hcp := run_copy_zero (P := Try.prog) w2.drew 55 9 3 5 (some ⟨g, 0, none⟩) 0 0 s Try.underlying55 (by rw [info5s]; rfl) (Nat.min_zero _)
      have hL : gl fs f ++ (bl s).drop 0 = splice (gl fs f) cv (bl s) := by rw [← HGM.out, splice_end, List.drop_zero]
      have hYw : Blk w3.drew w.heap.size 60 #[.string f, .int .i64 (cv : Nat), .string s] := by rw [hw3]; exact Y2.out
      obtain ⟨a', c', w4, hap, hY4, hC⟩ := TAIL.out w3.drew 0 _ (Nat.zero_le _) hL HGM.out (by rw [hw3]; exact O2.out) (by rw [hw3]; exact Fr.of_below (B2.out.trans ((Below.refl w2.heap.size w2).drew.drew.mono B2.out.size)) _) hYw
      rw [extract_all] at hap
      have HAP := Lib.hid hap
      have HC := Lib.hid hC
      have HY3 := Lib.hid hYw
      have HY4 := Lib.hid hY4
      have W3 := Lib.hid hw3
      clear hap hC hYw hY4 hL hw3
      go_wp2_with fail
      go_region
      rw [← W3.out]
      clear hcp z0 z1 z2 W3
      have z0 : w3.cell? ⟨w.heap.size, 0, none⟩ = some (.string f) := by have := HY3.out.cell 0; exact this
      have z2 : w3.cell? ⟨w.heap.size, 2, none⟩ = some (.string s) := by have := HY3.out.cell 2; exact this
      have u0 : w4.cell? ⟨w.heap.size, 0, none⟩ = some (.string f) := by have := HY4.out.cell 0; exact this
      have u2 : w4.cell? ⟨w.heap.size, 2, none⟩ = some (.string s) := by have := HY4.out.cell 2; exact this
      go_wp2_with fail
      go_region_held3 (fun w' => w'.cell? ⟨w.heap.size, 0, none⟩ = some (.string f) ∧ w'.cell? ⟨w.heap.size, 2, none⟩ = some (.string s))
        (first | assumption | exact ⟨‹_›, ‹_›⟩)
        (first | (refine step_append_run (by rfl) _ _ _ _ (by rfl) _ _ (by rfl) (by rfl) _ _ HAP.out ?_) | (go_at_call 46; refine HC.out.mono ?_; rintro e w5 ⟨hd, hY5⟩; have F := Lib.hid hd; have x0 : w5.cell? ⟨w.heap.size, 0, none⟩ = some (.string f) := by { have := hY5.cell 0; exact this }; have x2 : w5.cell? ⟨w.heap.size, 2, none⟩ = some (.string s) := by { have := hY5.cell 2; exact this }; obtain ⟨rfl, _⟩ := hd))
      clear HC HAP TAIL z0 z2 u0 u2 x0 x2
      go_wp2_with fail
      go_end0
      exact F.out
    · obtain ⟨k, hk⟩ : ∃ k, Nat.min s.size (g0 - at_) = k := ⟨_, rfl⟩
      obtain ⟨w3, hcp, o3, gr3, sz3⟩ := copy_own (w := w2.drew) O2.out HGM.out ha hk (cv - at_)
      have HK := Lib.hid hk
      have O3 := Lib.hid o3
      have GR3 := Lib.hid gr3
      clear hk o3 gr3 sz3
      have hkk : k ≤ s.size ∧ k ≤ g0 - at_ := by rw [← HK.out]; exact ⟨Nat.min_le_left _ _, Nat.min_le_right _ _⟩
      have hYg : g ≠ w.heap.size := fun e => by
        have h1 := HD.out.2.1
        rw [HV.out, e] at h1
        exact h1 rfl
      have hYw : Blk w3.drew w.heap.size 60 #[.string f, .int .i64 at_, .string s] := by
        have : Blk w2.drew w.heap.size 60 #[.string f, .int .i64 at_, .string s] := Y2.out
        have h3 : Blk w3 w.heap.size 60 #[.string f, .int .i64 at_, .string s] := this.fr (Fr.of_grown GR3.out) (fun e => hYg (Option.some.inj e).symm)
        exact h3
      have hfr : Fr w w3.drew (fun q => q = w.heap.size ∨ some q = (V f).ownBlock) := by
        have F1 : Fr w w2.drew (fun _ => False) := Fr.of_below (B2.out.trans ((Below.refl w2.heap.size w2).drew.mono B2.out.size)) _
        refine (F1.trans (Fr.of_grown GR3.out) (fun _ _ h => h.elim) (fun q _ h => .inr (by rw [HV.out]; exact h))).trans (fr_drew w3 (fun _ => False)) (fun _ _ h => h) (fun _ _ h => h.elim)
      obtain ⟨a', c', w4, hap, hY4, hC⟩ := TAIL.out w3.drew k _ hkk.1 (splice_parts (by rw [HGM.out]; exact ha) (by rw [bl_len, HGM.out]; exact HK.out.symm)) (by simp [HGM.out, bl_len]; omega) O3.out hfr hYw
      have HAP := Lib.hid hap
      have HC := Lib.hid hC
      have HY3 := Lib.hid hYw
      have HY4 := Lib.hid hY4
      clear hap hC hYw hY4 hfr
      go_wp2_with fail
      go_region
      clear hcp z0 z1 z2
      have hk1 := hkk.1
      have z0 : w3.cell? ⟨w.heap.size, 0, none⟩ = some (.string f) := by have := HY3.out.cell 0; exact this
      have z2 : w3.cell? ⟨w.heap.size, 2, none⟩ = some (.string s) := by have := HY3.out.cell 2; exact this
      have u0 : w4.cell? ⟨w.heap.size, 0, none⟩ = some (.string f) := by have := HY4.out.cell 0; exact this
      have u2 : w4.cell? ⟨w.heap.size, 2, none⟩ = some (.string s) := by have := HY4.out.cell 2; exact this
      go_wp2_with fail
      go_region_held3 (fun w' => w'.cell? ⟨w.heap.size, 0, none⟩ = some (.string f) ∧ w'.cell? ⟨w.heap.size, 2, none⟩ = some (.string s))
        (first | assumption | exact ⟨‹_›, ‹_›⟩)
        (first | (refine step_append_run (by rfl) _ _ _ _ (by rfl) _ _ (by rfl) (by rfl) _ _ HAP.out ?_) | (go_at_call 46; refine HC.out.mono ?_; rintro e w5 ⟨hd, hY5⟩; have F := Lib.hid hd; have x0 : w5.cell? ⟨w.heap.size, 0, none⟩ = some (.string f) := by { have := hY5.cell 0; exact this }; have x2 : w5.cell? ⟨w.heap.size, 2, none⟩ = some (.string s) := by { have := hY5.cell 2; exact this }; obtain ⟨rfl, _⟩ := hd))
      clear HC HAP TAIL z0 z2 u0 u2 x0 x2
      go_wp2_with fail
      go_end0
      exact F.out

end Go.Proofs.Ytejmoaloomnmkaa
