/-
  THE DOCUMENT's FILES: Get, without, with, Same.
-/
import Derived.Test.YtejmoaloomnmkaaPfx0
namespace Go.Proofs.Ytejmoaloomnmkaa
open Go.RowKit
theorem ftake_push {l : List FT} {k : Nat} (h : k < l.length) : l.take k ++ [l[k]] = l.take (k + 1) := by
  rw [List.take_add_one, List.getElem?_eq_getElem h]; rfl
theorem drop_at {l : List FT} {k : Nat} (h : k < l.length) : l.drop k = l[k] :: l.drop (k + 1) := List.drop_eq_getElem_cons h
theorem getL_drop {l : List FT} {k : Nat} {s : Nm} (h : k < l.length) (hne : l[k].n ≠ s) : getL (l.drop (k + 1)) s = getL (l.drop k) s := by
  rw [drop_at h]
  unfold getL
  rw [List.find?_cons, decide_eq_false hne]
theorem getL_hit {l : List FT} {k : Nat} {s : Nm} (h : k < l.length) (he : l[k].n = s) : getL (l.drop k) s = l[k].s := by
  rw [drop_at h]
  unfold getL
  rw [List.find?_cons, decide_eq_true he]
  rfl
/-- what Get answers -/
def Gotd (x : ByteArray) (w : World) (e : Ending) (w' : World) : Prop := ∃ b : Bool, e = .returned (.tuple #[.string x, .bool b]) ∧ w = w'
set_option maxHeartbeats 4000000 in
set_option maxRecDepth 100000 in
theorem rget_any (L : List FT) (n : Nat) (hn : L.length = n) (hn4 : n ≤ 100000) (p : Option Addr) (cp : Nat) (s : Nm) (w : World) (T : Filed w p L) : Calls Try.prog 39 #[.slice p n cp, .string s] w (Gotd (getL L s) w) := by
  have HN := Lib.hid hn
  have HT := Lib.hid T
  clear T hn
  go_enter Try.func39, Try.ntmps39
  go_wp2_with fail
  go_loop [6] (fun i => ∃ k : Nat, i = .int .i64 k ∧ k ≤ n ∧ Hid (getL (L.drop k) s = getL L s)) (fun i => n - (intOf i).toNat)
  case atStart => exact ⟨0, rfl, Nat.zero_le _, Lib.hid (by rw [List.drop_zero])⟩
  case round =>
    obtain ⟨k, rfl, hk, hg⟩ := hrel
    by_cases hkn : k < n
    · have hkL : k < L.length := by rw [HN.out]; exact hkn
      obtain ⟨g0, o, rfl, hg0, c0, c1⟩ := HT.out k hkL
      have NX := Lib.hid (fun h => (getL_drop (s := s) hkL h).trans hg.out)
      have HIT := Lib.hid (fun h => (getL_hit (s := s) hkL h).symm.trans hg.out)
      generalize L[k] = x at *
      obtain ⟨xn, xs⟩ := x
      simp only at c0 c1 NX HIT
      clear hkL hg
      by_cases h : xn = s
      · have H := Lib.hid (HIT.out h)
        have hb : (xn.toList == s.toList) = true := by rw [str_eq]; exact decide_eq_true h
        clear h NX HIT
        go_wp2_with fail
        go_ret2
        exact ⟨true, by rw [← H.out]; rfl, rfl⟩
      · have H := Lib.hid (NX.out h)
        have hb : (xn.toList == s.toList) = false := by rw [str_eq]; exact decide_eq_false h
        clear h NX HIT
        go_wp2_with fail
        go_round
        case rel => exact ⟨k + 1, by go_num, by omega, H⟩
        case measure => simp [intOf]; omega
    · obtain rfl : k = n := by omega
      have H : Hid (getL L s = ⟨#[]⟩) := Lib.hid (by rw [← hg.out, List.drop_of_length_le (by rw [HN.out]; exact Nat.le_refl _)]; rfl)
      clear hg
      go_wp2_with fail
      go_ret2
      exact ⟨false, by rw [H.out]; rfl, rfl⟩
theorem without_step {l : List FT} {k : Nat} {s : Nm} (h : k < l.length) : withoutL (l.take (k + 1)) s = withoutL (l.take k) s ++ (if decide (l[k].n = s) then [] else [l[k]]) := by
  rw [← ftake_push h]
  unfold withoutL
  rw [List.filter_append, List.filter_cons, List.filter_nil]
  cases decide (l[k].n = s) <;> rfl
theorem without_len (l : List FT) (s : Nm) : (withoutL l s).length ≤ l.length := List.length_filter_le _ _
set_option maxHeartbeats 4000000 in
set_option maxRecDepth 100000 in
theorem without_any (L : List FT) (n : Nat) (hn : L.length = n) (hn4 : n ≤ 100000) (p : Option Addr) (cp : Nat) (s : Nm) (w : World) (T : Filed w p L) : Calls Try.prog 41 #[.slice p n cp, .string s] w (Filesd w (withoutL L s)) := by
  obtain ⟨i71, hi, hz0, hz1, hz2⟩ := info_parts info71
  have HN := Lib.hid hn
  have HT := Lib.hid T
  have hY0 : Hid (FlI w w w.heap.size [] (.slice none 0 0)) := Lib.hid ⟨World.ownsRow_nil _ _ _ _, Below.refl _ _, Nat.le_refl _⟩
  have RE := Lib.hid (fun W q cq m hm h => filesd_end (w := w) (w1 := w) (W := W) (L := withoutL L s) (q := q) (cq := cq) (m := m) rfl (Below.refl _ _) hm h)
  clear T hn
  generalize hy : w.heap.size = Y at *
  go_enter Try.func41, Try.ntmps41
  go_wp2_with fail
  go_loopw [6, 5] (fun i ts wq => ∃ (k : Nat) (u : Value), i = .int .i64 k ∧ ts = u ∧ k ≤ n ∧ FlI w wq Y (withoutL (L.take k) s) u) (fun i _ _ => n - (intOf i).toNat)
  case atStart => exact ⟨0, .slice none 0 0, rfl, rfl, Nat.zero_le _, by rw [List.take_zero]; exact hY0.out⟩
  case round =>
    obtain ⟨k, u, rfl, rfl, hk, hI⟩ := hrel
    have hT := HT.out.below (by rw [hy]; exact hI.b)
    obtain ⟨ua, uc, hu⟩ := nrow_form hI.o
    subst hu
    have hlk : (withoutL (L.take k) s).length ≤ 100000 := by have := without_len (L.take k) s; rw [List.length_take] at this; omega
    obtain ⟨F, hF⟩ : ∃ F, withoutL (L.take k) s = F := ⟨_, rfl⟩
    have HF := Lib.hid hF
    rw [hF] at hI hlk ⊢
    obtain ⟨j, hj⟩ : ∃ j, F.length = j := ⟨_, rfl⟩
    have HJ := Lib.hid hj
    have HI := Lib.hid hI
    rw [hj] at HI hlk ⊢
    clear hI hF hj
    by_cases hkn : k < n
    · have hkL : k < L.length := by rw [HN.out]; exact hkn
      obtain ⟨g0, o, rfl, hg0, c0, c1⟩ := hT k hkL
      have ST := without_step (s := s) hkL
      rw [HF.out] at ST
      have STh := Lib.hid ST
      clear ST hT
      generalize L[k] = x at *
      obtain ⟨xn, xs⟩ := x
      simp only at c0 c1 STh
      clear hkL
      by_cases h : xn = s
      · have H : Hid (withoutL (L.take (k + 1)) s = F) := Lib.hid (by rw [STh.out, decide_eq_true h]; exact List.append_nil _)
        have hb : (xn.toList == s.toList) = true := by rw [str_eq]; exact decide_eq_true h
        have hb2 : (xn.toList != s.toList) = false := by rw [bne, hb]; rfl
        clear h STh
        go_wp2_with fail
        go_roundw
        case rel => exact ⟨k + 1, _, by go_num, rfl, by omega, by rw [H.out]; exact HI.out⟩
        case measure => simp [intOf]; omega
      · have H : Hid (withoutL (L.take (k + 1)) s = F ++ [⟨xn, xs⟩]) := Lib.hid (by rw [STh.out, decide_eq_false h]; rfl)
        have hb : (xn.toList == s.toList) = false := by rw [str_eq]; exact decide_eq_false h
        have hb2 : (xn.toList != s.toList) = true := by rw [bne, hb]; rfl
        clear h STh
        have PU := Lib.hid (fun w8 g cap => (HI.out.below ((Below.refl _ wr).alloc (Nat.le_refl _) (.cells #[.string xn, .string xs] 71))).push (w8 := w8) (g := g) (cap := cap) (x := ⟨xn, xs⟩))
        rw [HJ.out] at PU
        have H1C := Lib.hid (one_ft ⟨xn, xs⟩)
        have OW : Hid (wr.ownsRow Y 71 2 (.slice ua j uc) j (cellsFT F)) := Lib.hid (by have := HI.out.o; rw [HJ.out] at this; exact this)
        have hYv : Y ≤ wr.heap.size := HI.out.y
        go_wp2_with (at_builtin; refine wpList_append_lies _ rfl (.tmp 20) (.tmp 25) 37 rfl Y 71 i71 (.agg #[.string ⟨#[]⟩, .string ⟨#[]⟩]) 2 32 Try.underlying37 hi hz0 hz1 hz2 rfl (by decide) (.slice ua j uc) j (cellsFT F) rfl (World.ownsRow.alloc OW.out _) ⟨wr.heap.size, 0, none⟩ 1 1 (encF ⟨xn, xs⟩) rfl rfl (World.news_of_block (cs := #[.string xn, .string xs]) (heap_alloc_new wr _)) H1C.out (by decide) (by unfold maxLen; omega) (by omega) (by simp; omega) _ rfl ?_; intro g8 cap8 w8 ho8 hg8 _ _; have I8h := Lib.hid (PU.out w8 g8 cap8 ho8 hg8); clear ho8 hg8)
        go_roundw
        case rel => exact ⟨k + 1, _, by go_num, rfl, by omega, by rw [H.out]; exact I8h.out⟩
        case measure => simp [intOf]; omega
    · obtain rfl : k = n := by omega
      have I9 := HI.out
      have hF := HF.out
      rw [List.take_of_length_le (by rw [HN.out]; exact Nat.le_refl _)] at hF
      rw [← hF] at I9
      have I9h := Lib.hid I9
      have HL : Hid (j = (withoutL L s).length) := Lib.hid (by rw [hF]; exact HJ.out.symm)
      clear I9 hT hF
      go_wp2_with fail
      go_ret
      exact RE.out _ _ _ _ HL.out (by first | exact I9h.out | (rw [HJ.out]; exact I9h.out))
/-- behind the whole, from a place on -/
theorem with_step {f : FT} {inn : Bool} {l : List FT} {k : Nat} {lt eq : Bool} (h : k < l.length) (h1 : ltN f.n l[k].n = lt) (h2 : decide (l[k].n = f.n) = eq) : withL f inn (l.drop k) = (bif !inn && lt then [f] else []) ++ ((bif eq then [] else [l[k]]) ++ withL f (inn || lt) (l.drop (k + 1))) := by
  rw [drop_at h]
  subst h1; subst h2
  conv => lhs; unfold withL
  cases (!inn && ltN f.n l[k].n) <;> cases decide (l[k].n = f.n) <;> rfl
theorem with_len (f : FT) : ∀ (inn : Bool) (l : List FT), (withL f inn l).length ≤ 2 * l.length + 1
  | inn, [] => by unfold withL; cases inn <;> simp
  | inn, x :: l => by
    have ih := with_len f (inn || ltN f.n x.n) l
    unfold withL
    rw [List.length_append, List.length_append, List.length_cons]
    have h1 : (if (!inn && ltN f.n x.n) = true then [f] else []).length ≤ 1 := by split <;> simp
    have h2 : (if decide (x.n = f.n) = true then [] else [x]).length ≤ 1 := by split <;> simp
    omega
/-- in the midst of a round of with: behind the file's own place -/
def WithMid (w0 : World) (Y1 k : Nat) (T R : List FT) (f : FT) (W : List FT) (ts b : Value) (wx : World) : Prop := ∃ (u : Value) (Out : List FT) (inn : Bool), ts = u ∧ b = .bool inn ∧ FlI w0 wx Y1 Out u ∧ Out.length ≤ 2 * k + 1 ∧ Hid (Out ++ (T ++ withL f inn R) = W)
set_option maxHeartbeats 8000000 in
set_option maxRecDepth 100000 in
theorem with_any (L : List FT) (n : Nat) (hn : L.length = n) (hn4 : n ≤ 100000) (p : Option Addr) (cp : Nat) (fn : Nm) (fs : ByteArray) (w : World) (T : Filed w p L) : Calls Try.prog 40 #[.slice p n cp, .agg #[.string fn, .string fs]] w (Filesd w (withL ⟨fn, fs⟩ false L)) := by
  obtain ⟨i71, hi, hz0, hz1, hz2⟩ := info_parts info71
  have HN := Lib.hid hn
  obtain ⟨w0, hw0, N0, b0⟩ : ∃ w0, w0 = w.alloc (.cells #[.string fn, .string fs] 71) ∧ Blk w0 w.heap.size 71 #[.string fn, .string fs] ∧ Below w.heap.size w w0 := ⟨_, rfl, Blk.new w 71 _, (Below.refl _ w).alloc (Nat.le_refl _) _⟩
  have HT := Lib.hid (T.below b0)
  have N0h := Lib.hid N0
  have W0 := Lib.hid hw0
  have hY0 : Hid (FlI w0 w0 w0.heap.size [] (.slice none 0 0)) := Lib.hid ⟨World.ownsRow_nil _ _ _ _, Below.refl _ _, Nat.le_refl _⟩
  have RE := Lib.hid (fun W q cq m hm h => filesd_end (w := w) (w1 := w0) (W := W) (L := withL ⟨fn, fs⟩ false L) (q := q) (cq := cq) (m := m) rfl b0 hm h)
  have hXY : w.heap.size < w0.heap.size := N0.lt
  clear T hn hw0 N0 b0
  generalize hy : w.heap.size = X at *
  generalize hy1 : w0.heap.size = Y1 at *
  obtain ⟨f, hf⟩ : ∃ f : FT, f = ⟨fn, fs⟩ := ⟨_, rfl⟩
  have HF := Lib.hid hf
  rw [← hf] at RE ⊢
  clear hf
  obtain ⟨W, hW⟩ : ∃ W, withL f false L = W := ⟨_, rfl⟩
  have HWl : Hid (W.length ≤ 2 * n + 1) := Lib.hid (by rw [← hW, ← HN.out]; exact with_len f false L)
  have HW := Lib.hid hW
  rw [hW] at RE ⊢
  clear hW
  go_enter Try.func40, Try.ntmps40
  go_wp2_with fail
  rw [← W0.out]
  go_loopw [7, 5, 6] (fun i ts b wq => ∃ (k : Nat) (u : Value) (inn : Bool) (Out : List FT), i = .int .i64 k ∧ ts = u ∧ b = .bool inn ∧ k ≤ n ∧ FlI w0 wq Y1 Out u ∧ Out.length ≤ 2 * k ∧ Hid (Out ++ withL f inn (L.drop k) = W)) (fun i _ _ _ => n - (intOf i).toNat)
  case atStart => exact ⟨0, .slice none 0 0, false, [], rfl, rfl, rfl, Nat.zero_le _, hY0.out, Nat.le_refl _, Lib.hid (by rw [List.drop_zero]; exact HW.out)⟩
  case round =>
    obtain ⟨k, u, inn, Out, rfl, rfl, rfl, hk, hI, hlo, hE⟩ := hrel
    have z0 : wr.cell? ⟨X, 0, none⟩ = some (.string fn) := (N0h.out.below hI.b hXY).cell 0
    have z1 : wr.cell? ⟨X, 1, none⟩ = some (.string fs) := (N0h.out.below hI.b hXY).cell 1
    obtain ⟨ua, uc, hu⟩ := nrow_form hI.o
    subst hu
    have HI := Lib.hid hI
    obtain ⟨j, hj⟩ : ∃ j, Out.length = j := ⟨_, rfl⟩
    have HJ := Lib.hid hj
    rw [hj] at HI hlo ⊢
    clear hI hj
    by_cases hkn : k < n
    · have hkL : k < L.length := by rw [HN.out]; exact hkn
      obtain ⟨g0, o, rfl, hg0, e0, e1⟩ := HT.out k hkL
      rw [hy1] at hg0
      have hs := Lib.hid (fun (lt eq : Bool) (h1 : ltN f.n L[k].n = lt) (h2 : decide (L[k].n = f.n) = eq) => (show Out ++ ((bif !inn && lt then [f] else []) ++ ((bif eq then [] else [L[k]]) ++ withL f (inn || lt) (L.drop (k + 1)))) = W by rw [← with_step (f := f) (inn := inn) (lt := lt) (eq := eq) hkL h1 h2]; exact hE.out))
      clear hE
      generalize L[k] = x at *
      obtain ⟨xn, xs⟩ := x
      simp only at e0 e1 hs
      have CE := Lib.hid (fun W0 (b : Below Y1 w0 W0) => (show W0.cell? ⟨g0, o + k * 2, none⟩ = some (.string xn) ∧ W0.cell? ⟨g0, o + k * 2 + 1, none⟩ = some (.string xs) from ⟨by rw [b.cell (p := ⟨g0, _, none⟩) hg0]; exact e0, by rw [b.cell (p := ⟨g0, _, none⟩) hg0]; exact e1⟩))
      obtain ⟨lt, hlt⟩ : ∃ lt, ltN fn xn = lt := ⟨_, rfl⟩
      obtain ⟨eq, heq⟩ : ∃ eq, decide (xn = fn) = eq := ⟨_, rfl⟩
      have ST := Lib.hid (hs.out lt eq (by rw [HF.out]; exact hlt) (by rw [HF.out]; exact heq))
      have hb : (xn.toList == fn.toList) = eq := by rw [str_eq]; exact heq
      unfold ltN at hlt
      clear hkL hs heq e0 e1
      obtain ⟨c0, c1⟩ := CE.out wr HI.out.b
      go_upto_region 6 with fail
      cases inn
      · cases lt
        · go_quiet (fail)
          have I1 := Lib.hid (HI.out.below (below_drewN (Below.refl wr.heap.size wr) nq))
          clear c0 c1 z0 z1 HI hlt
          generalize wr.drewN nq = w1 at *
          obtain ⟨d0, d1⟩ := CE.out w1 I1.out.b
          have y0 : w1.cell? ⟨X, 0, none⟩ = some (.string fn) := (N0h.out.below I1.out.b hXY).cell 0
          go_upto_region 9 with fail
          cases eq
          · have hb2 : (xn.toList != fn.toList) = true := by rw [bne, hb]; rfl
            go_quiet (fail)
            have I2 := Lib.hid (I1.out.below (below_drewN (Below.refl w1.heap.size w1) nq))
            clear d0 d1 y0 hb hb2 I1
            generalize w1.drewN nq = w2 at *
            obtain ⟨d0, d1⟩ := CE.out w2 I2.out.b
            have PU := Lib.hid (fun w8 g cap => (I2.out.below ((Below.refl _ w2).alloc (Nat.le_refl _) (.cells #[.string xn, .string xs] 71))).push (w8 := w8) (g := g) (cap := cap) (x := ⟨xn, xs⟩))
            rw [HJ.out] at PU
            have H1C := Lib.hid (one_ft ⟨xn, xs⟩)
            have OW : Hid (w2.ownsRow Y1 71 2 (.slice ua j uc) j (cellsFT Out)) := Lib.hid (by have := I2.out.o; rw [HJ.out] at this; exact this)
            have hYv : Y1 ≤ w2.heap.size := I2.out.y
            go_wp2_with (at_builtin; refine wpList_append_lies _ rfl (.tmp 38) (.tmp 43) 37 rfl Y1 71 i71 (.agg #[.string ⟨#[]⟩, .string ⟨#[]⟩]) 2 32 Try.underlying37 hi hz0 hz1 hz2 rfl (by decide) (.slice ua j uc) j (cellsFT Out) rfl (World.ownsRow.alloc OW.out _) ⟨w2.heap.size, 0, none⟩ 1 1 (encF ⟨xn, xs⟩) rfl rfl (World.news_of_block (cs := #[.string xn, .string xs]) (heap_alloc_new w2 _)) H1C.out (by decide) (by unfold maxLen; omega) (by omega) (by simp; omega) _ rfl ?_; intro g8 cap8 w8 ho8 hg8 _ _; have I8h := Lib.hid (PU.out w8 g8 cap8 ho8 hg8); clear ho8 hg8)
            go_roundw
            case rel => exact ⟨k + 1, _, false, Out ++ [⟨xn, xs⟩], by go_num, rfl, rfl, by omega, I8h.out, by rw [List.length_append, HJ.out]; show _ + 1 ≤ _; omega, Lib.hid (by rw [List.append_assoc]; exact ST.out)⟩
            case measure => simp [intOf]; omega
          · have hb2 : (xn.toList != fn.toList) = false := by rw [bne, hb]; rfl
            go_quiet (fail)
            have I2 := Lib.hid (I1.out.below (below_drewN (Below.refl w1.heap.size w1) nq))
            clear d0 d1 y0 hb hb2 I1
            generalize w1.drewN nq = w2 at *
            go_wp2_with fail
            go_roundw
            case rel => exact ⟨k + 1, _, false, Out, by go_num, rfl, rfl, by omega, I2.out, by rw [HJ.out]; omega, Lib.hid ST.out⟩
            case measure => simp [intOf]; omega
        · go_quiet (fail)
          have I1 := Lib.hid (HI.out.below (below_drewN (Below.refl wr.heap.size wr) nq))
          clear c0 c1 z0 z1 HI hlt
          generalize wr.drewN nq = w1 at *
          have z0 : w1.cell? ⟨X, 0, none⟩ = some (.string fn) := (N0h.out.below I1.out.b hXY).cell 0
          have z1 : w1.cell? ⟨X, 1, none⟩ = some (.string fs) := (N0h.out.below I1.out.b hXY).cell 1
          have PU := Lib.hid (fun w8 g cap => (I1.out.below ((Below.refl _ w1).alloc (Nat.le_refl _) (.cells #[.string fn, .string fs] 71))).push (w8 := w8) (g := g) (cap := cap) (x := ⟨fn, fs⟩))
          rw [HJ.out] at PU
          have H1C := Lib.hid (one_ft ⟨fn, fs⟩)
          have OW : Hid (w1.ownsRow Y1 71 2 (.slice ua j uc) j (cellsFT Out)) := Lib.hid (by have := I1.out.o; rw [HJ.out] at this; exact this)
          have hYv : Y1 ≤ w1.heap.size := I1.out.y
          go_wp2_with (at_builtin; refine wpList_append_lies _ rfl (.tmp 26) (.tmp 28) 37 rfl Y1 71 i71 (.agg #[.string ⟨#[]⟩, .string ⟨#[]⟩]) 2 32 Try.underlying37 hi hz0 hz1 hz2 rfl (by decide) (.slice ua j uc) j (cellsFT Out) rfl (World.ownsRow.alloc OW.out _) ⟨w1.heap.size, 0, none⟩ 1 1 (encF ⟨fn, fs⟩) rfl rfl (World.news_of_block (cs := #[.string fn, .string fs]) (heap_alloc_new w1 _)) H1C.out (by decide) (by unfold maxLen; omega) (by omega) (by simp; omega) _ rfl ?_; intro g8 cap8 w8 ho8 hg8 _ _; have I8q := Lib.hid (PU.out w8 g8 cap8 ho8 hg8); clear ho8 hg8)
          have I1n := I8q
          have HJ2 : Hid ((Out ++ [(⟨fn, fs⟩ : FT)]).length = j + 1) := Lib.hid (by rw [List.length_append, HJ.out]; rfl)
          have ST0 : Out ++ [(⟨fn, fs⟩ : FT)] ++ ((bif eq then [] else [⟨xn, xs⟩]) ++ withL f true (L.drop (k + 1))) = W := by
            rw [List.append_assoc]; have := ST.out; rw [HF.out] at this ⊢; exact this
          clear z0 z1 PU H1C OW hYv I1 ST HJ I8q
          have ST := Lib.hid ST0
          clear ST0
          obtain ⟨d0, d1⟩ := CE.out w8 I1n.out.b
          have y0 : w8.cell? ⟨X, 0, none⟩ = some (.string fn) := (N0h.out.below I1n.out.b hXY).cell 0
          go_upto_region 9 with fail
          cases eq
          · have hb2 : (xn.toList != fn.toList) = true := by rw [bne, hb]; rfl
            go_quiet (fail)
            have I2 := Lib.hid (I1n.out.below (below_drewN (Below.refl w8.heap.size w8) nq))
            clear d0 d1 y0 hb hb2 I1n
            generalize w8.drewN nq = w2 at *
            obtain ⟨d0, d1⟩ := CE.out w2 I2.out.b
            have PU := Lib.hid (fun w8 g cap => (I2.out.below ((Below.refl _ w2).alloc (Nat.le_refl _) (.cells #[.string xn, .string xs] 71))).push (w8 := w8) (g := g) (cap := cap) (x := ⟨xn, xs⟩))
            rw [HJ2.out] at PU
            have H1C := Lib.hid (one_ft ⟨xn, xs⟩)
            have OW : Hid (w2.ownsRow Y1 71 2 (.slice (some ⟨g8, 0, none⟩) (j + 1) cap8) (j + 1) (cellsFT (Out ++ [⟨fn, fs⟩]))) := Lib.hid (by have := I2.out.o; rw [HJ2.out] at this; exact this)
            have hYv : Y1 ≤ w2.heap.size := I2.out.y
            go_wp2_with (at_builtin; refine wpList_append_lies _ rfl (.tmp 38) (.tmp 43) 37 rfl Y1 71 i71 (.agg #[.string ⟨#[]⟩, .string ⟨#[]⟩]) 2 32 Try.underlying37 hi hz0 hz1 hz2 rfl (by decide) (.slice (some ⟨g8, 0, none⟩) (j + 1) cap8) (j + 1) (cellsFT (Out ++ [⟨fn, fs⟩])) rfl (World.ownsRow.alloc OW.out _) ⟨w2.heap.size, 0, none⟩ 1 1 (encF ⟨xn, xs⟩) rfl rfl (World.news_of_block (cs := #[.string xn, .string xs]) (heap_alloc_new w2 _)) H1C.out (by decide) (by unfold maxLen; omega) (by omega) (by simp; omega) _ rfl ?_; intro g8 cap8 w8 ho8 hg8 _ _; have I8h := Lib.hid (PU.out w8 g8 cap8 ho8 hg8); clear ho8 hg8)
            go_roundw
            case rel => exact ⟨k + 1, _, true, (Out ++ [⟨fn, fs⟩]) ++ [⟨xn, xs⟩], by go_num, rfl, rfl, by omega, I8h.out, by rw [List.length_append, HJ2.out]; show _ + 1 ≤ _; omega, Lib.hid (by rw [List.append_assoc]; exact ST.out)⟩
            case measure => simp [intOf]; omega
          · have hb2 : (xn.toList != fn.toList) = false := by rw [bne, hb]; rfl
            go_quiet (fail)
            have I2 := Lib.hid (I1n.out.below (below_drewN (Below.refl w8.heap.size w8) nq))
            clear d0 d1 y0 hb hb2 I1n
            generalize w8.drewN nq = w2 at *
            go_wp2_with fail
            go_roundw
            case rel => exact ⟨k + 1, _, true, (Out ++ [⟨fn, fs⟩]), by go_num, rfl, rfl, by omega, I2.out, by rw [HJ2.out]; omega, Lib.hid ST.out⟩
            case measure => simp [intOf]; omega
      · cases lt
        · go_quiet (fail)
          have I1 := Lib.hid (HI.out.below (below_drewN (Below.refl wr.heap.size wr) nq))
          clear c0 c1 z0 z1 HI hlt
          generalize wr.drewN nq = w1 at *
          obtain ⟨d0, d1⟩ := CE.out w1 I1.out.b
          have y0 : w1.cell? ⟨X, 0, none⟩ = some (.string fn) := (N0h.out.below I1.out.b hXY).cell 0
          go_upto_region 9 with fail
          cases eq
          · have hb2 : (xn.toList != fn.toList) = true := by rw [bne, hb]; rfl
            go_quiet (fail)
            have I2 := Lib.hid (I1.out.below (below_drewN (Below.refl w1.heap.size w1) nq))
            clear d0 d1 y0 hb hb2 I1
            generalize w1.drewN nq = w2 at *
            obtain ⟨d0, d1⟩ := CE.out w2 I2.out.b
            have PU := Lib.hid (fun w8 g cap => (I2.out.below ((Below.refl _ w2).alloc (Nat.le_refl _) (.cells #[.string xn, .string xs] 71))).push (w8 := w8) (g := g) (cap := cap) (x := ⟨xn, xs⟩))
            rw [HJ.out] at PU
            have H1C := Lib.hid (one_ft ⟨xn, xs⟩)
            have OW : Hid (w2.ownsRow Y1 71 2 (.slice ua j uc) j (cellsFT Out)) := Lib.hid (by have := I2.out.o; rw [HJ.out] at this; exact this)
            have hYv : Y1 ≤ w2.heap.size := I2.out.y
            go_wp2_with (at_builtin; refine wpList_append_lies _ rfl (.tmp 38) (.tmp 43) 37 rfl Y1 71 i71 (.agg #[.string ⟨#[]⟩, .string ⟨#[]⟩]) 2 32 Try.underlying37 hi hz0 hz1 hz2 rfl (by decide) (.slice ua j uc) j (cellsFT Out) rfl (World.ownsRow.alloc OW.out _) ⟨w2.heap.size, 0, none⟩ 1 1 (encF ⟨xn, xs⟩) rfl rfl (World.news_of_block (cs := #[.string xn, .string xs]) (heap_alloc_new w2 _)) H1C.out (by decide) (by unfold maxLen; omega) (by omega) (by simp; omega) _ rfl ?_; intro g8 cap8 w8 ho8 hg8 _ _; have I8h := Lib.hid (PU.out w8 g8 cap8 ho8 hg8); clear ho8 hg8)
            go_roundw
            case rel => exact ⟨k + 1, _, true, Out ++ [⟨xn, xs⟩], by go_num, rfl, rfl, by omega, I8h.out, by rw [List.length_append, HJ.out]; show _ + 1 ≤ _; omega, Lib.hid (by rw [List.append_assoc]; exact ST.out)⟩
            case measure => simp [intOf]; omega
          · have hb2 : (xn.toList != fn.toList) = false := by rw [bne, hb]; rfl
            go_quiet (fail)
            have I2 := Lib.hid (I1.out.below (below_drewN (Below.refl w1.heap.size w1) nq))
            clear d0 d1 y0 hb hb2 I1
            generalize w1.drewN nq = w2 at *
            go_wp2_with fail
            go_roundw
            case rel => exact ⟨k + 1, _, true, Out, by go_num, rfl, rfl, by omega, I2.out, by rw [HJ.out]; omega, Lib.hid ST.out⟩
            case measure => simp [intOf]; omega
        · go_quiet (fail)
          have I1 := Lib.hid (HI.out.below (below_drewN (Below.refl wr.heap.size wr) nq))
          clear c0 c1 z0 z1 HI hlt
          generalize wr.drewN nq = w1 at *
          obtain ⟨d0, d1⟩ := CE.out w1 I1.out.b
          have y0 : w1.cell? ⟨X, 0, none⟩ = some (.string fn) := (N0h.out.below I1.out.b hXY).cell 0
          go_upto_region 9 with fail
          cases eq
          · have hb2 : (xn.toList != fn.toList) = true := by rw [bne, hb]; rfl
            go_quiet (fail)
            have I2 := Lib.hid (I1.out.below (below_drewN (Below.refl w1.heap.size w1) nq))
            clear d0 d1 y0 hb hb2 I1
            generalize w1.drewN nq = w2 at *
            obtain ⟨d0, d1⟩ := CE.out w2 I2.out.b
            have PU := Lib.hid (fun w8 g cap => (I2.out.below ((Below.refl _ w2).alloc (Nat.le_refl _) (.cells #[.string xn, .string xs] 71))).push (w8 := w8) (g := g) (cap := cap) (x := ⟨xn, xs⟩))
            rw [HJ.out] at PU
            have H1C := Lib.hid (one_ft ⟨xn, xs⟩)
            have OW : Hid (w2.ownsRow Y1 71 2 (.slice ua j uc) j (cellsFT Out)) := Lib.hid (by have := I2.out.o; rw [HJ.out] at this; exact this)
            have hYv : Y1 ≤ w2.heap.size := I2.out.y
            go_wp2_with (at_builtin; refine wpList_append_lies _ rfl (.tmp 38) (.tmp 43) 37 rfl Y1 71 i71 (.agg #[.string ⟨#[]⟩, .string ⟨#[]⟩]) 2 32 Try.underlying37 hi hz0 hz1 hz2 rfl (by decide) (.slice ua j uc) j (cellsFT Out) rfl (World.ownsRow.alloc OW.out _) ⟨w2.heap.size, 0, none⟩ 1 1 (encF ⟨xn, xs⟩) rfl rfl (World.news_of_block (cs := #[.string xn, .string xs]) (heap_alloc_new w2 _)) H1C.out (by decide) (by unfold maxLen; omega) (by omega) (by simp; omega) _ rfl ?_; intro g8 cap8 w8 ho8 hg8 _ _; have I8h := Lib.hid (PU.out w8 g8 cap8 ho8 hg8); clear ho8 hg8)
            go_roundw
            case rel => exact ⟨k + 1, _, true, Out ++ [⟨xn, xs⟩], by go_num, rfl, rfl, by omega, I8h.out, by rw [List.length_append, HJ.out]; show _ + 1 ≤ _; omega, Lib.hid (by rw [List.append_assoc]; exact ST.out)⟩
            case measure => simp [intOf]; omega
          · have hb2 : (xn.toList != fn.toList) = false := by rw [bne, hb]; rfl
            go_quiet (fail)
            have I2 := Lib.hid (I1.out.below (below_drewN (Below.refl w1.heap.size w1) nq))
            clear d0 d1 y0 hb hb2 I1
            generalize w1.drewN nq = w2 at *
            go_wp2_with fail
            go_roundw
            case rel => exact ⟨k + 1, _, true, Out, by go_num, rfl, rfl, by omega, I2.out, by rw [HJ.out]; omega, Lib.hid ST.out⟩
            case measure => simp [intOf]; omega
    · obtain rfl : k = n := by omega
      have hE2 := hE.out
      rw [List.drop_of_length_le (by rw [HN.out]; exact Nat.le_refl _)] at hE2
      have hw := HWl.out
      clear hE
      cases inn
      · have hE3 : Out ++ [(⟨fn, fs⟩ : FT)] = W := by rw [← hE2, HF.out]; rfl
        have E3 := Lib.hid hE3
        clear hE2 hE3 hw
        have PU := Lib.hid (fun w8 g cap => (HI.out.below ((Below.refl _ wr).alloc (Nat.le_refl _) (.cells #[.string fn, .string fs] 71))).push (w8 := w8) (g := g) (cap := cap) (x := ⟨fn, fs⟩))
        rw [HJ.out] at PU
        have H1C := Lib.hid (one_ft ⟨fn, fs⟩)
        have OW : Hid (wr.ownsRow Y1 71 2 (.slice ua j uc) j (cellsFT Out)) := Lib.hid (by have := HI.out.o; rw [HJ.out] at this; exact this)
        have hYv : Y1 ≤ wr.heap.size := HI.out.y
        go_wp2_with (at_builtin; refine wpList_append_lies _ rfl (.tmp 47) (.tmp 49) 37 rfl Y1 71 i71 (.agg #[.string ⟨#[]⟩, .string ⟨#[]⟩]) 2 32 Try.underlying37 hi hz0 hz1 hz2 rfl (by decide) (.slice ua j uc) j (cellsFT Out) rfl (World.ownsRow.alloc OW.out _) ⟨wr.heap.size, 0, none⟩ 1 1 (encF ⟨fn, fs⟩) rfl rfl (World.news_of_block (cs := #[.string fn, .string fs]) (heap_alloc_new wr _)) H1C.out (by decide) (by unfold maxLen; omega) (by omega) (by simp; omega) _ rfl ?_; intro g8 cap8 w8 ho8 hg8 _ _; have I8h := Lib.hid (PU.out w8 g8 cap8 ho8 hg8); clear ho8 hg8)
        go_ret
        exact RE.out _ _ _ _ (by rw [← E3.out, List.length_append, HJ.out]; rfl) (by rw [← E3.out]; exact I8h.out)
      · have hE3 : Out = W := by rw [← hE2]; exact (List.append_nil _).symm
        have E3 := Lib.hid hE3
        clear hE2 hE3 hw
        go_wp2_with fail
        go_ret
        exact RE.out _ _ _ _ (by rw [← E3.out]; exact HJ.out.symm) (by rw [← E3.out]; exact HI.out)
end Go.Proofs.Ytejmoaloomnmkaa
