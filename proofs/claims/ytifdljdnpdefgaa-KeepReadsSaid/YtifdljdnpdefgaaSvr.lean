/-
  RUNS OFF A TAPE, one behind the other.
-/
import Derived.Test.YtifdljdnpdefgaaTkr
import Derived.Test.YtifdljdnpdefgaaCnw
namespace Go.Proofs.Ytifdljdnpdefgaa
open Go.RowKit
set_option maxHeartbeats 4000000 in
set_option maxRecDepth 100000 in
theorem clo2_any {w : World} {tb b : Nat} {t : Tp} (hx : Blk w tb 52 #[.pointer (some ⟨b, 0, none⟩)]) (h : Bt.TapeAt w b t.1 t.2) (hs : t.1.size ≤ 281474976710656) (hn : tb ≠ b) :
    Calls Try.prog 23 #[.pointer (some ⟨tb, 0, none⟩)] w fun e w' => ∃ q c, e = .returned (.agg #[.int .i64 (pRun t).1.b, .int .i64 (pRun t).1.t, .int .i64 (pRun t).1.s, .int .u64 (pRun t).1.n, .slice q (pRun t).1.P.length c]) ∧ IntsB w' w.heap.size q (pRun t).1.P ∧ (pRun t).1.P.length ≤ c ∧ Blk w' tb 52 #[.pointer (some ⟨b, 0, none⟩)] ∧ Bt.TapeAt w' b (pRun t).2.1 (pRun t).2.2 ∧ Fr w w' (fun q => q = b) := by
  have hb := h.lt
  have TR := Lib.hid (fun W (hT : Bt.TapeAt W b t.1 t.2) => takeRun_any hT hs)
  generalize pRun t = R at *
  obtain ⟨⟨rb, rt, rs, rn, P⟩, t2⟩ := R
  simp only at TR ⊢
  generalize P.length = m at *
  have f0 := (Fr.refl w (fun q => q = b)).al (.cells #[.int .i64 0, .int .i64 0, .int .i64 0, .int .u64 0, .slice none 0 0] 46)
  have TA := Lib.hid (h.al2 (.cells #[.int .i64 0, .int .i64 0, .int .i64 0, .int .u64 0, .slice none 0 0] 46))
  have XA := Lib.hid (Blk.al hx (.cells #[.int .i64 0, .int .i64 0, .int .i64 0, .int .u64 0, .slice none 0 0] 46))
  have KA := Lib.hid (Blk.new w 46 #[.int .i64 0, .int .i64 0, .int .i64 0, .int .u64 0, .slice none 0 0])
  have F0 := Lib.hid f0
  have c0 : (w.alloc (.cells #[.int .i64 0, .int .i64 0, .int .i64 0, .int .u64 0, .slice none 0 0] 46)).cell? ⟨tb, 0, none⟩ = some (.pointer (some ⟨b, 0, none⟩)) := XA.out.cell 0
  have hxl := hx.lt
  clear h hx f0
  go_enter Try.func23, Try.ntmps23
  go_wp2_with fail
  generalize hW : w.alloc (.cells #[.int .i64 0, .int .i64 0, .int .i64 0, .int .u64 0, .slice none 0 0] 46) = W at *
  have HZ : Hid (w.heap.size ≤ W.heap.size) := Lib.hid F0.out.size
  clear hW
  generalize hY : w.heap.size = Y at *
  refine (TR.out _ TA.out).mono ?_
  rintro e w1 ⟨q, c, rfl, iq, lq, t1, f1⟩
  have IQ := Lib.hid iq
  have T1 := Lib.hid t1
  have K1 := Lib.hid (KA.out.fr f1 (by omega))
  have X1 := Lib.hid (XA.out.fr f1 hn)
  have F1 := Lib.hid (F0.out.on f1)
  have hK := KA.out.lt
  clear iq t1 f1 c0 TA XA KA F0 TR
  have z0 := K1.out.cell 0
  have z1 := K1.out.cell 1
  have z2 := K1.out.cell 2
  have z3 := K1.out.cell 3
  have z4 := K1.out.cell 4
  simp only [List.getElem?_toArray, List.getElem?_cons_zero, List.getElem?_cons_succ] at z0 z1 z2 z3 z4
  have zf0 := K1.out.free 0
  have zf1 := K1.out.free 1
  have zf2 := K1.out.free 2
  have zf3 := K1.out.free 3
  have zf4 := K1.out.free 4
  go_wp2_with fail
  have E5 : Hid (Blk (((((w1.setCell ⟨Y, 0, none⟩ (.int .i64 rb)).setCell ⟨Y, 1, none⟩ (.int .i64 rt)).setCell ⟨Y, 2, none⟩ (.int .i64 rs)).setCell ⟨Y, 3, none⟩ (.int .u64 rn)).setCell ⟨Y, 4, none⟩ (.slice q m c)) Y 46 #[.int .i64 rb, .int .i64 rt, .int .i64 rs, .int .u64 rn, .slice q m c]) := Lib.hid (((((K1.out.set 0 _).set 1 _).set 2 _).set 3 _).set 4 _)
  have FS : Fr w1 (((((w1.setCell ⟨Y, 0, none⟩ (.int .i64 rb)).setCell ⟨Y, 1, none⟩ (.int .i64 rt)).setCell ⟨Y, 2, none⟩ (.int .i64 rs)).setCell ⟨Y, 3, none⟩ (.int .u64 rn)).setCell ⟨Y, 4, none⟩ (.slice q m c)) (fun q => q = Y) := (((((Fr.refl w1 (fun q => q = Y)).set Y 0 _ (.inl rfl)).set Y 1 _ (.inl rfl)).set Y 2 _ (.inl rfl)).set Y 3 _ (.inl rfl)).set Y 4 _ (.inl rfl)
  have FSh := Lib.hid FS
  clear FS z0 z1 z2 z3 z4 zf0 zf1 zf2 zf3 zf4
  generalize ((((w1.setCell ⟨Y, 0, none⟩ (.int .i64 rb)).setCell ⟨Y, 1, none⟩ (.int .i64 rt)).setCell ⟨Y, 2, none⟩ (.int .i64 rs)).setCell ⟨Y, 3, none⟩ (.int .u64 rn)).setCell ⟨Y, 4, none⟩ (.slice q m c) = w5 at *
  have q0 : w5.cell? ⟨Y, 0, none⟩ = some (.int .i64 rb) := E5.out.cell 0
  have q1 : w5.cell? ⟨Y, 1, none⟩ = some (.int .i64 rt) := E5.out.cell 1
  have q2 : w5.cell? ⟨Y, 2, none⟩ = some (.int .i64 rs) := E5.out.cell 2
  have q3 : w5.cell? ⟨Y, 3, none⟩ = some (.int .u64 rn) := E5.out.cell 3
  have q4 : w5.cell? ⟨Y, 4, none⟩ = some (.slice q m c) := E5.out.cell 4
  refine bodyPost_ret (by simp [results, Try.results23, go_sem, q0, q1, q2, q3, q4]; try rfl) rfl ?_
  refine ⟨q, c, rfl, ?_, lq, X1.out.fr FSh.out (by omega), T1.out.fr2 FSh.out (by omega), F1.out.trans FSh.out (fun _ _ h => h) (fun q hq e => by omega)⟩
  exact (IQ.out.keep (fun g cur hg hh => FSh.out.block g (Array.getElem?_eq_some_iff.1 hh).1 (by omega))).low (by rw [hY]; exact HZ.out)
theorem info46 : (Try.prog.info? 46).map (fun i => (i.zero, i.size, i.bytes)) = some (some (.agg #[.int .i64 0, .int .i64 0, .int .i64 0, .int .u64 0, .slice none 0 0]), 5, 56) := by kernel_rfl
theorem r46_form {w : World} {B : Nat} {v : Value} {n : Nat} {xs : List Value} (h : w.ownsRow B 46 5 v n xs) : ∃ a c, v = .slice a n c := by
  rcases h.2 with ⟨rfl, e⟩ | ⟨g, cap, cur, rfl, _⟩
  · exact ⟨none, 0, by rw [e]⟩
  · exact ⟨_, _, rfl⟩
theorem one_run (rb rt rs rn : Int) (q : Option Addr) (m c : Nat) : ∀ u ∈ [Value.int .i64 rb, .int .i64 rt, .int .i64 rs, .int .u64 rn, .slice q m c], u.oneCell' = true := by
  intro u hu
  simp at hu
  rcases hu with rfl | rfl | rfl | rfl | rfl <;> rfl
/-- the picks of runs that were taken: each in a block of its own kind -/
def PksB (w : World) (B : Nat) (M : List RC) : Prop := ∀ x ∈ M, IntsB w B x.q x.r.P ∧ x.r.P.length ≤ x.c
theorem PksB.pks {w : World} {B : Nat} {M : List RC} (h : PksB w B M) : Pks w M := fun x hx => ⟨(h x hx).1.ints, (h x hx).2⟩
/-- in the round over runs: what is owned, the tape, and the world ahead -/
structure Srm (w wq : World) (tb b : Nat) (M : List RC) (t : Tp) (v : Value) : Prop where
  own : wq.ownsRow w.heap.size 46 5 v M.length (cellsR M)
  p : PksB wq w.heap.size M
  x : Blk wq tb 52 #[.pointer (some ⟨b, 0, none⟩)]
  t : Bt.TapeAt wq b t.1 t.2
  f : Fr w wq (fun q => q = b)
theorem size_al (w : World) (o : Obj) : (w.alloc o).heap.size = w.heap.size + 1 := by simp
theorem Srm.run {w wq w2 : World} {tb b : Nat} {M : List RC} {t t2 : Tp} {v : Value} (h : Srm w wq tb b M t v) (f : Fr wq w2 (fun q => q = b)) (x : Blk w2 tb 52 #[.pointer (some ⟨b, 0, none⟩)]) (ht : Bt.TapeAt w2 b t2.1 t2.2) (hb : b < w.heap.size) : Srm w w2 tb b M t2 v :=
  ⟨Fr.own h.own f (fun q e => by omega), fun y hy => ⟨(h.p y hy).1.keep (fun g cur hg hh => f.block g (Array.getElem?_eq_some_iff.1 hh).1 (by omega)), (h.p y hy).2⟩, x, ht, h.f.on f⟩
theorem Srm.push {w w2 w3 : World} {tb b : Nat} {M : List RC} {t : Tp} {v v3 : Value} (h : Srm w w2 tb b M t v) (rb rt rs rn : Int) (q : Option Addr) (P : List Int) (c : Nat) (hi : IntsB w2 w.heap.size q P) (hl : P.length ≤ c)
    (ho : w3.ownsRow w.heap.size 46 5 v3 (M.length + 1) (cellsR M ++ [.int .i64 rb, .int .i64 rt, .int .i64 rs, .int .u64 rn, .slice q P.length c]))
    (hg : (w2.alloc (.cells #[.int .i64 rb, .int .i64 rt, .int .i64 rs, .int .u64 rn, .slice q P.length c] 46)).grownBy w3 v.ownBlock) (hb : b < w.heap.size) (htb : tb < w.heap.size) : Srm w w3 tb b (M ++ [⟨⟨rb, rt, rs, rn, P⟩, q, c⟩]) t v3 := by
  have ow : ∀ g, v.ownBlock = some g → w.heap.size ≤ g ∧ ∃ cur, w2.heap[g]? = some (.cells cur 46 (0, 0)) := fun g hg => by
    refine ⟨(World.ownsRow.lt h.own g hg).1, ?_⟩
    rcases h.own.2 with ⟨rfl, _⟩ | ⟨g', cap, cur, rfl, _, hh, _⟩
    · cases hg
    · cases hg
      exact ⟨cur, hh⟩
  have bl : ∀ g, g < w2.heap.size → v.ownBlock ≠ some g → w3.heap[g]? = w2.heap[g]? := fun g hg2 hn => by
    rw [hg.block g (by rw [size_al]; omega) (fun e => hn e.symm)]
    exact ((Below.refl w2.heap.size w2).alloc (Nat.le_refl _) _).block g hg2
  have lo : ∀ g, g < w.heap.size → w3.heap[g]? = w2.heap[g]? := fun g hg2 => bl g (Nat.lt_of_lt_of_le hg2 h.f.size) (fun e => by have := (ow g e).1; omega)
  have kp : ∀ {a : Option Addr} {xs : List Int}, IntsB w2 w.heap.size a xs → IntsB w3 w.heap.size a xs := fun hx => hx.keep (fun g cur hgB hh => bl g (Array.getElem?_eq_some_iff.1 hh).1 (fun e => by
    obtain ⟨_, cur2, h2⟩ := ow g e
    rw [hh] at h2
    cases h2))
  refine ⟨?_, ?_, (lo tb htb).trans h.x, (lo b hb).trans h.t, ?_⟩
  · rw [List.length_append, cellsR_one]
    exact ho
  · intro y hy
    rcases List.mem_append.1 hy with hy | hy
    · exact ⟨kp (h.p y hy).1, (h.p y hy).2⟩
    · simp only [List.mem_singleton] at hy
      subst hy
      exact ⟨kp hi, hl⟩
  · have hs : w2.heap.size ≤ w3.heap.size := by have := hg.size; rw [size_al] at this; omega
    exact ⟨hg.os.trans h.f.os, hg.tape.trans h.f.tape, hg.output.trans h.f.output, Nat.le_trans h.f.size hs, fun g hg2 hn => (lo g hg2).trans (h.f.block g hg2 hn)⟩
theorem pRuns_le (k : Nat) (t : Tp) : (pRuns k t).2.1.size ≤ t.1.size := by
  have one : ∀ t : Tp, (pRun t).2.1.size ≤ t.1.size := fun t => by
    have l1 := pn_le t
    have l2 := pn_le (pn t).2
    have l3 := pn_le (pn (pn t).2).2
    have l4 := pn_le (pn (pn (pn t).2).2).2
    have l5 := pn_le (pn (pn (pn (pn t).2).2).2).2
    unfold pRun
    split
    · simp only; omega
    · have l6 := pIter_le (min ((pn (pn (pn (pn (pn t).2).2).2).2).1 - 1) 15) (wrap64 (pn t).1) (pn (pn (pn (pn (pn t).2).2).2).2).2
      simp only; omega
  induction k with
  | zero => exact Nat.le_refl _
  | succ k ih => exact Nat.le_trans (one _) ih
set_option maxHeartbeats 8000000 in
set_option maxRecDepth 100000 in
theorem several_run {w : World} {tb b : Nat} {t : Tp} (N : Nat) (hN : N < 18446744073709551616) (hx : Blk w tb 52 #[.pointer (some ⟨b, 0, none⟩)]) (ht : Bt.TapeAt w b t.1 t.2) (hs : t.1.size ≤ 281474976710656) (hn : tb ≠ b) :
    Calls Try.prog 22 #[.int .u64 (N : Int), .int .i64 64, .func (.func 23) #[] #[.pointer (some ⟨tb, 0, none⟩)]] w fun e w' => ∃ v M, e = .returned v ∧ M.map RC.r = (pRuns (min N 65) t).1 ∧ Srm w w' tb b M (pRuns (min N 65) t).2 v := by
  have S0 : Hid (Srm w w tb b [] (pRuns 0 t).2 (.slice none 0 0)) := Lib.hid ⟨World.ownsRow_nil _ _ _ _, fun y hy => by simp at hy, hx, ht, Fr.refl _ _⟩
  have htb := hx.lt
  have hb := ht.lt
  have CL := Lib.hid (fun j W (h1 : Blk W tb 52 #[.pointer (some ⟨b, 0, none⟩)]) (h2 : Bt.TapeAt W b (pRuns j t).2.1 (pRuns j t).2.2) => clo2_any h1 h2 (Nat.le_trans (pRuns_le j t) hs) hn)
  obtain ⟨i46, hi46, hz46, hz46b, hz46c⟩ := info_parts info46
  clear hx ht
  by_cases hN15 : N ≤ 65
  · rw [show min N 65 = N by omega]
    have hNI : (N : Int) ≤ 65 := by omega
    go_enter Try.func22, Try.ntmps22
    go_wp2_with fail
    go_loopw [7, 13] (fun v i wq => ∃ (j : Nat) (M : List RC), i = .int .u64 (j : Int) ∧ j ≤ N ∧ M.length = j ∧ M.map RC.r = (pRuns j t).1 ∧ Srm w wq tb b M (pRuns j t).2 v) (fun _ i _ => N - (intOf i).toNat)
    case atStart => exact ⟨0, [], rfl, Nat.zero_le _, rfl, rfl, S0.out⟩
    case round =>
      obtain ⟨j, M, rfl, hj, hMl, hMr, hS⟩ := hrel
      have HS := Lib.hid hS
      have HM := Lib.hid hMr
      have HML := Lib.hid hMl
      have hmb : M.length ≤ 65 := by omega
      clear hS hMr S0 hMl
      by_cases hjn : j < N
      · have l1 : (j : Int) < (N : Int) := by omega
        have CJ := Lib.hid (CL.out j wr HS.out.x HS.out.t)
        have NX : Hid ((pRuns (j + 1) t).1 = (pRuns j t).1 ++ [(pRun (pRuns j t).2).1] ∧ (pRuns (j + 1) t).2 = (pRun (pRuns j t).2).2) := Lib.hid ⟨rfl, rfl⟩
        clear CL
        generalize pRun (pRuns j t).2 = R at *
        generalize (pRuns j t).2 = t1 at *
        obtain ⟨⟨rb, rt, rs, rn, P⟩, t2⟩ := R
        simp only at CJ NX
        obtain ⟨va, vc, hv⟩ := r46_form HS.out.own
        subst hv
        go_wp2_with (first
          | (go_at_call 23; refine CJ.out.mono ?_; rintro e w2 ⟨q, c, rfl, iq, lq, x2, t2', f2⟩; have S2 := Lib.hid (HS.out.run f2 x2 t2' hb); have IQ := Lib.hid (iq.low HS.out.f.size); have LQ := Lib.hid lq; have Z2 := Lib.hid S2.out.f.size; clear iq lq x2 t2' f2)
          | (at_builtin; refine wpList_append_own _ rfl (.tmp 15) (.tmp 18) 22 rfl w.heap.size 46 i46 (.agg #[.int .i64 0, .int .i64 0, .int .i64 0, .int .u64 0, .slice none 0 0]) 5 56 Try.underlying22 hi46 hz46 hz46b hz46c rfl (by decide) (.slice va M.length vc) M.length _ rfl (World.ownsRow.alloc S2.out.own _) ⟨w2.heap.size, 0, none⟩ 1 1 [.int .i64 rb, .int .i64 rt, .int .i64 rs, .int .u64 rn, .slice q P.length c] rfl rfl (World.news_of_block (cs := #[.int .i64 rb, .int .i64 rt, .int .i64 rs, .int .u64 rn, .slice q P.length c]) (heap_alloc_new w2 _)) (one_run rb rt rs rn q P.length c) (by unfold maxLen; omega) (by omega) (by rw [size_al]; exact Nat.le_succ_of_le Z2.out) ?_; intro v3 w3 ho3 hg3 _; have S3 := Lib.hid (S2.out.push rb rt rs rn q P c IQ.out LQ.out ho3 hg3 hb htb); clear ho3 hg3))
        have S4 : Hid (Srm w w3 tb b (M ++ [⟨⟨rb, rt, rs, rn, P⟩, q, c⟩]) (pRuns (j + 1) t).2 v3) := Lib.hid (by rw [NX.out.2]; exact S3.out)
        have M4 : Hid ((M ++ [RC.mk (Rn.mk rb rt rs rn P) q c]).map RC.r = (pRuns (j + 1) t).1) := Lib.hid (by rw [NX.out.1, List.map_append, HM.out]; rfl)
        clear S3 S2 HS IQ LQ NX Z2 HM
        go_roundw
        case rel => exact ⟨j + 1, _, by go_num, by omega, by rw [List.length_append, HML.out]; rfl, M4.out, S4.out⟩
        case measure => simp [intOf]; omega
      · obtain rfl : j = N := by omega
        obtain ⟨va, vc, hv⟩ := r46_form HS.out.own
        subst hv
        go_wp2_with fail
        go_ret
        exact ⟨_, M, rfl, HM.out, HS.out⟩
  · rw [show min N 65 = 65 by omega]
    have hNI : (65 : Int) < (N : Int) := by omega
    go_enter Try.func22, Try.ntmps22
    go_wp2_with fail
    go_loopw [7, 13] (fun v i wq => ∃ (j : Nat) (M : List RC), i = .int .u64 (j : Int) ∧ j ≤ 65 ∧ M.length = j ∧ M.map RC.r = (pRuns j t).1 ∧ Srm w wq tb b M (pRuns j t).2 v) (fun _ i _ => 65 - (intOf i).toNat)
    case atStart => exact ⟨0, [], rfl, Nat.zero_le _, rfl, rfl, S0.out⟩
    case round =>
      obtain ⟨j, M, rfl, hj, hMl, hMr, hS⟩ := hrel
      have HS := Lib.hid hS
      have HM := Lib.hid hMr
      have HML := Lib.hid hMl
      have hmb : M.length ≤ 65 := by omega
      clear hS hMr S0 hMl
      by_cases hjn : j < 65
      · have l1 : (j : Int) < 65 := by omega
        have CJ := Lib.hid (CL.out j wr HS.out.x HS.out.t)
        have NX : Hid ((pRuns (j + 1) t).1 = (pRuns j t).1 ++ [(pRun (pRuns j t).2).1] ∧ (pRuns (j + 1) t).2 = (pRun (pRuns j t).2).2) := Lib.hid ⟨rfl, rfl⟩
        clear CL
        generalize pRun (pRuns j t).2 = R at *
        generalize (pRuns j t).2 = t1 at *
        obtain ⟨⟨rb, rt, rs, rn, P⟩, t2⟩ := R
        simp only at CJ NX
        obtain ⟨va, vc, hv⟩ := r46_form HS.out.own
        subst hv
        go_wp2_with (first
          | (go_at_call 23; refine CJ.out.mono ?_; rintro e w2 ⟨q, c, rfl, iq, lq, x2, t2', f2⟩; have S2 := Lib.hid (HS.out.run f2 x2 t2' hb); have IQ := Lib.hid (iq.low HS.out.f.size); have LQ := Lib.hid lq; have Z2 := Lib.hid S2.out.f.size; clear iq lq x2 t2' f2)
          | (at_builtin; refine wpList_append_own _ rfl (.tmp 15) (.tmp 18) 22 rfl w.heap.size 46 i46 (.agg #[.int .i64 0, .int .i64 0, .int .i64 0, .int .u64 0, .slice none 0 0]) 5 56 Try.underlying22 hi46 hz46 hz46b hz46c rfl (by decide) (.slice va M.length vc) M.length _ rfl (World.ownsRow.alloc S2.out.own _) ⟨w2.heap.size, 0, none⟩ 1 1 [.int .i64 rb, .int .i64 rt, .int .i64 rs, .int .u64 rn, .slice q P.length c] rfl rfl (World.news_of_block (cs := #[.int .i64 rb, .int .i64 rt, .int .i64 rs, .int .u64 rn, .slice q P.length c]) (heap_alloc_new w2 _)) (one_run rb rt rs rn q P.length c) (by unfold maxLen; omega) (by omega) (by rw [size_al]; exact Nat.le_succ_of_le Z2.out) ?_; intro v3 w3 ho3 hg3 _; have S3 := Lib.hid (S2.out.push rb rt rs rn q P c IQ.out LQ.out ho3 hg3 hb htb); clear ho3 hg3))
        have S4 : Hid (Srm w w3 tb b (M ++ [⟨⟨rb, rt, rs, rn, P⟩, q, c⟩]) (pRuns (j + 1) t).2 v3) := Lib.hid (by rw [NX.out.2]; exact S3.out)
        have M4 : Hid ((M ++ [RC.mk (Rn.mk rb rt rs rn P) q c]).map RC.r = (pRuns (j + 1) t).1) := Lib.hid (by rw [NX.out.1, List.map_append, HM.out]; rfl)
        clear S3 S2 HS IQ LQ NX Z2 HM
        go_roundw
        case rel => exact ⟨j + 1, _, by go_num, by omega, by rw [List.length_append, HML.out]; rfl, M4.out, S4.out⟩
        case measure => simp [intOf]; omega
      · obtain rfl : j = 65 := by omega
        obtain ⟨va, vc, hv⟩ := r46_form HS.out.own
        subst hv
        go_wp2_with fail
        go_ret
        exact ⟨_, M, rfl, HM.out, HS.out⟩
end Go.Proofs.Ytifdljdnpdefgaa
