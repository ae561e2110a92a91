/-
  Reading a book, plainly; takeMatch 32.
-/
import Derived.Test.YtlcgicgdlhnfoaaBmi
import Derived.Test.YtlcgicgdlhnfoaaBOne
import Derived.Test.YtlcgicgdlhnfoaaBRefs
namespace Go.Proofs.Ytlcgicgdlhnfoaa
open Go.RowKit
abbrev Tp := ByteArray × Int
/-- a number off a tape -/
def pn (t : Tp) : Nat × Tp := Bt.tNum t.1 t.2
def pNs : Nat → Tp → List Int × Tp
  | 0, t => ([], t)
  | k + 1, t => ((pNs k t).1 ++ [IntKind.i64.wrap ((pn (pNs k t).2).1 : Int)], (pn (pNs k t).2).2)
/-- a match off a tape -/
def pMt (t : Tp) : List Int × Tp := pNs (min (pn t).1 17) (pn t).2
theorem pNs_len (k : Nat) (t : Tp) : (pNs k t).1.length = k := by
  induction k with
  | zero => rfl
  | succ k ih => show ((pNs k t).1 ++ [_]).length = _; rw [List.length_append, ih]; rfl
theorem pn_le (t : Tp) : (pn t).2.1.size ≤ t.1.size := by
  unfold pn Bt.tNum
  by_cases he : t.2 = 0
  · rw [he]
    rcases hR : Bt.rdNum t.1.data.toList with ⟨v, k, e⟩
    by_cases h : e = 0
    · subst h
      rw [Bt.tk_ok]
      show (t.1.extract k t.1.size).size ≤ _
      rw [ByteArray.size_extract]; omega
    · rw [Bt.tk_bad _ _ _ _ h]; exact Nat.le_refl _
  · rw [Bt.tk_stays _ _ _ he]; exact Nat.le_refl _
theorem pNs_le (k : Nat) (t : Tp) : (pNs k t).2.1.size ≤ t.1.size := by
  induction k with
  | zero => exact Nat.le_refl _
  | succ k ih => exact Nat.le_trans (pn_le _) ih
theorem pMt_le (t : Tp) : (pMt t).2.1.size ≤ t.1.size := Nat.le_trans (pNs_le _ _) (pn_le t)
theorem pn_lt (t : Tp) : (pn t).1 < 18446744073709551616 := Bt.tNum_lt t.1 t.2
theorem tape_num {w : World} {b : Nat} {t : Tp} (h : Bt.TapeAt w b t.1 t.2) (hs : t.1.size ≤ 281474976710656) :
    Calls Try.prog 31 #[.pointer (some ⟨b, 0, none⟩)] w fun r w' => r = .returned (.int .u64 ((pn t).1 : Int)) ∧ Fr w w' (fun q => q = b) ∧ Bt.TapeAt w' b (pn t).2.1 (pn t).2.2 :=
  (Bt.tapeNum_any h hs).mono fun r w' ⟨h1, h2, h3⟩ => ⟨h1, (Fr.of_grown h2).mono (fun q _ e => by cases e; rfl), h3⟩
theorem tape_fr {w w' : World} {b : Nat} {s : ByteArray} {e : Int} {P : Nat → Prop} (h : Bt.TapeAt w b s e) (f : Fr w w' P) (hP : ¬ P b) : Bt.TapeAt w' b s e := (f.block b h.lt hP).trans h
/-- taking a match: between two picks -/
structure Tkm (w wr : World) (b : Nat) (t : Tp) (xs : List Int) (v : Value) : Prop where
  y : Blk wr w.heap.size 37 #[.slice none 0 0]
  m : Blk wr (w.heap.size + 1) 37 #[v]
  o : OwnN wr (w.heap.size + 2) v xs
  t : Bt.TapeAt wr b t.1 t.2
  f : Fr w wr (fun q => q = b)
theorem one_int (x : Int) : ∀ u ∈ [Value.int .i64 x], u.oneCell' = true := fun u hu => by rw [List.mem_singleton.1 hu]; rfl
theorem news_int (W : World) (x : Int) : ∀ j u, ([Value.int .i64 x] : List Value)[j]? = some u → (W.alloc (.cells #[.int .i64 x] 3)).cell? ((⟨W.heap.size, 0, none⟩ : Addr).add j) = some u := by
  intro j u hj
  match j, hj with
  | 0, hj => rw [addr_add, (Blk.new W 3 #[.int .i64 x]).cell]; exact hj
/-- a pick is put behind the others -/
theorem Tkm.push {w w2 w3 : World} {b : Nat} {t : Tp} {xs : List Int} {v v' : Value} {x : Int} (h : Tkm w w2 b t xs v)
    (hown : w3.ownsRow (w.heap.size + 2) 3 1 v' (xs.length + 1) (xs.map (Value.int .i64) ++ [.int .i64 x])) (hg : (w2.alloc (.cells #[.int .i64 x] 3)).grownBy w3 v.ownBlock) (hb : b < w.heap.size) :
    Blk w3 (w.heap.size + 1) 37 #[v] ∧ Tkm w (w3.setCell ⟨w.heap.size + 1, 0, none⟩ v') b t (xs ++ [x]) v' := by
  have bA : Below w2.heap.size w2 (w2.alloc (.cells #[.int .i64 x] 3)) := (Below.refl _ _).alloc (Nat.le_refl _) _
  have f3 : Fr w2 w3 (fun q => v.ownBlock = some q) := (Fr.of_below bA _).on ((Fr.of_grown hg).mono (fun q _ e => e.symm))
  have hv : ∀ q, v.ownBlock = some q → w.heap.size + 2 ≤ q := fun q hq => (h.o.ge q hq).1
  have hv' : ∀ q, v'.ownBlock = some q → w.heap.size + 2 ≤ q := fun q hq => (World.ownsRow.lt hown q hq).1
  have m3 := h.m.fr f3 (fun e => by have := hv _ e; omega)
  have fs := fr_set w3 (w.heap.size + 1) 0 v'
  have t3 := tape_fr h.t f3 (fun e => by have := hv _ e; omega)
  have F : Fr w (w3.setCell ⟨w.heap.size + 1, 0, none⟩ v') (fun q => q = b) := (h.f.trans f3 (fun _ _ h => h) (fun q hq e => by have := hv q e; omega)).trans fs (fun _ _ h => h) (fun q hq e => by omega)
  refine ⟨m3, (h.y.fr f3 (fun e => by have := hv _ e; omega)).fr fs (by omega), m3.set 0 v', ?_, tape_fr t3 fs (by omega), F⟩
  have o4 := Fr.own hown fs (fun q hq e => by have := hv' q hq; omega)
  unfold OwnN
  rw [List.length_append, List.map_append]
  exact o4
/-- what takeMatch leaves -/
def Tkd (w : World) (b : Nat) (t : Tp) (e : Ending) (w' : World) : Prop := ∃ u, e = .returned (.agg #[u]) ∧ OwnN w' w.heap.size u (pMt t).1 ∧ Bt.TapeAt w' b (pMt t).2.1 (pMt t).2.2 ∧ Fr w w' (fun q => q = b)
set_option maxHeartbeats 8000000 in
set_option maxRecDepth 100000 in
theorem take_any {w : World} {b : Nat} {t : Tp} (h : Bt.TapeAt w b t.1 t.2) (hs : t.1.size ≤ 281474976710656) : Calls Try.prog 32 #[.pointer (some ⟨b, 0, none⟩)] w (Tkd w b t) := by
  have hb := h.lt
  obtain ⟨W, hW⟩ : ∃ W, W = (w.alloc (.cells #[.slice none 0 0] 37)).alloc (.cells #[.slice none 0 0] 37) := ⟨_, rfl⟩
  have z1 : (w.alloc (.cells #[.slice none 0 0] 37)).heap.size = w.heap.size + 1 := by simp
  have kY1 := Blk.new w 37 #[.slice none 0 0]
  have kM1 := Blk.new (w.alloc (.cells #[.slice none 0 0] 37)) 37 #[.slice none 0 0]
  have bA := (Below.refl w.heap.size w).alloc (Nat.le_refl _) (.cells #[.slice none 0 0] 37)
  have bB := (Below.refl (w.heap.size + 1) (w.alloc (.cells #[.slice none 0 0] 37))).alloc (by simp) (.cells #[.slice none 0 0] 37)
  rw [z1] at kM1
  rw [← hW] at kM1 bB
  have kY2 := kY1.below bB (by omega)
  have bW : Below w.heap.size w W := bA.trans (bB.mono (by omega))
  have hWs : W.heap.size = w.heap.size + 2 := by rw [hW]; simp
  have tW := h.next bW
  obtain ⟨n0, t1, hn⟩ : ∃ n0 t1, pn t = (n0, t1) := ⟨_, _, rfl⟩
  have HN := Lib.hid (tape_num tW hs)
  have hts : t1.1.size ≤ 281474976710656 := by
    have := pn_le t
    rw [hn] at this
    exact Nat.le_trans this hs
  have hnl : n0 < 18446744073709551616 := by have := pn_lt t; rw [hn] at this; exact this
  rw [hn] at HN
  simp only at HN
  obtain ⟨N, hN⟩ : ∃ N, N = min n0 17 := ⟨_, rfl⟩
  have hMT : Hid (pMt t = pNs N t1) := Lib.hid (by unfold pMt; rw [hn, hN])
  have hNl : N ≤ 17 := by rw [hN]; exact Nat.min_le_right _ _
  have hmin : (if (17 : Int) < (n0 : Int) then (17 : Int) else (n0 : Int)) = (N : Int) := by
    rw [hN]
    by_cases h17 : 17 ≤ n0
    · rw [Nat.min_eq_right h17]; split <;> omega
    · rw [Nat.min_eq_left (by omega)]; split <;> omega
  have S0 : Hid (∀ w1, Fr W w1 (fun q => q = b) → Bt.TapeAt w1 b t1.1 t1.2 → Tkm w w1 b (pNs 0 t1).2 (pNs 0 t1).1 (.slice none 0 0)) := Lib.hid fun w1 f ht => ⟨kY2.fr f (by omega), kM1.fr f (by omega), World.ownsRow_nil _ _ _ _, ht, (Fr.of_below bW _).on f⟩
  have FIN : Hid (∀ w5 u, Blk w5 w.heap.size 37 #[u] → OwnN w5 w.heap.size u (pNs N t1).1 → Bt.TapeAt w5 b (pNs N t1).2.1 (pNs N t1).2.2 → Fr w w5 (fun q => q = b) → Tkd w b t (.returned (.agg #[u])) w5) := Lib.hid fun w5 u _ ho ht hf => ⟨u, rfl, by rw [hMT.out]; exact ho, by rw [hMT.out]; exact ht, hf⟩
  have NUM := Lib.hid (fun (V : World) (k : Nat) (hV : Bt.TapeAt V b (pNs k t1).2.1 (pNs k t1).2.2) => tape_num (t := (pNs k t1).2) hV (Nat.le_trans (pNs_le k t1) hts))
  obtain ⟨i3, hi3, hz30, hz31, hz32⟩ := info_parts info3
  have HW := Lib.hid hW
  clear z1 kY1 kM1 bA bB kY2 bW hW tW h hs hn hN hMT
  by_cases h17 : (17 : Int) < (n0 : Int)
  · have h17B := decide_eq_true h17
    have hN17 : N = 17 := by rw [if_pos h17] at hmin; omega
    clear hmin
    go_enter Try.func32, Try.ntmps32
    go_wp2_with (rw [← HW.out])
    refine HN.out.mono ?_
    rintro e w1 ⟨rfl, f1, tt1⟩
    have S1 := Lib.hid (S0.out w1 f1 tt1)
    clear f1 tt1 S0 HN HW
    go_wp2_with fail
    go_loopw [7] (fun i wr => ∃ (j : Nat) (v : Value), i = .int .u64 j ∧ j ≤ N ∧ Hid (Tkm w wr b (pNs j t1).2 (pNs j t1).1 v)) (fun i _ => N - (intOf i).toNat)
    case atStart => exact ⟨0, _, rfl, Nat.zero_le _, S1⟩
    case round =>
      obtain ⟨j, v, rfl, hj, hS⟩ := hrel
      clear S1
      by_cases hjN : j < N
      · have hjI : (j : Int) < 17 := by omega
        have hjB := decide_eq_true hjI
        have HNUM := Lib.hid (NUM.out wr.drew j hS.out.t)
        obtain ⟨nj, tj, hnj⟩ : ∃ nj tj, pn (pNs j t1).2 = (nj, tj) := ⟨_, _, rfl⟩
        have NX : Hid (pNs (j + 1) t1 = ((pNs j t1).1 ++ [IntKind.i64.wrap (nj : Int)], tj)) := Lib.hid (by
          show ((pNs j t1).1 ++ [IntKind.i64.wrap ((pn (pNs j t1).2).1 : Int)], (pn (pNs j t1).2).2) = _
          rw [hnj])
        rw [hnj] at HNUM
        simp only at HNUM
        have hlen := pNs_len j t1
        obtain ⟨a0, c0, hv, -⟩ := hS.out.o.nums
        rw [hlen] at hv
        subst hv
        have HL := Lib.hid hlen
        have STEP : Hid (∀ w2, Fr wr.drew w2 (fun q => q = b) → Bt.TapeAt w2 b tj.1 tj.2 → Tkm w w2 b tj (pNs j t1).1 (.slice a0 j c0)) := Lib.hid fun w2 f ht => by
          have f' : Fr wr w2 (fun q => q = b) := (fr_drew wr _).on f
          exact ⟨hS.out.y.fr f' (by omega), hS.out.m.fr f' (by omega), hS.out.o.fr f' (fun q hq e => by have := (hS.out.o.ge q hq).1; omega), ht, hS.out.f.on f'⟩
        have c1 : wr.cell? ⟨w.heap.size + 1, 0, none⟩ = some (.slice a0 j c0) := hS.out.m.cell 0
        have f1 : wr.frozen? ⟨w.heap.size + 1, 0, none⟩ = false := hS.out.m.free 0
        have hYw : w.heap.size + 1 < wr.heap.size := hS.out.m.lt
        clear hnj hlen NUM hS FIN
        generalize (pNs j t1).1 = xs at *
        go_wp2_with fail
        go_region_law (first
          | (refine step_append_lies _ rfl (.tmp 10) (.tmp 14) 29 rfl (w.heap.size + 2) 3 i3 _ 1 8 Try.underlying29 hi3 hz30 hz31 hz32 rfl (by decide) (.slice a0 j c0) j (xs.map (Value.int .i64)) rfl (World.ownsRow.alloc OW2.out _) ⟨w2.heap.size, 0, none⟩ 1 1 [.int .i64 (IntKind.i64.wrap (nj : Int))] rfl rfl (news_int w2 (IntKind.i64.wrap (nj : Int))) (one_int (IntKind.i64.wrap (nj : Int))) (by decide) (by unfold maxLen; omega) (by omega) (by simp; omega) _ rfl ?_; intro g cap w3 ho hg _ _; have P3 := T2.out.push (v' := .slice (some ⟨g, 0, none⟩) (j + 1) cap) (by rw [HL.out]; exact ho) hg hb; have d3 : w3.cell? ⟨w.heap.size + 1, 0, none⟩ = some (.slice a0 j c0) := P3.1.cell 0; have e3 := P3.1.free 0; have P3h := Lib.hid P3.2; clear P3 ho hg)
          | (go_simp; refine HNUM.out.mono ?_; rintro e w2 ⟨rfl, f2, tt2⟩; have T2 := Lib.hid (STEP.out w2 f2 tt2); have OW2 : Hid (w2.ownsRow (w.heap.size + 2) 3 1 (.slice a0 j c0) j (xs.map (Value.int .i64))) := Lib.hid (by have := T2.out.o; unfold OwnN at this; rw [HL.out] at this; exact this); have d2 : w2.cell? ⟨w.heap.size + 1, 0, none⟩ = some (.slice a0 j c0) := T2.out.m.cell 0; have d2a : (w2.alloc (.cells #[.int .i64 (IntKind.i64.wrap (nj : Int))] 3)).cell? ⟨w.heap.size + 1, 0, none⟩ = some (.slice a0 j c0) := (T2.out.m.next ((Below.refl _ _).alloc (Nat.le_refl _) _)).cell 0; have hY2 : w.heap.size + 1 < w2.heap.size := T2.out.m.lt; clear f2 tt2))
        all_goals
          generalize w3.setCell ⟨w.heap.size + 1, 0, none⟩ (.slice (some ⟨g, 0, none⟩) (j + 1) cap) = w4 at *
          clear d3 e3 d2 d2a c1 f1 T2 OW2
          go_wp2_with fail
          go_roundw
          case rel => exact ⟨j + 1, _, by go_num, by omega, Lib.hid (by rw [NX.out]; exact P3h.out)⟩
          case measure => simp [intOf]; omega
      · obtain rfl : j = N := by omega
        have hjI : ¬ (j : Int) < 17 := by omega
        clear hN17
        have hlen := pNs_len j t1
        obtain ⟨a0, c0, hv, -⟩ := hS.out.o.nums
        rw [hlen] at hv
        subst hv
        have c1 : wr.cell? ⟨w.heap.size + 1, 0, none⟩ = some (.slice a0 j c0) := hS.out.m.cell 0
        have c0' : wr.cell? ⟨w.heap.size, 0, none⟩ = some (.slice none 0 0) := hS.out.y.cell 0
        have f0 : wr.frozen? ⟨w.heap.size, 0, none⟩ = false := hS.out.y.free 0
        have fs := fr_set wr w.heap.size 0 (.slice a0 j c0)
        have FF : Hid (Tkd w b t (.returned (.agg #[.slice a0 j c0])) (wr.setCell ⟨w.heap.size, 0, none⟩ (.slice a0 j c0)) ∧ Blk (wr.setCell ⟨w.heap.size, 0, none⟩ (.slice a0 j c0)) w.heap.size 37 #[.slice a0 j c0]) := Lib.hid ⟨FIN.out _ _ (hS.out.y.set 0 _) ((hS.out.o.drop (w' := w) (by omega)).fr fs (fun q hq e => by have := (hS.out.o.ge q hq).1; omega)) (tape_fr hS.out.t fs (by omega)) (hS.out.f.trans fs (fun _ _ h => h) (fun q hq e => by omega)), hS.out.y.set 0 _⟩
        clear hS FIN NUM hlen fs
        go_wp2_with fail
        have y0 : (wr.setCell ⟨w.heap.size, 0, none⟩ (.slice a0 j c0)).cell? ⟨w.heap.size, 0, none⟩ = some (.slice a0 j c0) := FF.out.2.cell 0
        have F1 := FF.out.1
        clear FF c1 c0' f0
        generalize wr.setCell ⟨w.heap.size, 0, none⟩ (.slice a0 j c0) = w5 at *
        refine bodyPost_ret (by simp [results, Try.results32, go_sem, y0]; try rfl) rfl ?_
        exact F1
  · have h17B := decide_eq_false h17
    obtain rfl : N = n0 := by rw [if_neg h17] at hmin; omega
    clear hmin
    go_enter Try.func32, Try.ntmps32
    go_wp2_with (rw [← HW.out])
    refine HN.out.mono ?_
    rintro e w1 ⟨rfl, f1, tt1⟩
    have S1 := Lib.hid (S0.out w1 f1 tt1)
    clear f1 tt1 S0 HN HW
    go_wp2_with fail
    go_loopw [7] (fun i wr => ∃ (j : Nat) (v : Value), i = .int .u64 j ∧ j ≤ N ∧ Hid (Tkm w wr b (pNs j t1).2 (pNs j t1).1 v)) (fun i _ => N - (intOf i).toNat)
    case atStart => exact ⟨0, _, rfl, Nat.zero_le _, S1⟩
    case round =>
      obtain ⟨j, v, rfl, hj, hS⟩ := hrel
      clear S1
      by_cases hjN : j < N
      · have hjI : (j : Int) < (N : Int) := by omega
        have hjB := decide_eq_true hjI
        have HNUM := Lib.hid (NUM.out wr.drew j hS.out.t)
        obtain ⟨nj, tj, hnj⟩ : ∃ nj tj, pn (pNs j t1).2 = (nj, tj) := ⟨_, _, rfl⟩
        have NX : Hid (pNs (j + 1) t1 = ((pNs j t1).1 ++ [IntKind.i64.wrap (nj : Int)], tj)) := Lib.hid (by
          show ((pNs j t1).1 ++ [IntKind.i64.wrap ((pn (pNs j t1).2).1 : Int)], (pn (pNs j t1).2).2) = _
          rw [hnj])
        rw [hnj] at HNUM
        simp only at HNUM
        have hlen := pNs_len j t1
        obtain ⟨a0, c0, hv, -⟩ := hS.out.o.nums
        rw [hlen] at hv
        subst hv
        have HL := Lib.hid hlen
        have STEP : Hid (∀ w2, Fr wr.drew w2 (fun q => q = b) → Bt.TapeAt w2 b tj.1 tj.2 → Tkm w w2 b tj (pNs j t1).1 (.slice a0 j c0)) := Lib.hid fun w2 f ht => by
          have f' : Fr wr w2 (fun q => q = b) := (fr_drew wr _).on f
          exact ⟨hS.out.y.fr f' (by omega), hS.out.m.fr f' (by omega), hS.out.o.fr f' (fun q hq e => by have := (hS.out.o.ge q hq).1; omega), ht, hS.out.f.on f'⟩
        have c1 : wr.cell? ⟨w.heap.size + 1, 0, none⟩ = some (.slice a0 j c0) := hS.out.m.cell 0
        have f1 : wr.frozen? ⟨w.heap.size + 1, 0, none⟩ = false := hS.out.m.free 0
        have hYw : w.heap.size + 1 < wr.heap.size := hS.out.m.lt
        clear hnj hlen NUM hS FIN
        generalize (pNs j t1).1 = xs at *
        go_wp2_with fail
        go_region_law (first
          | (refine step_append_lies _ rfl (.tmp 10) (.tmp 14) 29 rfl (w.heap.size + 2) 3 i3 _ 1 8 Try.underlying29 hi3 hz30 hz31 hz32 rfl (by decide) (.slice a0 j c0) j (xs.map (Value.int .i64)) rfl (World.ownsRow.alloc OW2.out _) ⟨w2.heap.size, 0, none⟩ 1 1 [.int .i64 (IntKind.i64.wrap (nj : Int))] rfl rfl (news_int w2 (IntKind.i64.wrap (nj : Int))) (one_int (IntKind.i64.wrap (nj : Int))) (by decide) (by unfold maxLen; omega) (by omega) (by simp; omega) _ rfl ?_; intro g cap w3 ho hg _ _; have P3 := T2.out.push (v' := .slice (some ⟨g, 0, none⟩) (j + 1) cap) (by rw [HL.out]; exact ho) hg hb; have d3 : w3.cell? ⟨w.heap.size + 1, 0, none⟩ = some (.slice a0 j c0) := P3.1.cell 0; have e3 := P3.1.free 0; have P3h := Lib.hid P3.2; clear P3 ho hg)
          | (go_simp; refine HNUM.out.mono ?_; rintro e w2 ⟨rfl, f2, tt2⟩; have T2 := Lib.hid (STEP.out w2 f2 tt2); have OW2 : Hid (w2.ownsRow (w.heap.size + 2) 3 1 (.slice a0 j c0) j (xs.map (Value.int .i64))) := Lib.hid (by have := T2.out.o; unfold OwnN at this; rw [HL.out] at this; exact this); have d2 : w2.cell? ⟨w.heap.size + 1, 0, none⟩ = some (.slice a0 j c0) := T2.out.m.cell 0; have d2a : (w2.alloc (.cells #[.int .i64 (IntKind.i64.wrap (nj : Int))] 3)).cell? ⟨w.heap.size + 1, 0, none⟩ = some (.slice a0 j c0) := (T2.out.m.next ((Below.refl _ _).alloc (Nat.le_refl _) _)).cell 0; have hY2 : w.heap.size + 1 < w2.heap.size := T2.out.m.lt; clear f2 tt2))
        all_goals
          generalize w3.setCell ⟨w.heap.size + 1, 0, none⟩ (.slice (some ⟨g, 0, none⟩) (j + 1) cap) = w4 at *
          clear d3 e3 d2 d2a c1 f1 T2 OW2
          go_wp2_with fail
          go_roundw
          case rel => exact ⟨j + 1, _, by go_num, by omega, Lib.hid (by rw [NX.out]; exact P3h.out)⟩
          case measure => simp [intOf]; omega
      · obtain rfl : j = N := by omega
        have hjI : ¬ (j : Int) < (j : Int) := by omega
        have hlen := pNs_len j t1
        obtain ⟨a0, c0, hv, -⟩ := hS.out.o.nums
        rw [hlen] at hv
        subst hv
        have c1 : wr.cell? ⟨w.heap.size + 1, 0, none⟩ = some (.slice a0 j c0) := hS.out.m.cell 0
        have c0' : wr.cell? ⟨w.heap.size, 0, none⟩ = some (.slice none 0 0) := hS.out.y.cell 0
        have f0 : wr.frozen? ⟨w.heap.size, 0, none⟩ = false := hS.out.y.free 0
        have fs := fr_set wr w.heap.size 0 (.slice a0 j c0)
        have FF : Hid (Tkd w b t (.returned (.agg #[.slice a0 j c0])) (wr.setCell ⟨w.heap.size, 0, none⟩ (.slice a0 j c0)) ∧ Blk (wr.setCell ⟨w.heap.size, 0, none⟩ (.slice a0 j c0)) w.heap.size 37 #[.slice a0 j c0]) := Lib.hid ⟨FIN.out _ _ (hS.out.y.set 0 _) ((hS.out.o.drop (w' := w) (by omega)).fr fs (fun q hq e => by have := (hS.out.o.ge q hq).1; omega)) (tape_fr hS.out.t fs (by omega)) (hS.out.f.trans fs (fun _ _ h => h) (fun q hq e => by omega)), hS.out.y.set 0 _⟩
        clear hS FIN NUM hlen fs
        go_wp2_with fail
        have y0 : (wr.setCell ⟨w.heap.size, 0, none⟩ (.slice a0 j c0)).cell? ⟨w.heap.size, 0, none⟩ = some (.slice a0 j c0) := FF.out.2.cell 0
        have F1 := FF.out.1
        clear FF c1 c0' f0
        generalize wr.setCell ⟨w.heap.size, 0, none⟩ (.slice a0 j c0) = w5 at *
        refine bodyPost_ret (by simp [results, Try.results32, go_sem, y0]; try rfl) rfl ?_
        exact F1
end Go.Proofs.Ytlcgicgdlhnfoaa
