/-
  WHAT THE ROWS REST ON, part 17: Bbf Bbg Bpu.
-/
import Derived.Deep.RegionHeld3
import Derived.Test.YtggjpallbapcmaaPart16
/-
  The book: the function that yields, where there is something to give.
-/
namespace Go.Proofs.Ytggjpallbapcmaa.Bk
open Go.RowKit
attribute [local go_sem] Oper.semAt_some
set_option maxHeartbeats 8000000 in
set_option maxRecDepth 100000 in
theorem yields1 {w : World} {Bk : Nat → Prop} {Fb : Nat → Prop} {t bt bf bm : Nat} {base from_ most : Int} {LL : List (List Int)} (m : Nat) (hm : 3 ≤ m)
    (h : BookAt w Bk t base LL) (ok : BOk base LL) (hl : ∀ xs ∈ LL, xs.length ≤ 1000) (hf : base ≤ from_) (hf2 : from_ ≤ 9223372036854775807) (hmo : 0 ≤ most)
    (kt : Blk w bt 76 #[.pointer (some ⟨t, 0, none⟩)]) (kf : Blk w bf 3 #[.int .i64 from_]) (km : Blk w bm 3 #[.int .i64 most])
    (hB : ∀ q, Bk q → ¬ Fb q) (hz : 0 < (sub base LL from_ most).length) :
    Gives Try.prog m 81 #[.pointer (some ⟨bt, 0, none⟩), .pointer (some ⟨bf, 0, none⟩), .pointer (some ⟨bm, 0, none⟩)] encM (fun x W => OwnN W w.heap.size x.1 x.2)
      (fun l => l.map (·.2) <+: sub base LL from_ most) (fun l => l.map (·.2) = sub base LL from_ most) Fb w := by
  intro l J W hW hJ hY h0
  have o0 := ok.b0
  have o1 := ok.b1
  have o2 := ok.n
  have HB := h.next hW
  have hlt0 : ∀ q, Bk q → q < w.heap.size := by
    obtain ⟨_, _, _, _, _, _, _, h0⟩ := h
    exact h0
  obtain ⟨v, cs, kb, r, e, ht, hv, hlt⟩ := HB
  have hcl := e.1
  obtain ⟨va, vc, rfl, hvc, hvc2⟩ := r.form
  have b0 : W.cell? ⟨bt, 0, none⟩ = some (.pointer (some ⟨t, 0, none⟩)) := (kt.next hW).cell 0
  have b1 : W.cell? ⟨bf, 0, none⟩ = some (.int .i64 from_) := (kf.next hW).cell 0
  have b2 : W.cell? ⟨bm, 0, none⟩ = some (.int .i64 most) := (km.next hW).cell 0
  have c0 : W.cell? ⟨t, 0, none⟩ = some (.int .i64 base) := kb.cell 0
  have c1 : W.cell? ⟨t, 1, none⟩ = some (.slice va cs.length vc) := kb.cell 1
  -- the two cuts
  obtain ⟨d, hd⟩ : ∃ d : Nat, d = (if (from_ - base).toNat ≤ cs.length then (from_ - base).toNat else cs.length) := ⟨_, rfl⟩
  have hdl : d ≤ cs.length := by rw [hd]; split <;> omega
  obtain ⟨n, hn⟩ : ∃ n : Nat, n = (if most.toNat ≤ cs.length - d then most.toNat else cs.length - d) := ⟨_, rfl⟩
  have hnl : n ≤ cs.length - d := by rw [hn]; split <;> omega
  have hsub : sub base LL from_ most = (LL.drop d).take n := by
    unfold sub
    rw [hd]
    by_cases h1 : (from_ - base).toNat ≤ cs.length
    · rw [if_pos h1] at hd ⊢
      rw [hn]
      by_cases h2 : most.toNat ≤ cs.length - d
      · rw [if_pos h2]
      · rw [if_neg h2, List.take_of_length_le (by rw [List.length_drop]; omega), List.take_of_length_le (by rw [List.length_drop]; omega)]
    · rw [if_neg h1, List.drop_of_length_le (by omega), List.drop_of_length_le (by omega), List.take_nil, List.take_nil]
  have hsl : (sub base LL from_ most).length = n := by rw [hsub, List.length_take, List.length_drop]; omega
  have hmin1 : (if (cs.length : Int) < from_ - base then (cs.length : Int) else from_ - base) = (d : Int) := by
    rw [hd]; split <;> split <;> omega
  have hmin2 : (if ((cs.length - d : Nat) : Int) < most then ((cs.length - d : Nat) : Int) else most) = (n : Int) := by
    rw [hn]; split <;> split <;> omega
  have hfb : IntKind.i64.wrap (from_ - base) = from_ - base := by rw [IntKind.wrap_i64]; omega
  have hdI : (d : Int) ≤ (cs.length : Int) := by omega
  refine callsIn_of_wp Try.func81 rfl trivial ?_ rfl
  simp only [Try.ntmps81, List.size_toArray, List.length_cons, List.length_nil, Nat.reduceAdd, Nat.reduceSub, Array.replicate_succ, Array.replicate_zero, List.push_toArray, List.append_toArray, List.nil_append, List.cons_append]
  obtain ⟨SL, hSL⟩ : ∃ SL, SL = sub base LL from_ most := ⟨_, rfl⟩
  rw [← hSL] at hsub hsl hY ⊢
  have HJ1 : Hid (J [] W.drew) := Lib.hid (hJ _ _ _ h0 (Below.refl _ W).drew)
  have HSL := Lib.hid hsl
  have HW := Lib.hid hW
  have HHJ := Lib.hid hJ
  have HHY := Lib.hid hY
  have hvcI : (cs.length : Int) ≤ (vc : Int) := by omega
  have hvcI2 : (d : Int) ≤ (vc : Int) := by omega
  have hlen64 : cs.length ≤ 64 := by omega
  rw [← hSL] at hz
  have hn0 : 0 < n := by omega
  have hdv : ¬ vc = d := by omega
  obtain ⟨g, o, hva⟩ : ∃ g o, va = some ⟨g, o, none⟩ := by
    obtain ⟨g, o, c, e1, -⟩ := r.at_ (k := 0) (by omega)
    simp only [Value.slice.injEq] at e1
    exact ⟨g, o, e1.1⟩
  subst hva
  have CELL : Hid (∀ k, k < n → ∃ (u : Value) (xs : List Int), (∀ wr, Fr W wr (fun q => Fb q ∨ w.heap.size ≤ q) → wr.cell? ⟨g, o + d + k, none⟩ = some u) ∧ (∀ wr, Fr W wr (fun q => Fb q ∨ w.heap.size ≤ q) → El wr Bk u xs) ∧ xs.length ≤ 1000 ∧
      (∀ pre : List Mv, pre.map (fun x : Mv => x.2) = SL.take k → ∀ u' : Value, (pre ++ [(u', xs)]).map (fun x : Mv => x.2) <+: SL ∧ (pre ++ [(u', xs)]).map (fun x : Mv => x.2) = SL.take (k + 1))) := Lib.hid fun k hk => by
    have hk1 : d + k < cs.length := by omega
    have hk2 : d + k < LL.length := by omega
    have hP : ∀ q, Bk q → ¬ (Fb q ∨ w.heap.size ≤ q) := fun q hq hh => by
      rcases hh with hh | hh
      · exact hB q hq hh
      · have := hlt0 q hq; omega
    refine ⟨cs[d + k], LL[d + k], fun wr f => ?_, fun wr f => (e.2 (d + k) hk1 hk2).fr f (fun q _ hq _ => hP q hq), hl _ (List.getElem_mem hk2), fun pre hp u' => ?_⟩
    · obtain ⟨g', o', c', e1, hg, ck, -⟩ := r.at_ hk1
      simp only [Value.slice.injEq, Option.some.injEq, Addr.mk.injEq, and_true] at e1
      obtain ⟨⟨rfl, rfl⟩, -⟩ := e1
      rw [World.cell?_of_block (f.block g hg (hP g (hv g rfl))), Nat.add_assoc]
      exact ck
    · have e2 : (pre ++ [(u', LL[d + k])]).map (fun x : Mv => x.2) = SL.take (k + 1) := by
        have hk3 : k < SL.length := by omega
        rw [List.map_append, hp, List.take_succ_eq_append_getElem hk3]
        congr 1
        simp only [List.map_cons, List.map_nil, List.cons.injEq, and_true]
        have : SL[k]? = LL[d + k]? := by rw [hsub, List.getElem?_take, if_pos hk, List.getElem?_drop]
        rw [List.getElem?_eq_getElem hk3, List.getElem?_eq_getElem hk2] at this
        exact (Option.some.inj this).symm
      exact ⟨by rw [e2]; exact List.take_prefix _ _, e2⟩
  clear hz r e kb hv hlt hsub hsl hl h0 hJ hY hW kt kf km hB ht h ok hd hn hSL o2 hlt0
  generalize LL.length = nn at *
  clear hcl
  generalize hZ : cs.length = z at *
  clear hZ
  have hmm : 1 ≤ m - 1 - 1 := by omega
  have hmm2 : 1 ≤ m - 1 := by omega
  have hmm1 : 1 ≤ m := by omega
  have hA : ¬ (z : Int) < from_ - base := by
    intro hA
    rw [if_pos hA] at hmin1
    omega
  have hfd : from_ - base = (d : Int) := by rw [if_neg hA] at hmin1; omega
  clear hfb hmin1 hA
  have hAB : decide ((z : Int) < (d : Int)) = false := decide_eq_false (by omega)
  by_cases hM : ((z - d : Nat) : Int) < most
  · have hzd : z - d = n := by rw [if_pos hM] at hmin2; omega
    rw [hzd] at hM
    have hMB := decide_eq_true hM
    clear hmin2
    gi_wp2
    gi_region
    all_goals gi_wp2
    all_goals
      gi_loopw [32] (fun i wr => ∃ (k : Nat) (pre : List Mv), k ≤ n ∧ i = .int .i64 k ∧ Hid (pre.map (fun x : Mv => x.2) = SL.take k) ∧ Hid (J pre wr) ∧ Hid (Fr W wr (fun q => Fb q ∨ w.heap.size ≤ q))) (fun i _ => n - (intOf i).toNat)
      case atStart => exact ⟨0, [], Nat.zero_le _, rfl, Lib.hid (by simp), HJ1, Lib.hid (fr_drew _ _)⟩
      case round =>
        obtain ⟨k, pre, hk, rfl, hp, hJs, hF⟩ := hrel
        by_cases hkn : k < n
        · have hkI : (k : Int) < (n : Int) := by omega
          obtain ⟨u, xs, CK, XE, XL, PS⟩ := CELL.out k hkn
          have PS1 := Lib.hid (PS pre hp.out)
          have ck := (CK wr hF.out)
          have EL1 := Lib.hid (XE wr hF.out)
          obtain ⟨au, cu, rfl, nu⟩ := EL1.out.nums
          have XL1 := Lib.hid XL
          clear CK XE PS XL
          obtain ⟨w5, hw5⟩ : ∃ w5, w5 = wr.alloc (.cells #[.slice au xs.length cu] 70) := ⟨_, rfl⟩
          have k5 : Blk w5 wr.heap.size 70 #[.slice au xs.length cu] := by rw [hw5]; exact Blk.new wr 70 _
          have b5 : Below wr.heap.size wr w5 := by rw [hw5]; exact (Below.refl _ wr).alloc (Nat.le_refl _) _
          have HW5 := Lib.hid hw5
          have HCP := Lib.hid (copied_any cu (nu.next b5) XL1.out)
          have z5 : w5.cell? ⟨wr.heap.size, 0, none⟩ = some (.slice au xs.length cu) := k5.cell 0
          have YY : Hid (∀ w6 u', OwnN w6 w5.heap.size u' xs → Below w5.heap.size w5 w6 → YieldAt Fence.wide (m - 1) Try.prog l #[.agg #[u']] w6 fun e W' => e = .returned (.bool true) ∧ J (pre ++ [(u', xs)]) W' ∧ Fr W W' (fun q => Fb q ∨ w.heap.size ≤ q)) := Lib.hid fun w6 u' ho b6 => by
            have b56 : Below wr.heap.size wr w6 := b5.trans (b6.mono b5.size)
            have hwr : w.heap.size ≤ wr.heap.size := Nat.le_trans HW.out.size hF.out.size
            refine (HHY.out pre (u', xs) w6 (HHJ.out _ _ _ hJs.out b56) (ho.drop (Nat.le_trans hwr b5.size)) ?_).mono ?_
            · exact (PS1.out u').1
            · rintro e W' ⟨rfl, hj, hf⟩
              exact ⟨rfl, hj, (hF.out.on (Fr.of_below b56 _)).on hf⟩
          have PS2 := Lib.hid (fun u' => (PS1.out u').2)
          clear hw5 k5 b5 nu EL1 PS1 hJs hF hp HHY HHJ CELL HJ1
          gi_wp2
          rw [← HW5.out]
          refine ⟨trivial, ?_⟩
          refine ((callsIn_wide (n := m - 1)).2 HCP.out).mono ?_
          rintro e w6 ⟨u', rfl, ho, b6⟩
          obtain ⟨fn, tmps, assign, body, hy, hR⟩ := YY.out w6 u' ho b6
          obtain ⟨au', cu', rfl, -⟩ := ho.nums
          have PS3 := Lib.hid (PS2.out (.slice au' xs.length cu'))
          have HRR := Lib.hid hR
          clear hR ho b6 HCP YY PS2 HW5
          gi_wp2
          refine HRR.out.mono ?_
          rintro e w7 ⟨rfl, hj7, hf7⟩
          have J7 := Lib.hid hj7
          have F7 := Lib.hid hf7
          clear HRR hj7 hf7 hy
          gi_wp2
          go_roundw
          case rel => exact ⟨k + 1, _, by omega, by go_num, PS3.out, J7.out, F7.out⟩
          case measure => simp [intOf]; omega
        · obtain rfl : k = n := by omega
          have hkI : ¬ (k : Int) < (k : Int) := by omega
          gi_wp2
          go_end0
          exact ⟨⟨_, rfl⟩, pre, by rw [hp.out, List.take_of_length_le (by rw [HSL.out]; exact Nat.le_refl _)], hJs.out⟩
  · have hmn : most = (n : Int) := by rw [if_neg hM] at hmin2; omega
    subst hmn
    have hMB := decide_eq_false hM
    clear hmin2 hM
    gi_wp2
    gi_region
    all_goals gi_wp2
    all_goals
      gi_loopw [32] (fun i wr => ∃ (k : Nat) (pre : List Mv), k ≤ n ∧ i = .int .i64 k ∧ Hid (pre.map (fun x : Mv => x.2) = SL.take k) ∧ Hid (J pre wr) ∧ Hid (Fr W wr (fun q => Fb q ∨ w.heap.size ≤ q))) (fun i _ => n - (intOf i).toNat)
      case atStart => exact ⟨0, [], Nat.zero_le _, rfl, Lib.hid (by simp), HJ1, Lib.hid (fr_drew _ _)⟩
      case round =>
        obtain ⟨k, pre, hk, rfl, hp, hJs, hF⟩ := hrel
        by_cases hkn : k < n
        · have hkI : (k : Int) < (n : Int) := by omega
          obtain ⟨u, xs, CK, XE, XL, PS⟩ := CELL.out k hkn
          have PS1 := Lib.hid (PS pre hp.out)
          have ck := (CK wr hF.out)
          have EL1 := Lib.hid (XE wr hF.out)
          obtain ⟨au, cu, rfl, nu⟩ := EL1.out.nums
          have XL1 := Lib.hid XL
          clear CK XE PS XL
          obtain ⟨w5, hw5⟩ : ∃ w5, w5 = wr.alloc (.cells #[.slice au xs.length cu] 70) := ⟨_, rfl⟩
          have k5 : Blk w5 wr.heap.size 70 #[.slice au xs.length cu] := by rw [hw5]; exact Blk.new wr 70 _
          have b5 : Below wr.heap.size wr w5 := by rw [hw5]; exact (Below.refl _ wr).alloc (Nat.le_refl _) _
          have HW5 := Lib.hid hw5
          have HCP := Lib.hid (copied_any cu (nu.next b5) XL1.out)
          have z5 : w5.cell? ⟨wr.heap.size, 0, none⟩ = some (.slice au xs.length cu) := k5.cell 0
          have YY : Hid (∀ w6 u', OwnN w6 w5.heap.size u' xs → Below w5.heap.size w5 w6 → YieldAt Fence.wide (m - 1) Try.prog l #[.agg #[u']] w6 fun e W' => e = .returned (.bool true) ∧ J (pre ++ [(u', xs)]) W' ∧ Fr W W' (fun q => Fb q ∨ w.heap.size ≤ q)) := Lib.hid fun w6 u' ho b6 => by
            have b56 : Below wr.heap.size wr w6 := b5.trans (b6.mono b5.size)
            have hwr : w.heap.size ≤ wr.heap.size := Nat.le_trans HW.out.size hF.out.size
            refine (HHY.out pre (u', xs) w6 (HHJ.out _ _ _ hJs.out b56) (ho.drop (Nat.le_trans hwr b5.size)) ?_).mono ?_
            · exact (PS1.out u').1
            · rintro e W' ⟨rfl, hj, hf⟩
              exact ⟨rfl, hj, (hF.out.on (Fr.of_below b56 _)).on hf⟩
          have PS2 := Lib.hid (fun u' => (PS1.out u').2)
          clear hw5 k5 b5 nu EL1 PS1 hJs hF hp HHY HHJ CELL HJ1
          gi_wp2
          rw [← HW5.out]
          refine ⟨trivial, ?_⟩
          refine ((callsIn_wide (n := m - 1)).2 HCP.out).mono ?_
          rintro e w6 ⟨u', rfl, ho, b6⟩
          obtain ⟨fn, tmps, assign, body, hy, hR⟩ := YY.out w6 u' ho b6
          obtain ⟨au', cu', rfl, -⟩ := ho.nums
          have PS3 := Lib.hid (PS2.out (.slice au' xs.length cu'))
          have HRR := Lib.hid hR
          clear hR ho b6 HCP YY PS2 HW5
          gi_wp2
          refine HRR.out.mono ?_
          rintro e w7 ⟨rfl, hj7, hf7⟩
          have J7 := Lib.hid hj7
          have F7 := Lib.hid hf7
          clear HRR hj7 hf7 hy
          gi_wp2
          go_roundw
          case rel => exact ⟨k + 1, _, by omega, by go_num, PS3.out, J7.out, F7.out⟩
          case measure => simp [intOf]; omega
        · obtain rfl : k = n := by omega
          have hkI : ¬ (k : Int) < (k : Int) := by omega
          gi_wp2
          go_end0
          exact ⟨⟨_, rfl⟩, pre, by rw [hp.out, List.take_of_length_le (by rw [HSL.out]; exact Nat.le_refl _)], hJs.out⟩
end Go.Proofs.Ytggjpallbapcmaa.Bk
/-
  The book: the function that yields.
-/
namespace Go.Proofs.Ytggjpallbapcmaa.Bk
open Go.RowKit
theorem yields {w : World} {Bk : Nat → Prop} {Fb : Nat → Prop} {t bt bf bm : Nat} {base from_ most : Int} {LL : List (List Int)} (m : Nat) (hm : 3 ≤ m)
    (h : BookAt w Bk t base LL) (ok : BOk base LL) (hl : ∀ xs ∈ LL, xs.length ≤ 1000) (hf : base ≤ from_) (hf2 : from_ ≤ 9223372036854775807) (hmo : 0 ≤ most)
    (kt : Blk w bt 76 #[.pointer (some ⟨t, 0, none⟩)]) (kf : Blk w bf 3 #[.int .i64 from_]) (km : Blk w bm 3 #[.int .i64 most])
    (hB : ∀ q, Bk q → ¬ Fb q) :
    Gives Try.prog m 81 #[.pointer (some ⟨bt, 0, none⟩), .pointer (some ⟨bf, 0, none⟩), .pointer (some ⟨bm, 0, none⟩)] encM (fun x W => OwnN W w.heap.size x.1 x.2)
      (fun l => l.map (fun x : Mv => x.2) <+: sub base LL from_ most) (fun l => l.map (fun x : Mv => x.2) = sub base LL from_ most) Fb w := by
  rcases Nat.eq_zero_or_pos (sub base LL from_ most).length with hz | hz
  · exact yields0 m h ok hf hf2 hmo kt kf km hz
  · exact yields1 m hm h ok hl hf hf2 hmo kt kf km hB hz
end Go.Proofs.Ytggjpallbapcmaa.Bk
/-
  The book: Put 11.
-/
namespace Go.Proofs.Ytggjpallbapcmaa.Bk
open Go.RowKit
theorem step_append_runI {P : Program} {ops : Array Oper} {o : Oper} {a : Act} {w : World} {K : Act → World → Prop} {Q : Exit → Act → World → Prop} {E : Prop}
    (hg : o.guard = none) (d x : Operand) (dT sT : TypeId) (hop : o.op = Op.call { callee := Callee.builtin Builtin.append, args := #[d, x], argTypes := #[dT, sT] })
    (v u : Value) (hd : a.eval d = v) (hx : a.eval x = u) {v' : Value} {w' : World} (hr : (Builtin.append_ #[dT, sT] o.type #[v, u]).run P w = .ok v' w') (hK : K (a.put o.dst v') w') :
    if Region.wanted o (yielded ops a.tmps) = true then Oper.wp P o a w K Q else E := by
  have hw : Region.wanted o (yielded ops a.tmps) = true := by simp [Region.wanted, hg]
  rw [if_pos hw]
  unfold Oper.wp
  simp [execOp, hop, resolve, invoke, builtin, hd, hx, hr, Result.andThen]
  exact hK
/-- what Put answers, and what is left -/
def ptE (base : Int) (LL : List (List Int)) (xs : List Int) : Int := if mayB xs then (if 549755813888 ≤ base + LL.length then 2 else 0) else 1
def ptS (base : Int) (LL : List (List Int)) (xs : List Int) : Int × List (List Int) := if ptE base LL xs = 0 then (if LL.length = 64 then (base + 1, LL.drop 1 ++ [xs]) else (base, LL ++ [xs])) else (base, LL)
/-- a book that was changed, its blocks those that it had, and new ones -/
def Grn (w : World) (Bk : Nat → Prop) (t : Nat) (base : Int) (LL : List (List Int)) (w' : World) : Prop :=
  ∃ Bk', BookAt w' Bk' t base LL ∧ Fr w w' Bk ∧ (∀ q, Bk q → Bk' q) ∧ ∀ q, Bk' q → Bk q ∨ w.heap.size ≤ q
def Ptd (w : World) (Bk : Nat → Prop) (t : Nat) (base : Int) (LL : List (List Int)) (xs : List Int) (e : Ending) (w' : World) : Prop := e = .returned (.int .i64 (ptE base LL xs)) ∧ Grn w Bk t (ptS base LL xs).1 (ptS base LL xs).2 w'
theorem put_nil (m : Value) (u : Value) (hm : m = .agg #[u]) (hu : u.oneCell' = true) (w : World) : Calls Try.prog 31 #[.pointer none, m] w fun e w' => e = .returned (.int .i64 1) ∧ Below w.heap.size w w' := by
  subst hm
  have BW := Lib.hid ((Below.refl w.heap.size w).alloc (Nat.le_refl _) (.cells #[u] 70))
  cases u <;> first | (exact absurd hu (by decide)) | skip
  all_goals
    go_enter Try.func31, Try.ntmps31
    go_wp2_with fail
    go_ret
    exact ⟨rfl, BW.out⟩
set_option maxHeartbeats 8000000 in
set_option maxRecDepth 100000 in
theorem put_any {w : World} {Bk : Nat → Prop} {t : Nat} {base : Int} {LL : List (List Int)} {a : Option Addr} {xs : List Int} (c : Nat) (h : BookAt w Bk t base LL) (ok : BOk base LL) (hn : Nums w a xs) (hl : xs.length ≤ 1000) :
    Calls Try.prog 31 #[.pointer (some ⟨t, 0, none⟩), .agg #[.slice a xs.length c]] w (Ptd w Bk t base LL xs) := by
  have o0 := ok.b0
  have o1 := ok.b1
  have o2 := ok.n
  obtain ⟨W, hW⟩ : ∃ W, W = w.alloc (.cells #[.slice a xs.length c] 70) := ⟨_, rfl⟩
  have bW : Below w.heap.size w W := by rw [hW]; exact (Below.refl _ w).alloc (Nat.le_refl _) _
  have kW : Blk W w.heap.size 70 #[.slice a xs.length c] := by rw [hW]; exact Blk.new _ _ _
  have hB := h.next bW
  have nB := hn.next bW
  have HM := Lib.hid (may_any c nB (by omega))
  have HE := Lib.hid (fun w1 (b : Below W.heap.size W w1) => end_any (hB.next b) o0 (by omega) (by omega))
  have KW := Lib.hid kW
  have BW := Lib.hid bW
  have HW := Lib.hid hW
  have SELF : Hid (∀ w', Below W.heap.size W w' → ptE base LL xs ≠ 0 → Grn w Bk t (ptS base LL xs).1 (ptS base LL xs).2 w') := Lib.hid fun w' b hne => by
    unfold ptS
    rw [if_neg hne]
    exact ⟨Bk, hB.next b, Fr.of_below (bW.trans (b.mono bW.size)) _, fun q hq => hq, fun q hq => .inl hq⟩
  by_cases hm : mayB xs = true
  rotate_left
  · have E : ptE base LL xs = 1 := by unfold ptE; rw [if_neg hm]
    have hmF : mayB xs = false := by simpa using hm
    have FIN : Hid (∀ w', Below W.heap.size W w' → Ptd w Bk t base LL xs (.returned (.int .i64 1)) w') := Lib.hid fun w' b => ⟨by rw [E], SELF.out w' b (by rw [E]; decide)⟩
    rw [hmF] at HM
    have c0 : W.cell? ⟨w.heap.size, 0, none⟩ = some (.slice a xs.length c) := KW.out.cell 0
    clear SELF h hB nB hn bW kW hW E hm hmF HE ok
    generalize Ptd w Bk t base LL xs = Q at *
    generalize xs.length = n at *
    go_enter Try.func31, Try.ntmps31
    go_wp2_with (first | (rw [← HW.out]) | (refine HM.out.mono ?_; rintro e w1 ⟨rfl, b1⟩))
    exact FIN.out _ b1
  rw [hm] at HM
  by_cases he : 549755813888 ≤ base + LL.length
  · have E : ptE base LL xs = 2 := by unfold ptE; rw [if_pos hm, if_pos he]
    have FIN : Hid (∀ w', Below W.heap.size W w' → Ptd w Bk t base LL xs (.returned (.int .i64 2)) w') := Lib.hid fun w' b => ⟨by rw [E], SELF.out w' b (by rw [E]; decide)⟩
    have c0 : W.cell? ⟨w.heap.size, 0, none⟩ = some (.slice a xs.length c) := KW.out.cell 0
    clear SELF h hB nB hn bW kW hW E hm ok
    generalize Ptd w Bk t base LL xs = Q at *
    generalize xs.length = n at *
    generalize base + (LL.length : Int) = z at *
    have heB := decide_eq_true he
    go_enter Try.func31, Try.ntmps31
    go_wp2_with (first | (rw [← HW.out]) | (go_at_call 63; refine HM.out.mono ?_; rintro e w1 ⟨rfl, b1⟩; have B1 := Lib.hid b1; clear b1) | (go_at_call 64; refine (HE.out w1 B1.out).mono ?_; rintro e w2 ⟨rfl, b2⟩; have B2 := Lib.hid (B1.out.trans (b2.mono B1.out.size)); clear b2))
    exact FIN.out _ B2.out
  have E : ptE base LL xs = 0 := by unfold ptE; rw [if_pos hm, if_neg he]
  -- from the append on
  obtain ⟨v, cs, kt, r, e, ht, hv, hlt⟩ := hB
  have hcl := e.1
  have hbv : ∀ q, v.ownBlock = some q → q ≠ t := fun q hq e2 => by
    subst e2
    rcases r with ⟨rfl, rfl⟩ | ⟨g, o, cap, cur, rfl, hg, _⟩
    · simp [Value.ownBlock] at hq
    · have : g = q := by simpa [Value.ownBlock] using hq
      subst this
      exact absurd (kt.ty hg) (by decide)
  -- the copy is there, the row grows, the row is stored, and is cut
  have STEP : Hid (∀ (w1 w3 : World) (u : Value), Below W.heap.size W w1 → OwnN w3 w1.heap.size u xs → Below w1.heap.size w1 w3 →
      ∃ v' w5, (Builtin.append_ #[35, 35] 35 #[v, .slice (some ⟨w3.heap.size, 0, none⟩) 1 1]).run Try.prog (w3.alloc (.cells #[u] 70)) = .ok v' w5 ∧ (∃ a5 c5, v' = .slice (some a5) (cs.length + 1) c5) ∧ Blk w5 t 124 #[.int .i64 base, v] ∧
        ∀ w6, w6 = w5.setCell ⟨t, 1, none⟩ v' → ∃ Bk', BookAt w6 Bk' t base (LL ++ [xs]) ∧ Fr w w6 Bk ∧ (∀ q, Bk q → Bk' q) ∧ ∀ q, Bk' q → Bk q ∨ w.heap.size ≤ q) := Lib.hid fun w1 w3 u b1 hou b3 => by
    have b13 : Below W.heap.size W w3 := b1.trans (b3.mono b1.size)
    have bA : Below w3.heap.size w3 (w3.alloc (.cells #[u] 70)) := (Below.refl _ w3).alloc (Nat.le_refl _) _
    have b14 := b13.trans (bA.mono b13.size)
    have kA : Blk (w3.alloc (.cells #[u] 70)) w3.heap.size 70 #[u] := Blk.new _ _ _
    have rA : RowM (w3.alloc (.cells #[u] 70)) v cs := r.fr (Fr.of_below b14 (fun _ => False)) (fun _ _ h => h)
    have eu : El (w3.alloc (.cells #[u] 70)) (fun q => w1.heap.size ≤ q ∧ q < w3.heap.size) u xs := hou.el.fr (Fr.of_below bA (fun _ => False)) (fun _ _ _ _ h => h)
    obtain ⟨v', w5, hr, r5, f5, hq5, a5, c5, hf5⟩ := put_run (u := u) (ad := ⟨w3.heap.size, 0, none⟩) 35 rA (kA.cell 0) eu.one (by omega)
    have kt5 : Blk w5 t 124 #[.int .i64 base, v] := ((kt.next b14).fr f5 (fun e2 => hbv t e2 rfl))
    refine ⟨v', w5, hr, ⟨a5, c5, hf5⟩, kt5, fun w6 hw6 => ?_⟩
    have f6 : Fr w5 w6 (fun q => q = t) := by rw [hw6]; exact fr_set _ _ _ _
    have fW6 : Fr W w6 (fun q => v.ownBlock = some q ∨ q = t) := ((Fr.of_below b14 (fun q => v.ownBlock = some q ∨ q = t)).on (f5.mono (fun _ _ h => .inl h))).on (f6.mono (fun _ _ h => .inr h))
    have k6 : Blk w6 t 124 #[.int .i64 base, v'] := by rw [hw6]; exact kt5.set 1 v'
    have hWs : w.heap.size ≤ W.heap.size := bW.size
    refine ⟨fun q => Bk q ∨ (w.heap.size ≤ q ∧ q < w6.heap.size), ⟨v', cs ++ [u], k6, r5.fr f6 (fun q hq e2 => ?_), ?_, .inl ht, fun q hq => ?_, fun q hq => ?_⟩, ?_, fun q hq => .inl hq, fun q hq => hq.imp id And.left⟩
    · subst e2
      rcases r5 with ⟨_, h0⟩ | ⟨g, o, cap, cur, hvv, hg, _⟩
      · simp at h0
      · have : g = q := by rw [hvv] at hq; simpa [Value.ownBlock] using hq
        subst this
        exact absurd (kt5.ty hg) (by decide)
    · have e6 : Els w6 Bk cs LL := e.fr fW6 (fun q cu _ hq hh => by
        rcases hh with hh | rfl
        · rcases r with ⟨rfl, rfl⟩ | ⟨g, o, cap, cur, rfl, hg, _⟩
          · simp [Value.ownBlock] at hh
          · have : g = q := by simpa [Value.ownBlock] using hh
            subst this
            exact absurd (hq.ty hg) (by decide)
        · exact absurd (hq.ty kt) (by decide))
      have f56 : Fr (w3.alloc (.cells #[u] 70)) w6 (fun q => v.ownBlock = some q ∨ q = t) := (f5.mono (fun _ _ h => .inl h)).on (f6.mono (fun _ _ h => .inr h))
      have u6 : El w6 (fun q => w1.heap.size ≤ q ∧ q < w3.heap.size) u xs := eu.fr f56 (fun q cu hq _ hh => by
        have hq1 := hq.1
        have hs1 := b1.size
        rcases hh with hh | rfl
        · have := hlt q (hv q hh); omega
        · have := hlt q ht; omega)
      have hs3 : w3.heap.size ≤ w6.heap.size := Nat.le_trans bA.size f56.size
      exact (e6.mono (fun q hq => .inl hq)).snoc (u6.mono (fun q hq => .inr ⟨Nat.le_trans hWs (Nat.le_trans b1.size hq.1), Nat.lt_of_lt_of_le hq.2 hs3⟩))
    · have hq6 : q < w6.heap.size := Nat.lt_of_lt_of_le (r5.lt q hq) f6.size
      rcases hq5 q hq with hh | hh
      · exact .inl (hv q hh)
      · exact .inr ⟨Nat.le_trans (Nat.le_trans hWs b14.size) hh, hq6⟩
    · rcases hq with hq | hq
      · exact Nat.lt_of_lt_of_le (hlt q hq) fW6.size
      · exact hq.2
    · exact (Fr.of_below bW Bk).on (fW6.mono (fun q _ hh => by rcases hh with hh | rfl; exact hv q hh; exact ht))
  have FIN : Hid (∀ w6 w7 Bk', (BookAt w6 Bk' t base (LL ++ [xs]) ∧ Fr w w6 Bk ∧ (∀ q, Bk q → Bk' q) ∧ ∀ q, Bk' q → Bk q ∨ w.heap.size ≤ q) →
      Chd w6 Bk' t (if ((LL.length : Int) + 1 - 64) < 1 then base else base + ((LL.length : Int) + 1 - 64)) ((LL ++ [xs]).drop ((LL.length : Int) + 1 - 64).toNat) w7 → Ptd w Bk t base LL xs (.returned (.int .i64 0)) w7) := Lib.hid fun w6 w7 Bk' h6 hc => by
    obtain ⟨hb6, f6, m1, m2⟩ := h6
    obtain ⟨hb7, f7⟩ := hc
    refine ⟨by rw [E], Bk', ?_, f6.trans f7 (fun _ _ h => h) (fun q hq h => ?_), m1, m2⟩
    · unfold ptS
      rw [if_pos E]
      by_cases h64 : LL.length = 64
      · rw [if_pos h64]
        rw [h64, if_neg (by decide), show (((64 : Nat) : Int) + 1 - 64).toNat = 1 from rfl, List.drop_append_of_le_length (by omega)] at hb7
        exact hb7
      · rw [if_neg h64]
        rw [if_pos (by omega), show ((LL.length : Int) + 1 - 64).toNat = 0 by omega, List.drop_zero] at hb7
        exact hb7
    · rcases m2 q h with h | h
      · exact h
      · omega
  have HC := Lib.hid (fun w6 Bk' (hb : BookAt w6 Bk' t base (LL ++ [xs])) => cut_any (n := (LL.length : Int) + 1 - 64) hb o0 (by omega) (by rw [List.length_append]; simp; omega) (by rw [List.length_append]; simp; omega) (by omega))
  obtain ⟨va, vc, hvf, -, -⟩ := r.form
  subst hvf
  have KT := Lib.hid kt
  have HN := Lib.hid nB
  have HL := Lib.hid hl
  have hlen : (cs.length : Int) = LL.length := by rw [hcl]
  have hw64 : IntKind.i64.wrap ((LL.length : Int) + 1 - 64) = (LL.length : Int) + 1 - 64 := by rw [IntKind.wrap_i64]; omega
  have hn1 : (LL.length : Int) ≤ 64 := by omega
  clear SELF h hn bW kW hW E hm ok hbv hlt hv ht e r kt nB hl
  rw [hcl] at STEP KT
  generalize Ptd w Bk t base LL xs = Q at *
  generalize (LL ++ [xs]).drop ((LL.length : Int) + 1 - 64).toNat = LD at *
  generalize LL ++ [xs] = LA at *
  clear hcl hlen
  generalize LL.length = m at *
  have heB := decide_eq_false he
  have c0 : W.cell? ⟨w.heap.size, 0, none⟩ = some (.slice a xs.length c) := KW.out.cell 0
  go_enter Try.func31, Try.ntmps31
  go_wp2_with (first | (rw [← HW.out]) | (go_at_call 63; refine HM.out.mono ?_; rintro e w1 ⟨rfl, b1⟩; have B1 := Lib.hid b1; clear b1) | (go_at_call 64; refine (HE.out w1 B1.out).mono ?_; rintro e w2 ⟨rfl, b2⟩; have B2 := Lib.hid (B1.out.trans (b2.mono B1.out.size)); clear b2))
  have c2 : w2.cell? ⟨w.heap.size, 0, none⟩ = some (.slice a xs.length c) := (KW.out.next B2.out).cell 0
  have c3 : w2.cell? ⟨t, 1, none⟩ = some (.slice va m vc) := (KT.out.next B2.out).cell 1
  have B3 : Hid (Below W.heap.size W w2.drew) := Lib.hid B2.out.drew
  have HCP := Lib.hid (copied_any c (HN.out.next B3.out) HL.out)
  clear HM HE c0
  go_region_law (first
    | (refine step_append_runI rfl _ _ 35 35 rfl _ _ (by simp [Act.eval]) (by simp [Act.eval]) HR.out ?_)
    | (go_simp; refine HCP.out.mono ?_; rintro e w3 ⟨u, rfl, ho, b3⟩; obtain ⟨v', w5, hr, ⟨a5, c5, hf⟩, k5, fin⟩ := STEP.out w2.drew w3 u B3.out ho b3; obtain ⟨au, cu, rfl, -⟩ := ho.nums; have d3 : w3.cell? ⟨t, 1, none⟩ = some (.slice va m vc) := (KT.out.next (B3.out.trans (b3.mono B3.out.size))).cell 1; have d4 : (w3.alloc (.cells #[.slice au xs.length cu] 70)).cell? ⟨t, 1, none⟩ = some (.slice va m vc) := ((KT.out.next (B3.out.trans (b3.mono B3.out.size))).next ((Below.refl _ _).alloc (Nat.le_refl _) _)).cell 1; subst hf; have K5 := Lib.hid k5; have HFIN := Lib.hid fin; have HR := Lib.hid hr; have d5 : w5.cell? ⟨t, 1, none⟩ = some (.slice va m vc) := k5.cell 1; have f5 := k5.free 1; clear ho b3 k5 fin hr))
  all_goals
    obtain ⟨Bk', h6⟩ := HFIN.out _ rfl
    have K6 := Lib.hid (K5.out.set 1 (.slice (some a5) (m + 1) c5))
    have H6 := Lib.hid h6
    have HC6 := Lib.hid (HC.out _ Bk' h6.1)
    clear h6 HFIN K5 d5 f5 c2 c3
    generalize w5.setCell ⟨t, 1, none⟩ (.slice (some a5) (m + 1) c5) = w6 at *
    have c6 : w6.cell? ⟨t, 1, none⟩ = some (.slice (some a5) (m + 1) c5) := K6.out.cell 1
    go_wp2_with (go_at_call 66; refine HC6.out.mono ?_; rintro e w7 ⟨⟨r, rfl⟩, hc⟩; have HCC := Lib.hid hc; clear hc)
    exact FIN.out w6 w7 Bk' H6.out HCC.out
end Go.Proofs.Ytggjpallbapcmaa.Bk
