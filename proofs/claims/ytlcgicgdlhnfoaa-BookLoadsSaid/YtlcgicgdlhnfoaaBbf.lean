/-
  The book: the function that yields, where there is something to give.
-/
import Derived.Test.YtlcgicgdlhnfoaaBbd
namespace Go.Proofs.Ytlcgicgdlhnfoaa
open Go.RowKit
attribute [local go_sem] Oper.semAt_some
set_option maxHeartbeats 8000000 in
set_option maxRecDepth 100000 in
theorem yields1 {w : World} {Bk : Nat → Prop} {Fb : Nat → Prop} {t bt bf bm : Nat} {base from_ most : Int} {LL : List (List Int)} (m : Nat) (hm : 3 ≤ m)
    (h : BookAt w Bk t base LL) (ok : BOk base LL) (hl : ∀ xs ∈ LL, xs.length ≤ 1000) (hf : base ≤ from_) (hf2 : from_ ≤ 9223372036854775807) (hmo : 0 ≤ most)
    (kt : Blk w bt 23 #[.pointer (some ⟨t, 0, none⟩)]) (kf : Blk w bf 3 #[.int .i64 from_]) (km : Blk w bm 3 #[.int .i64 most])
    (hB : ∀ q, Bk q → ¬ Fb q) (hz : 0 < (sub base LL from_ most).length) :
    Gives Try.prog m 39 #[.pointer (some ⟨bt, 0, none⟩), .pointer (some ⟨bf, 0, none⟩), .pointer (some ⟨bm, 0, none⟩)] encM (fun x W => OwnN W w.heap.size x.1 x.2)
      (fun l => l.map (·.2) <+: sub base LL from_ most) (fun l => l.map (·.2) = sub base LL from_ most) Fb w := by
  intro l J W hW hJ hY h0
  have o0 := ok.b0
  have o1 := ok.b1
  have o2 := ok.n
  have HB := h.next hW
  have hlt0 : ∀ q, Bk q → q < w.heap.size := by
    obtain ⟨_, _, _, _, _, _, _, h0⟩ := h
    exact h0
  obtain ⟨v, cs, kb, r, e, ht, hv, hlt⟩ := HB
  have hcl := e.1
  obtain ⟨va, vc, rfl, hvc, hvc2⟩ := r.form
  have b0 : W.cell? ⟨bt, 0, none⟩ = some (.pointer (some ⟨t, 0, none⟩)) := (kt.next hW).cell 0
  have b1 : W.cell? ⟨bf, 0, none⟩ = some (.int .i64 from_) := (kf.next hW).cell 0
  have b2 : W.cell? ⟨bm, 0, none⟩ = some (.int .i64 most) := (km.next hW).cell 0
  have c0 : W.cell? ⟨t, 0, none⟩ = some (.int .i64 base) := kb.cell 0
  have c1 : W.cell? ⟨t, 1, none⟩ = some (.slice va cs.length vc) := kb.cell 1
  -- the two cuts
  obtain ⟨d, hd⟩ : ∃ d : Nat, d = (if (from_ - base).toNat ≤ cs.length then (from_ - base).toNat else cs.length) := ⟨_, rfl⟩
  have hdl : d ≤ cs.length := by rw [hd]; split <;> omega
  obtain ⟨n, hn⟩ : ∃ n : Nat, n = (if most.toNat ≤ cs.length - d then most.toNat else cs.length - d) := ⟨_, rfl⟩
  have hnl : n ≤ cs.length - d := by rw [hn]; split <;> omega
  have hsub : sub base LL from_ most = (LL.drop d).take n := by
    unfold sub
    rw [hd]
    by_cases h1 : (from_ - base).toNat ≤ cs.length
    · rw [if_pos h1] at hd ⊢
      rw [hn]
      by_cases h2 : most.toNat ≤ cs.length - d
      · rw [if_pos h2]
      · rw [if_neg h2, List.take_of_length_le (by rw [List.length_drop]; omega), List.take_of_length_le (by rw [List.length_drop]; omega)]
    · rw [if_neg h1, List.drop_of_length_le (by omega), List.drop_of_length_le (by omega), List.take_nil, List.take_nil]
  have hsl : (sub base LL from_ most).length = n := by rw [hsub, List.length_take, List.length_drop]; omega
  have hmin1 : (if (cs.length : Int) < from_ - base then (cs.length : Int) else from_ - base) = (d : Int) := by
    rw [hd]; split <;> split <;> omega
  have hmin2 : (if ((cs.length - d : Nat) : Int) < most then ((cs.length - d : Nat) : Int) else most) = (n : Int) := by
    rw [hn]; split <;> split <;> omega
  have hfb : IntKind.i64.wrap (from_ - base) = from_ - base := by rw [IntKind.wrap_i64]; omega
  have hdI : (d : Int) ≤ (cs.length : Int) := by omega
  refine callsIn_of_wp Try.func39 rfl trivial ?_ rfl
  simp only [Try.ntmps39, List.size_toArray, List.length_cons, List.length_nil, Nat.reduceAdd, Nat.reduceSub, Array.replicate_succ, Array.replicate_zero, List.push_toArray, List.append_toArray, List.nil_append, List.cons_append]
  obtain ⟨SL, hSL⟩ : ∃ SL, SL = sub base LL from_ most := ⟨_, rfl⟩
  rw [← hSL] at hsub hsl hY ⊢
  have HJ1 : Hid (J [] W.drew) := Lib.hid (hJ _ _ _ h0 (Below.refl _ W).drew)
  have HSL := Lib.hid hsl
  have HW := Lib.hid hW
  have HHJ := Lib.hid hJ
  have HHY := Lib.hid hY
  have hvcI : (cs.length : Int) ≤ (vc : Int) := by omega
  have hvcI2 : (d : Int) ≤ (vc : Int) := by omega
  have hlen64 : cs.length ≤ 64 := by omega
  rw [← hSL] at hz
  have hn0 : 0 < n := by omega
  have hdv : ¬ vc = d := by omega
  obtain ⟨g, o, hva⟩ : ∃ g o, va = some ⟨g, o, none⟩ := by
    obtain ⟨g, o, c, e1, -⟩ := r.at_ (k := 0) (by omega)
    simp only [Value.slice.injEq] at e1
    exact ⟨g, o, e1.1⟩
  subst hva
  have CELL : Hid (∀ k, k < n → ∃ (u : Value) (xs : List Int), (∀ wr, Fr W wr (fun q => Fb q ∨ w.heap.size ≤ q) → wr.cell? ⟨g, o + d + k, none⟩ = some u) ∧ (∀ wr, Fr W wr (fun q => Fb q ∨ w.heap.size ≤ q) → El wr Bk u xs) ∧ xs.length ≤ 1000 ∧
      (∀ pre : List Mv, pre.map (fun x : Mv => x.2) = SL.take k → ∀ u' : Value, (pre ++ [(u', xs)]).map (fun x : Mv => x.2) <+: SL ∧ (pre ++ [(u', xs)]).map (fun x : Mv => x.2) = SL.take (k + 1))) := Lib.hid fun k hk => by
    have hk1 : d + k < cs.length := by omega
    have hk2 : d + k < LL.length := by omega
    have hP : ∀ q, Bk q → ¬ (Fb q ∨ w.heap.size ≤ q) := fun q hq hh => by
      rcases hh with hh | hh
      · exact hB q hq hh
      · have := hlt0 q hq; omega
    refine ⟨cs[d + k], LL[d + k], fun wr f => ?_, fun wr f => (e.2 (d + k) hk1 hk2).fr f (fun q _ hq _ => hP q hq), hl _ (List.getElem_mem hk2), fun pre hp u' => ?_⟩
    · obtain ⟨g', o', c', e1, hg, ck, -⟩ := r.at_ hk1
      simp only [Value.slice.injEq, Option.some.injEq, Addr.mk.injEq, and_true] at e1
      obtain ⟨⟨rfl, rfl⟩, -⟩ := e1
      rw [World.cell?_of_block (f.block g hg (hP g (hv g rfl))), Nat.add_assoc]
      exact ck
    · have e2 : (pre ++ [(u', LL[d + k])]).map (fun x : Mv => x.2) = SL.take (k + 1) := by
        have hk3 : k < SL.length := by omega
        rw [List.map_append, hp, List.take_succ_eq_append_getElem hk3]
        congr 1
        simp only [List.map_cons, List.map_nil, List.cons.injEq, and_true]
        have : SL[k]? = LL[d + k]? := by rw [hsub, List.getElem?_take, if_pos hk, List.getElem?_drop]
        rw [List.getElem?_eq_getElem hk3, List.getElem?_eq_getElem hk2] at this
        exact (Option.some.inj this).symm
      exact ⟨by rw [e2]; exact List.take_prefix _ _, e2⟩
  clear hz r e kb hv hlt hsub hsl hl h0 hJ hY hW kt kf km hB ht h ok hd hn hSL o2 hlt0
  generalize LL.length = nn at *
  clear hcl
  generalize hZ : cs.length = z at *
  clear hZ
  have hmm : 1 ≤ m - 1 - 1 := by omega
  have hmm2 : 1 ≤ m - 1 := by omega
  have hmm1 : 1 ≤ m := by omega
  have hA : ¬ (z : Int) < from_ - base := by
    intro hA
    rw [if_pos hA] at hmin1
    omega
  have hfd : from_ - base = (d : Int) := by rw [if_neg hA] at hmin1; omega
  clear hfb hmin1 hA
  have hAB : decide ((z : Int) < (d : Int)) = false := decide_eq_false (by omega)
  by_cases hM : ((z - d : Nat) : Int) < most
  · have hzd : z - d = n := by rw [if_pos hM] at hmin2; omega
    rw [hzd] at hM
    have hMB := decide_eq_true hM
    clear hmin2
    gi_wp2
    gi_region
    all_goals gi_wp2
    all_goals
      gi_loopw [32] (fun i wr => ∃ (k : Nat) (pre : List Mv), k ≤ n ∧ i = .int .i64 k ∧ Hid (pre.map (fun x : Mv => x.2) = SL.take k) ∧ Hid (J pre wr) ∧ Hid (Fr W wr (fun q => Fb q ∨ w.heap.size ≤ q))) (fun i _ => n - (intOf i).toNat)
      case atStart => exact ⟨0, [], Nat.zero_le _, rfl, Lib.hid (by simp), HJ1, Lib.hid (fr_drew _ _)⟩
      case round =>
        obtain ⟨k, pre, hk, rfl, hp, hJs, hF⟩ := hrel
        by_cases hkn : k < n
        · have hkI : (k : Int) < (n : Int) := by omega
          obtain ⟨u, xs, CK, XE, XL, PS⟩ := CELL.out k hkn
          have PS1 := Lib.hid (PS pre hp.out)
          have ck := (CK wr hF.out)
          have EL1 := Lib.hid (XE wr hF.out)
          obtain ⟨au, cu, rfl, nu⟩ := EL1.out.nums
          have XL1 := Lib.hid XL
          clear CK XE PS XL
          obtain ⟨w5, hw5⟩ : ∃ w5, w5 = wr.alloc (.cells #[.slice au xs.length cu] 37) := ⟨_, rfl⟩
          have k5 : Blk w5 wr.heap.size 37 #[.slice au xs.length cu] := by rw [hw5]; exact Blk.new wr 37 _
          have b5 : Below wr.heap.size wr w5 := by rw [hw5]; exact (Below.refl _ wr).alloc (Nat.le_refl _) _
          have HW5 := Lib.hid hw5
          have HCP := Lib.hid (copied_any cu (nu.next b5) XL1.out)
          have z5 : w5.cell? ⟨wr.heap.size, 0, none⟩ = some (.slice au xs.length cu) := k5.cell 0
          have YY : Hid (∀ w6 u', OwnN w6 w5.heap.size u' xs → Below w5.heap.size w5 w6 → YieldAt Fence.wide (m - 1) Try.prog l #[.agg #[u']] w6 fun e W' => e = .returned (.bool true) ∧ J (pre ++ [(u', xs)]) W' ∧ Fr W W' (fun q => Fb q ∨ w.heap.size ≤ q)) := Lib.hid fun w6 u' ho b6 => by
            have b56 : Below wr.heap.size wr w6 := b5.trans (b6.mono b5.size)
            have hwr : w.heap.size ≤ wr.heap.size := Nat.le_trans HW.out.size hF.out.size
            refine (HHY.out pre (u', xs) w6 (HHJ.out _ _ _ hJs.out b56) (ho.drop (w' := w) (Nat.le_trans hwr b5.size)) ?_).mono ?_
            · exact (PS1.out u').1
            · rintro e W' ⟨rfl, hj, hf⟩
              exact ⟨rfl, hj, (hF.out.on (Fr.of_below b56 _)).on hf⟩
          have PS2 := Lib.hid (fun u' => (PS1.out u').2)
          clear hw5 k5 b5 nu EL1 PS1 hJs hF hp HHY HHJ CELL HJ1
          gi_wp2
          rw [← HW5.out]
          refine ⟨trivial, ?_⟩
          refine ((callsIn_wide (n := m - 1)).2 HCP.out).mono ?_
          rintro e w6 ⟨u', rfl, ho, b6⟩
          obtain ⟨fn, tmps, assign, body, hy, hR⟩ := YY.out w6 u' ho b6
          obtain ⟨au', cu', rfl, -⟩ := ho.nums
          have PS3 := Lib.hid (PS2.out (.slice au' xs.length cu'))
          have HRR := Lib.hid hR
          clear hR ho b6 HCP YY PS2 HW5
          gi_wp2
          refine HRR.out.mono ?_
          rintro e w7 ⟨rfl, hj7, hf7⟩
          have J7 := Lib.hid hj7
          have F7 := Lib.hid hf7
          clear HRR hj7 hf7 hy
          gi_wp2
          go_roundw
          case rel => exact ⟨k + 1, _, by omega, by go_num, PS3.out, J7.out, F7.out⟩
          case measure => simp [intOf]; omega
        · obtain rfl : k = n := by omega
          have hkI : ¬ (k : Int) < (k : Int) := by omega
          gi_wp2
          go_end0
          exact ⟨⟨_, rfl⟩, pre, by rw [hp.out, List.take_of_length_le (by rw [HSL.out]; exact Nat.le_refl _)], hJs.out⟩
  · have hmn : most = (n : Int) := by rw [if_neg hM] at hmin2; omega
    subst hmn
    have hMB := decide_eq_false hM
    clear hmin2 hM
    gi_wp2
    gi_region
    all_goals gi_wp2
    all_goals
      gi_loopw [32] (fun i wr => ∃ (k : Nat) (pre : List Mv), k ≤ n ∧ i = .int .i64 k ∧ Hid (pre.map (fun x : Mv => x.2) = SL.take k) ∧ Hid (J pre wr) ∧ Hid (Fr W wr (fun q => Fb q ∨ w.heap.size ≤ q))) (fun i _ => n - (intOf i).toNat)
      case atStart => exact ⟨0, [], Nat.zero_le _, rfl, Lib.hid (by simp), HJ1, Lib.hid (fr_drew _ _)⟩
      case round =>
        obtain ⟨k, pre, hk, rfl, hp, hJs, hF⟩ := hrel
        by_cases hkn : k < n
        · have hkI : (k : Int) < (n : Int) := by omega
          obtain ⟨u, xs, CK, XE, XL, PS⟩ := CELL.out k hkn
          have PS1 := Lib.hid (PS pre hp.out)
          have ck := (CK wr hF.out)
          have EL1 := Lib.hid (XE wr hF.out)
          obtain ⟨au, cu, rfl, nu⟩ := EL1.out.nums
          have XL1 := Lib.hid XL
          clear CK XE PS XL
          obtain ⟨w5, hw5⟩ : ∃ w5, w5 = wr.alloc (.cells #[.slice au xs.length cu] 37) := ⟨_, rfl⟩
          have k5 : Blk w5 wr.heap.size 37 #[.slice au xs.length cu] := by rw [hw5]; exact Blk.new wr 37 _
          have b5 : Below wr.heap.size wr w5 := by rw [hw5]; exact (Below.refl _ wr).alloc (Nat.le_refl _) _
          have HW5 := Lib.hid hw5
          have HCP := Lib.hid (copied_any cu (nu.next b5) XL1.out)
          have z5 : w5.cell? ⟨wr.heap.size, 0, none⟩ = some (.slice au xs.length cu) := k5.cell 0
          have YY : Hid (∀ w6 u', OwnN w6 w5.heap.size u' xs → Below w5.heap.size w5 w6 → YieldAt Fence.wide (m - 1) Try.prog l #[.agg #[u']] w6 fun e W' => e = .returned (.bool true) ∧ J (pre ++ [(u', xs)]) W' ∧ Fr W W' (fun q => Fb q ∨ w.heap.size ≤ q)) := Lib.hid fun w6 u' ho b6 => by
            have b56 : Below wr.heap.size wr w6 := b5.trans (b6.mono b5.size)
            have hwr : w.heap.size ≤ wr.heap.size := Nat.le_trans HW.out.size hF.out.size
            refine (HHY.out pre (u', xs) w6 (HHJ.out _ _ _ hJs.out b56) (ho.drop (w' := w) (Nat.le_trans hwr b5.size)) ?_).mono ?_
            · exact (PS1.out u').1
            · rintro e W' ⟨rfl, hj, hf⟩
              exact ⟨rfl, hj, (hF.out.on (Fr.of_below b56 _)).on hf⟩
          have PS2 := Lib.hid (fun u' => (PS1.out u').2)
          clear hw5 k5 b5 nu EL1 PS1 hJs hF hp HHY HHJ CELL HJ1
          gi_wp2
          rw [← HW5.out]
          refine ⟨trivial, ?_⟩
          refine ((callsIn_wide (n := m - 1)).2 HCP.out).mono ?_
          rintro e w6 ⟨u', rfl, ho, b6⟩
          obtain ⟨fn, tmps, assign, body, hy, hR⟩ := YY.out w6 u' ho b6
          obtain ⟨au', cu', rfl, -⟩ := ho.nums
          have PS3 := Lib.hid (PS2.out (.slice au' xs.length cu'))
          have HRR := Lib.hid hR
          clear hR ho b6 HCP YY PS2 HW5
          gi_wp2
          refine HRR.out.mono ?_
          rintro e w7 ⟨rfl, hj7, hf7⟩
          have J7 := Lib.hid hj7
          have F7 := Lib.hid hf7
          clear HRR hj7 hf7 hy
          gi_wp2
          go_roundw
          case rel => exact ⟨k + 1, _, by omega, by go_num, PS3.out, J7.out, F7.out⟩
          case measure => simp [intOf]; omega
        · obtain rfl : k = n := by omega
          have hkI : ¬ (k : Int) < (k : Int) := by omega
          gi_wp2
          go_end0
          exact ⟨⟨_, rfl⟩, pre, by rw [hp.out, List.take_of_length_le (by rw [HSL.out]; exact Nat.le_refl _)], hJs.out⟩
end Go.Proofs.Ytlcgicgdlhnfoaa
