/-
  The book: the function that yields, 39, where there is nothing to give.
-/
import Derived.Test.YtlcgicgdlhnfoaaBbd
namespace Go.Proofs.Ytlcgicgdlhnfoaa
open Go.RowKit
attribute [local go_sem] Oper.semAt_some
set_option maxHeartbeats 8000000 in
set_option maxRecDepth 100000 in
theorem yields0 {w : World} {Bk : Nat → Prop} {Fb : Nat → Prop} {t bt bf bm : Nat} {base from_ most : Int} {LL : List (List Int)} (m : Nat)
    (h : BookAt w Bk t base LL) (ok : BOk base LL) (hf : base ≤ from_) (hf2 : from_ ≤ 9223372036854775807) (hmo : 0 ≤ most)
    (kt : Blk w bt 23 #[.pointer (some ⟨t, 0, none⟩)]) (kf : Blk w bf 3 #[.int .i64 from_]) (km : Blk w bm 3 #[.int .i64 most])
    (hz : (sub base LL from_ most).length = 0) :
    Gives Try.prog m 39 #[.pointer (some ⟨bt, 0, none⟩), .pointer (some ⟨bf, 0, none⟩), .pointer (some ⟨bm, 0, none⟩)] encM (fun x W => OwnN W w.heap.size x.1 x.2)
      (fun l => l.map (·.2) <+: sub base LL from_ most) (fun l => l.map (·.2) = sub base LL from_ most) Fb w := by
  intro l J W hW hJ hY h0
  have o0 := ok.b0
  have o1 := ok.b1
  have o2 := ok.n
  have HB := h.next hW
  obtain ⟨v, cs, kb, r, e, ht, hv, hlt⟩ := HB
  have hcl := e.1
  obtain ⟨va, vc, rfl, hvc, hvc2⟩ := r.form
  have b0 : W.cell? ⟨bt, 0, none⟩ = some (.pointer (some ⟨t, 0, none⟩)) := (kt.next hW).cell 0
  have b1 : W.cell? ⟨bf, 0, none⟩ = some (.int .i64 from_) := (kf.next hW).cell 0
  have b2 : W.cell? ⟨bm, 0, none⟩ = some (.int .i64 most) := (km.next hW).cell 0
  have c0 : W.cell? ⟨t, 0, none⟩ = some (.int .i64 base) := kb.cell 0
  have c1 : W.cell? ⟨t, 1, none⟩ = some (.slice va cs.length vc) := kb.cell 1
  -- the two cuts
  obtain ⟨d, hd⟩ : ∃ d : Nat, d = (if (from_ - base).toNat ≤ cs.length then (from_ - base).toNat else cs.length) := ⟨_, rfl⟩
  have hdl : d ≤ cs.length := by rw [hd]; split <;> omega
  obtain ⟨n, hn⟩ : ∃ n : Nat, n = (if most.toNat ≤ cs.length - d then most.toNat else cs.length - d) := ⟨_, rfl⟩
  have hnl : n ≤ cs.length - d := by rw [hn]; split <;> omega
  have hsub : sub base LL from_ most = (LL.drop d).take n := by
    unfold sub
    rw [hd]
    by_cases h1 : (from_ - base).toNat ≤ cs.length
    · rw [if_pos h1] at hd ⊢
      rw [hn]
      by_cases h2 : most.toNat ≤ cs.length - d
      · rw [if_pos h2]
      · rw [if_neg h2, List.take_of_length_le (by rw [List.length_drop]; omega), List.take_of_length_le (by rw [List.length_drop]; omega)]
    · rw [if_neg h1, List.drop_of_length_le (by omega), List.drop_of_length_le (by omega), List.take_nil, List.take_nil]
  have hsl : (sub base LL from_ most).length = n := by rw [hsub, List.length_take, List.length_drop]; omega
  have hmin1 : (if (cs.length : Int) < from_ - base then (cs.length : Int) else from_ - base) = (d : Int) := by
    rw [hd]; split <;> split <;> omega
  have hmin2 : (if ((cs.length - d : Nat) : Int) < most then ((cs.length - d : Nat) : Int) else most) = (n : Int) := by
    rw [hn]; split <;> split <;> omega
  have hfb : IntKind.i64.wrap (from_ - base) = from_ - base := by rw [IntKind.wrap_i64]; omega
  have hdI : (d : Int) ≤ (cs.length : Int) := by omega
  refine callsIn_of_wp Try.func39 rfl trivial ?_ rfl
  simp only [Try.ntmps39, List.size_toArray, List.length_cons, List.length_nil, Nat.reduceAdd, Nat.reduceSub, Array.replicate_succ, Array.replicate_zero, List.push_toArray, List.append_toArray, List.nil_append, List.cons_append]
  obtain ⟨SL, hSL⟩ : ∃ SL, SL = sub base LL from_ most := ⟨_, rfl⟩
  rw [← hSL] at hsub hsl hY ⊢
  have HJ1 : Hid (J [] W.drew) := Lib.hid (hJ _ _ _ h0 (Below.refl _ W).drew)
  have HSL := Lib.hid hsl
  have HW := Lib.hid hW
  have HHJ := Lib.hid hJ
  have HHY := Lib.hid hY
  have hvcI : (cs.length : Int) ≤ (vc : Int) := by omega
  have hvcI2 : (d : Int) ≤ (vc : Int) := by omega
  have hlen64 : cs.length ≤ 64 := by omega
  rw [← hSL] at hz
  have hn0 : n = 0 := by omega
  have HS0 : Hid (List.map (fun x : Mv => x.2) [] = SL) := Lib.hid (by rw [List.map_nil]; exact (List.length_eq_zero_iff.1 (by rw [hsl, hn0])).symm)
  clear hz r e kb hv hlt hsub hsl h0 hJ hY hW kt kf km ht h ok hd hn hSL HHY HHJ HW HSL o2
  generalize LL.length = nn at *
  clear hcl
  generalize hZ : cs.length = z at *
  clear hZ
  subst hn0
  by_cases hA : (z : Int) < from_ - base
  · obtain rfl : d = z := by rw [if_pos hA] at hmin1; omega
    have hAB := decide_eq_true hA
    have hfd : d - d = 0 := by omega
    have hM : ¬ most < ((0 : Nat) : Int) := by omega
    clear hmin1 hmin2
    by_cases hM : ((0 : Nat) : Int) < most
    · have hMB := decide_eq_true hM
      by_cases hdv : vc = d
      · subst hdv
        gi_wp2
        gi_region
        all_goals gi_wp2
        all_goals
          gi_loopw [32] (fun i wr => i = .int .i64 0 ∧ Hid (J [] wr)) (fun _ _ => 0)
          case atStart => exact ⟨rfl, HJ1⟩
          case round =>
            obtain ⟨rfl, hJs⟩ := hrel
            gi_wp2
            go_end0
            exact ⟨⟨_, rfl⟩, [], HS0.out, hJs.out⟩
      · gi_wp2
        gi_region
        all_goals gi_wp2
        all_goals
          gi_loopw [32] (fun i wr => i = .int .i64 0 ∧ Hid (J [] wr)) (fun _ _ => 0)
          case atStart => exact ⟨rfl, HJ1⟩
          case round =>
            obtain ⟨rfl, hJs⟩ := hrel
            gi_wp2
            go_end0
            exact ⟨⟨_, rfl⟩, [], HS0.out, hJs.out⟩
    · obtain rfl : most = 0 := by omega
      clear hM
      by_cases hdv : vc = d
      · subst hdv
        gi_wp2
        gi_region
        all_goals gi_wp2
        all_goals
          gi_loopw [32] (fun i wr => i = .int .i64 0 ∧ Hid (J [] wr)) (fun _ _ => 0)
          case atStart => exact ⟨rfl, HJ1⟩
          case round =>
            obtain ⟨rfl, hJs⟩ := hrel
            gi_wp2
            go_end0
            exact ⟨⟨_, rfl⟩, [], HS0.out, hJs.out⟩
      · gi_wp2
        gi_region
        all_goals gi_wp2
        all_goals
          gi_loopw [32] (fun i wr => i = .int .i64 0 ∧ Hid (J [] wr)) (fun _ _ => 0)
          case atStart => exact ⟨rfl, HJ1⟩
          case round =>
            obtain ⟨rfl, hJs⟩ := hrel
            gi_wp2
            go_end0
            exact ⟨⟨_, rfl⟩, [], HS0.out, hJs.out⟩
  · have hfd : from_ - base = (d : Int) := by rw [if_neg hA] at hmin1; omega
    clear hfb hmin1 hA
    have hAB : decide ((z : Int) < (d : Int)) = false := decide_eq_false (by omega)
    by_cases hM : ((z - d : Nat) : Int) < most
    · have hzd : z = d := by rw [if_pos hM] at hmin2; omega
      subst hzd
      have hzz : z - z = 0 := by omega
      have hMB := decide_eq_true hM
      clear hmin2
      by_cases hdv : vc = z
      · subst hdv
        gi_wp2
        gi_region
        all_goals gi_wp2
        all_goals
          gi_loopw [32] (fun i wr => i = .int .i64 0 ∧ Hid (J [] wr)) (fun _ _ => 0)
          case atStart => exact ⟨rfl, HJ1⟩
          case round =>
            obtain ⟨rfl, hJs⟩ := hrel
            gi_wp2
            go_end0
            exact ⟨⟨_, rfl⟩, [], HS0.out, hJs.out⟩
      · gi_wp2
        gi_region
        all_goals gi_wp2
        all_goals
          gi_loopw [32] (fun i wr => i = .int .i64 0 ∧ Hid (J [] wr)) (fun _ _ => 0)
          case atStart => exact ⟨rfl, HJ1⟩
          case round =>
            obtain ⟨rfl, hJs⟩ := hrel
            gi_wp2
            go_end0
            exact ⟨⟨_, rfl⟩, [], HS0.out, hJs.out⟩
    · have hmn : most = 0 := by rw [if_neg hM] at hmin2; omega
      subst hmn
      have hMB := decide_eq_false hM
      clear hmin2 hM
      by_cases hdv : vc = d
      · subst hdv
        gi_wp2
        gi_region
        all_goals gi_wp2
        all_goals
          gi_loopw [32] (fun i wr => i = .int .i64 0 ∧ Hid (J [] wr)) (fun _ _ => 0)
          case atStart => exact ⟨rfl, HJ1⟩
          case round =>
            obtain ⟨rfl, hJs⟩ := hrel
            gi_wp2
            go_end0
            exact ⟨⟨_, rfl⟩, [], HS0.out, hJs.out⟩
      · gi_wp2
        gi_region
        all_goals gi_wp2
        all_goals
          gi_loopw [32] (fun i wr => i = .int .i64 0 ∧ Hid (J [] wr)) (fun _ _ => 0)
          case atStart => exact ⟨rfl, HJ1⟩
          case round =>
            obtain ⟨rfl, hJs⟩ := hrel
            gi_wp2
            go_end0
            exact ⟨⟨_, rfl⟩, [], HS0.out, hJs.out⟩
end Go.Proofs.Ytlcgicgdlhnfoaa
