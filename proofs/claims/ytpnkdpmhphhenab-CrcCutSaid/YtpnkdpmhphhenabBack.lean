/-
  THE LAW CrcBack AS A WALK.
-/
import Derived.Test.YtpnkdpmhphhenabPacks
namespace Go.Proofs.Ytpnkdpmhphhenab
open Go.RowKit Go.Sort
/-- what CrcBack's loop makes of its texts: their packs, one behind the other -/
theorem Strs.take {w : World} {a : Option Addr} {xs ys : List ByteArray} (h : Strs w a (xs ++ ys)) : Strs w a xs := fun i hi => by
  obtain ⟨b, o, e, hl, hc⟩ := h i (by simp; omega)
  exact ⟨b, o, e, hl, by rw [hc, List.getElem_append_left hi]⟩
/-- where the loop over the texts stands -/
def Packed (xs : List ByteArray) (k : Nat) (s : ByteArray) : Prop := k ≤ xs.length ∧ s = packs (xs.take k) ∧ s.size ≤ 50000
theorem Packed.start (xs : List ByteArray) : Packed xs 0 ⟨#[]⟩ := ⟨Nat.zero_le _, rfl, Nat.zero_le _⟩
theorem total_take (xs : List ByteArray) (k : Nat) : total (xs.take k) ≤ total xs := by
  induction xs generalizing k with
  | nil => simp
  | cons x xs ih =>
    cases k with
    | zero => exact Nat.zero_le _
    | succ k => simp only [List.take_succ_cons, total]; have := ih k; omega
theorem Packed.next {xs : List ByteArray} {k : Nat} {s : ByteArray} (h : Packed xs k s) (ht : total xs ≤ 40000) (hn : xs.length ≤ 200) (hk : k < xs.length) : Packed xs (k + 1) (s ++ packS xs[k]) := by
  obtain ⟨_, rfl, _⟩ := h
  have e : packs (xs.take (k + 1)) = packs (xs.take k) ++ packS xs[k] := by rw [take_next xs k hk, packs_snoc]
  refine ⟨hk, e.symm, ?_⟩
  rw [← e, packs_size]
  have := total_take xs (k + 1)
  have h2 := List.length_take_le (k + 1) xs
  omega
theorem Own.strs2 {w : World} {B : Nat} {v : Value} {xs : List ByteArray} (h : Own w B v xs) : ∃ a c, v = .slice a xs.length c ∧ Strs w a xs ∧ xs.length ≤ c := by
  obtain ⟨a, c, rfl, ht⟩ := h.strs
  refine ⟨a, c, rfl, ht, ?_⟩
  obtain ⟨_, h2⟩ := h
  rcases h2 with ⟨h3, h4⟩ | ⟨g', cap', cur, h3, _, _, h5, _⟩
  · omega
  · simp only [Value.slice.injEq] at h3
    obtain ⟨_, _, rfl⟩ := h3
    exact h5
set_option maxHeartbeats 2000000 in
theorem back_law (xs : List ByteArray) (a : Option Addr) (c : Nat) (more : ByteArray) (w : World) (hl : xs.length ≤ 140737488355328) (hz : ∀ x ∈ xs, x.size ≤ 9223372036854775807) (hm : more.size ≤ 9223372036854775807) (h : Strs w a xs) :
    Calls Try.prog 5 #[.slice a xs.length c, .string more] w fun e w' => e = .returned (.bool true) ∧ Below w.heap.size w w' := by
  have hfew := Lib.hid (few_any xs a c w hl hz h)
  have HL : Hid (xs.length = xs.length) := rfl
  go_enter Try.func5, Try.ntmps5
  go_wp2_with fail
  refine hfew.out.mono ?_
  rintro r w1 ⟨rfl, ⟨v, rfl⟩ | ⟨rfl, ht, hn⟩⟩
  · go_wp2_with fail
    refine (awake_any _).mono ?_
    rintro r w2 ⟨rfl, b2⟩
    go_wp2_with fail
    go_ret
    exact ⟨rfl, b2⟩
  by_cases hm2 : 20000 < more.size
  · go_wp2_with fail
    refine (awake_any _).mono ?_
    rintro r w2 ⟨rfl, b2⟩
    go_wp2_with fail
    go_ret
    exact ⟨rfl, b2⟩
  go_wp2_with fail
  have H := Lib.hid h
  clear h
  have HT := Lib.hid ht
  have HN2 := Lib.hid hn
  clear ht hn HL
  generalize hN : xs.length = N at *
  have HN := Lib.hid hN
  clear hN
  go_loopw [7, 8] (fun s i wr => Below w.heap.size w wr ∧ ∃ (k : Nat) (u : ByteArray), i = .int .i64 k ∧ s = .string u ∧ Packed xs k u) (fun _ i _ => N - (intOf i).toNat)
  case atStart => exact ⟨Below.refl _ _, 0, ⟨#[]⟩, rfl, rfl, Packed.start xs⟩
  case round =>
    obtain ⟨hb, k, u, rfl, rfl, hp⟩ := hrel
    have hk : k ≤ N := by have := hp.1; rw [HN.out] at this; exact this
    by_cases hlt : k < N
    · have hlx : k < xs.length := by rw [HN.out]; exact hlt
      obtain ⟨b, o, ea, l1, c1⟩ := H.out k hlx
      subst ea
      rw [← hb.cell (p := ⟨b, o + k, none⟩) l1] at c1
      have hnx := Lib.hid (hp.next HT.out (by rw [HN.out]; exact HN2.out) hlx)
      have hxs : xs[k].size ≤ 40000 := Nat.le_trans (total_le (List.getElem_mem hlx)) HT.out
      have hus := hp.2.2
      generalize xs[k] = x at *
      have hps := pack_size x
      have hki : (k : Int) < (N : Int) := by omega
      have hsum : u.size + (packS x).size ≤ 9223372036854775807 := by omega
      clear hps
      go_wp2_with fail
      refine (pack_any x (by omega) _).mono ?_
      rintro r w1 ⟨rfl, b1⟩
      generalize packS x = p at *
      go_wp2_with fail
      go_roundw
      case rel => exact ⟨hb.trans (b1.mono hb.size), k + 1, u ++ p, by go_num, rfl, hnx.out⟩
      case measure => simp [intOf]; omega
    · obtain rfl : k = N := by omega
      have hu : Hid (u = packs xs) := by
        have := hp.2.1
        rw [List.take_of_length_le (by rw [HN.out]; exact Nat.le_refl _)] at this
        exact this
      have hus := hp.2.2
      clear hp
      have hsum : u.size + more.size ≤ 9223372036854775807 := by omega
      have hms : more.size ≤ 281474976710656 := by omega
      have hunp := Lib.hid (fun W => unpack_any more hms W)
      have hall := Lib.hid (fun W => all_any (u ++ more) (by rw [ByteArray.size_append]; omega) W)
      go_wp2_with fail
      refine (hunp.out _).mono ?_
      rintro r w1 ⟨rfl, b1⟩
      have c1 : Below w.heap.size w w1 := hb.trans (b1.mono hb.size)
      unfold unpV
      go_wp2_with fail
      refine (hall.out _).mono ?_
      rintro r w2 ⟨v, rfl, o2, b2⟩
      have c2 : Below w.heap.size w w2 := c1.trans (b2.mono c1.size)
      by_cases he : (unp more).2.2 = 0
      · obtain ⟨ys, hy, hpos⟩ := all_more xs more HT.out he
        rw [← hu.out] at hy
        have hv : (allS (u ++ more)).1 = xs ++ ys := by rw [hy]
        rw [hv] at o2
        have Hv := Lib.hid hv
        clear hv hy
        obtain ⟨p, cp, rfl, t2, hcap⟩ := o2.strs2
        have hEb : ((unp more).2.2 == 0) = true := by simp [he]
        generalize (unp more).2.2 = um at *
        have hlen : (xs ++ ys).length = k + ys.length := by rw [List.length_append, HN.out]
        rw [hlen] at hcap ⊢
        generalize ys.length = M at *
        have g1 : (k : Int) < ((k + M : Nat) : Int) := by omega
        have g2 : (k : Int) ≤ (cp : Int) := by omega
        have g3 : k ≤ cp := by omega
        go_wp2_with fail
        refine (awake_any _).mono ?_
        rintro r w3 ⟨rfl, b3⟩
        have c3 : Below w.heap.size w w3 := c2.trans (b3.mono c2.size)
        have hsame := Lib.hid (same_any xs p a cp c w3 (by rw [HN.out]; exact hl) ((t2.below b3).take) (H.out.below c3))
        rw [HN.out] at hsame
        go_wp2_with fail
        refine hsame.out.mono ?_
        rintro r w4 ⟨rfl, b4⟩
        go_wp2_with fail
        go_ret
        exact ⟨rfl, c3.trans (b4.mono c3.size)⟩
      · have hy := all_back xs more HT.out he
        rw [← hu.out] at hy
        rw [hy] at o2
        rw [hy]
        clear hy
        obtain ⟨p, cp, rfl, t2⟩ := o2.strs
        simp only at t2
        have hEb : ((unp more).2.2 == 0) = false := by simp [he]
        generalize unp more = um at *
        go_wp2_with fail
        refine (awake_any _).mono ?_
        rintro r w3 ⟨rfl, b3⟩
        have c3 : Below w.heap.size w w3 := c2.trans (b3.mono c2.size)
        have hsame := Lib.hid (same_any xs p a cp c w3 (by rw [HN.out]; exact hl) (t2.below b3) (H.out.below c3))
        rw [HN.out] at hsame
        simp only [HN.out]
        go_wp2_with fail
        refine hsame.out.mono ?_
        rintro r w4 ⟨rfl, b4⟩
        go_wp2_with fail
        go_ret
        exact ⟨rfl, c3.trans (b4.mono c3.size)⟩
end Go.Proofs.Ytpnkdpmhphhenab
