/-
  THE WALKS OF THE DOCUMENT OWN Unpack AND All.
-/
import Derived.Test.YtpnkdpmhphhenabAll
namespace Go.Proofs.Ytpnkdpmhphhenab
open Go.RowKit Go.Sort
theorem ret_unp {s : ByteArray} {x : ByteArray × ByteArray × Int} {v : Value} (h : unp s = x) (hv : v = unpV x) : Ending.returned v = .returned (unpV (unp s)) := by rw [h, hv]
set_option maxRecDepth 10000 in
set_option maxHeartbeats 1000000 in
theorem runpack_any (s : ByteArray) (hs : s.size ≤ 281474976710656) (w : World) :
    Calls Try.prog 14 #[.string s] w fun e w' => e = .returned (unpV (unp s)) ∧ Below w.heap.size w w' := by
  by_cases h3 : s.size < 3
  · have hu : Hid (unp s = (⟨#[]⟩, ⟨#[]⟩, 5)) := by unfold Hid unp; rw [if_pos h3]
    go_enter Try.func14, Try.ntmps14
    go_wp2_with fail
    go_ret3
    exact ⟨by rw [hu.out]; rfl, Below.refl _ _⟩
  · have b0 := s[0].toNat_lt
    have b1 := s[1].toNat_lt
    have b2 := s[2].toNat_lt
    have p0 : (0 : Int) < (s.size : Int) := by omega
    have p1 : (1 : Int) < (s.size : Int) := by omega
    have p2 : (2 : Int) < (s.size : Int) := by omega
    have q0 : 0 < s.size := by omega
    have q1 : 1 < s.size := by omega
    have q2 : 2 < s.size := by omega
    have e3 := len3_eq s q0 q1 q2
    have f4 : (65536 : Int) * (s[0].toNat : Int) + (256 : Int) * (s[1].toNat : Int) + (s[2].toNat : Int) = (len3 s : Int) := by omega
    have hu := Lib.hid (unp_eq s h3)
    have hfr := fun h => front_of s h3 h
    have hpi := fun h => pack_iff s h3 h
    generalize len3 s = L at *
    have Hpi := Lib.hid hpi
    have F4 := Lib.hid f4
    clear hpi hfr e3 f4
    by_cases h4 : 1048576 < L
    · have hu2 := hu.out
      rw [if_pos h4] at hu2
      have Hu := Lib.hid hu2
      clear hu2 hu
      go_enter Try.func14, Try.ntmps14
      go_wp2_with fail
      go_quiet (fail)
      rw [F4.out]
      go_wp2_with fail
      go_ret3
      exact ⟨by rw [Hu.out]; rfl, below_drewN (Below.refl _ _) _⟩
    by_cases h5 : s.size < L + 7
    · have hu2 := hu.out
      rw [if_neg h4, if_pos h5] at hu2
      have Hu := Lib.hid hu2
      clear hu2 hu
      go_enter Try.func14, Try.ntmps14
      go_wp2_with fail
      go_quiet (fail)
      rw [F4.out]
      go_wp2_with fail
      go_ret3
      exact ⟨by rw [Hu.out]; rfl, below_drewN (Below.refl _ _) _⟩
    · have hpk := Lib.hid (fun W => rpack_any (s.extract 3 (L + 3)) (by simp; omega) W)
      have l6 : (L : Int) + 3 ≤ (L : Int) + 7 := by omega
      have l7 : (L : Int) + 7 ≤ (s.size : Int) := by omega
      go_enter Try.func14, Try.ntmps14
      go_wp2_with fail
      go_quiet (fail)
      rw [F4.out]
      have b1 : Below w.heap.size w (w.drewN nq) := below_drewN (Below.refl _ _) _
      generalize w.drewN nq = w1 at *
      go_wp2_with fail
      refine (hpk.out _).mono ?_
      rintro e w2 ⟨rfl, hb2⟩
      have b3 : Below w.heap.size w w2 := b1.trans (hb2.mono b1.size)
      have hu2 := hu.out
      rw [if_neg h4, if_neg h5] at hu2
      by_cases h6 : s.extract (L + 3) (L + 7) = footS (s.extract 0 (L + 3))
      · have h8 : packS (s.extract 3 (L + 3)) = s.extract 0 (L + 7) := (Hpi.out (by omega)).2 h6
        rw [if_neg (by simpa using h6)] at hu2
        have Hu := Lib.hid hu2
        have H8 := Lib.hid h8
        clear hu2 hu h6 h8
        rw [H8.out]
        go_wp2_with fail
        have m1 : IntKind.i64.wrap ((L : Int) + 3) = (L : Int) + 3 := IntWalk.i64_in _ ⟨by omega, by omega⟩
        have m2 : IntKind.i64.wrap ((L : Int) + 7) = (L : Int) + 7 := IntWalk.i64_in _ ⟨by omega, by omega⟩
        have m3 : (0 : Int) ≤ (L : Int) + 3 := by omega
        have m4 : (0 : Int) ≤ (L : Int) + 7 := by omega
        have m5 : ((L : Int) + 3).toNat = L + 3 := by omega
        have m6 : ((L : Int) + 7).toNat = L + 7 := by omega
        have m7 : L + 7 ≤ s.size := by omega
        have m8 : L + 3 ≤ s.size := by omega
        have m9 : (3 : Int) ≤ (L : Int) + 3 := by omega
        have m10 : (L : Int) + 3 ≤ (s.size : Int) := by omega
        go_quiet (fail)
        clear m1 m2 m5 m6
        go_wp2_with fail
        go_ret3
        exact ⟨by rw [Hu.out]; rfl, below_drewN b3 _⟩
      · have h8 : packS (s.extract 3 (L + 3)) ≠ s.extract 0 (L + 7) := fun h => h6 ((Hpi.out (by omega)).1 h)
        rw [if_pos (by simpa using h6)] at hu2
        have Hu := Lib.hid hu2
        have H8 := Lib.hid h8
        clear hu2 hu h6 h8
        generalize packS (s.extract 3 (L + 3)) = pk at *
        have h9 : (!(pk.toList == (s.extract 0 (L + 7)).toList)) = true := by
          rw [Bool.not_eq_true', beq_eq_false_iff_ne]
          intro he
          exact H8.out (bytes_ext (by rw [← Lib.toList_data, ← Lib.toList_data, he]))
        go_wp2_with fail
        go_ret3
        exact ⟨by rw [Hu.out]; rfl, b3⟩
set_option maxHeartbeats 1000000 in
theorem rall_any (s : ByteArray) (hs : s.size ≤ 1048576) (w : World) :
    Calls Try.prog 16 #[.string s] w fun e w' => ∃ v, e = .returned (.tuple #[v, .string (allS s).2]) ∧ Own w' w.heap.size v (allS s).1 ∧ Below w.heap.size w w' := by
  have h0 := Lib.hid (runpack_any s (by omega) w)
  go_enter Try.func16, Try.ntmps16
  go_wp2_with fail
  refine h0.out.mono ?_
  rintro r w1 ⟨rfl, b1⟩
  unfold unpV
  go_wp2_with fail
  go_loopw [0, 4, 5, 6, 7] (fun t v b r e wr => ∃ (xs : List ByteArray) (u : ByteArray), t = .string u ∧ b = .string (unp u).1 ∧ r = .string (unp u).2.1 ∧ e = .int .i64 (unp u).2.2 ∧ At s xs u ∧ Own wr w.heap.size v xs ∧ Below w.heap.size w wr) (fun t _ _ _ _ _ => strLen t)
  case atStart => exact ⟨[], s, rfl, rfl, rfl, rfl, At.start s, Own.nil _ _, b1⟩
  case round =>
    obtain ⟨xs, u, rfl, rfl, rfl, rfl, hat, hown, hb⟩ := hrel
    have hsm := hat.small
    rcases hx : unp u with ⟨a, b, e⟩
    have hlen : (xs.length + 1) * 16 ≤ 140737488355328 := by omega
    by_cases he : e = 0
    · subst he
      have hnx := hat.next (by rw [hx])
      have hls := unp_less u (by rw [hx])
      rw [hx] at hnx hls
      have hbz : b.size ≤ 281474976710656 := by simp only at hls; omega
      have hun := Lib.hid (fun W => runpack_any b hbz W)
      clear hx
      have s0 := hb.size
      simp only at hls
      go_wp2_with (at_builtin; refine append_str _ rfl _ _ rfl w.heap.size _ _ rfl hown _ rfl hlen s0 ?_; intro v3 w3 o3 b4)
      refine (hun.out _).mono ?_
      rintro r w4 ⟨rfl, b5⟩
      have s4 := b4.size
      have o4 := o3.below b5
      have b6 : Below w.heap.size w w4 := (hb.trans b4).trans (b5.mono (by omega))
      unfold unpV
      go_wp2_with fail
      go_roundw
      case rel => exact ⟨xs ++ [a], b, rfl, rfl, rfl, rfl, hnx, o4, b6⟩
      case measure => simp only [strLen]; omega
    · have hst := hat.stop (by rw [hx]; exact he)
      have hEb : (e == 0) = false := by simp [he]
      have Hst := Lib.hid hst
      clear hst hx
      go_wp2_with fail
      go_ret2
      exact ⟨_, by rw [Hst.out]; rfl, by rw [Hst.out]; exact hown, hb⟩
end Go.Proofs.Ytpnkdpmhphhenab
