/-
  THE LAW LexScans AS A WALK.
-/
import Derived.Test.YtffneogphgodnaaDoorRef7
namespace Go.Proofs.YtffneogphgodnaaDoor
open Go.RowKit
theorem rscan_met (s : ByteArray) (hs : s.size ≤ 9223372036854775807) {L : List Tok} {a e : Int} (h1 : (scanO s).T = L) (h2 : ((scanO s).at_ : Int) = a) (h3 : (scanO s).e = e) (W : World) :
    Calls Tryd.prog 8 #[.string s] W (fun er w' => ∃ p cp, er = .returned (.tuple #[.slice p L.length cp, .int .i64 a, .int .i64 e]) ∧ Toks w' p L ∧ Below W.heap.size W w') := by
  have := rscan_any s hs W
  unfold Scand at this
  rw [h1, h2, h3] at this
  exact this
theorem refs_met (L : List Tok) (n : Nat) (hn : L.length = n) (hn4 : n ≤ 4097) (p : Option Addr) (cp : Nat) (w : World) (T : Toks w p L) : Calls Tryd.prog 11 #[.slice p n cp] w (fun e w' => ∃ q cq, e = .returned (.slice q n cq) ∧ Toks w' q L ∧ Below w.heap.size w w') := refs_any L n hn hn4 p cp w T
theorem scan_few (s : ByteArray) : (scanO s).T.length ≤ 4097 := by
  by_cases h : (scanO s).e = 0
  · have hz : s.size ≤ 4096 := by
      have h' := h
      unfold scanO at h'
      split at h'
      · cases h'
      · omega
    have := cov_len (scan_cov h)
    omega
  · rw [scanO_none h]; exact Nat.zero_le _
set_option maxHeartbeats 4000000 in
set_option maxRecDepth 100000 in
theorem scans_law (s : ByteArray) (hs : s.size ≤ 9223372036854775807) (w : World) : Calls Tryd.prog 3 #[.string s] w fun e w' => e = .returned (.bool true) ∧ Below w.heap.size w w' := by
  have hfew := scan_few s
  obtain ⟨L, hL⟩ : ∃ L, (scanO s).T = L := ⟨_, rfl⟩
  obtain ⟨a, ha⟩ : ∃ a, ((scanO s).at_ : Int) = a := ⟨_, rfl⟩
  obtain ⟨e0, he⟩ : ∃ e, (scanO s).e = e := ⟨_, rfl⟩
  have SC := Lib.hid (fun W => scan_met s hs hL ha he W)
  have SR := Lib.hid (fun W => rscan_met s hs hL ha he W)
  rw [hL] at hfew
  obtain ⟨n, hn⟩ : ∃ n, L.length = n := ⟨_, rfl⟩
  rw [hn] at SC SR hfew
  have RF := Lib.hid (fun p cp W T => refs_met L n hn hfew p cp W T)
  have SM := Lib.hid (fun p q cp cq W T1 T2 => rsame_any L n hn hfew p q cp cq W T1 T2)
  clear hL ha he hn hfew
  generalize hy : w.heap.size = Y at *
  go_enter Tryd.func3, Tryd.ntmps3
  go_wp2_with fail
  refine (SC.out _).mono ?_
  rintro e w1 ⟨p, cp, rfl, T1, b1⟩
  have B1h : Hid (Below Y w w1) := Lib.hid (hy ▸ b1)
  have T1h := Lib.hid T1
  clear T1 b1
  go_wp2_with fail
  refine (SR.out _).mono ?_
  rintro e w2 ⟨p2, cp2, rfl, T2, b2⟩
  have T1i := Lib.hid (T1h.out.below b2)
  have T2i := Lib.hid T2
  have B2h := Lib.hid (B1h.out.trans (b2.mono (by rw [← hy]; exact B1h.out.size)))
  clear T2 b2 T1h B1h
  go_wp2_with fail
  refine (awake_any _).mono ?_
  rintro e w3 ⟨rfl, b3⟩
  have T1j := Lib.hid (T1i.out.below b3)
  have T2j := Lib.hid (T2i.out.below b3)
  have B3h := Lib.hid (B2h.out.trans (b3.mono (by rw [← hy]; exact B2h.out.size)))
  clear b3 T1i T2i B2h
  go_wp2_with fail
  refine (RF.out _ _ _ T1j.out).mono ?_
  rintro e w4 ⟨q, cq, rfl, T4, b4⟩
  have T4h := Lib.hid T4
  have T2k := Lib.hid (T2j.out.below b4)
  have B4h := Lib.hid (B3h.out.trans (b4.mono (by rw [← hy]; exact B3h.out.size)))
  clear b4 T1j T2j B3h T4
  go_wp2_with fail
  refine (SM.out _ _ _ _ _ T4h.out T2k.out).mono ?_
  rintro e w5 ⟨rfl, b5⟩
  have B5h := Lib.hid (B4h.out.trans (b5.mono (by rw [← hy]; exact B4h.out.size)))
  clear b5 T4h T2k B4h
  go_wp2_with fail
  go_ret
  exact ⟨rfl, B5h.out⟩
end Go.Proofs.YtffneogphgodnaaDoor
