/-
  THE LAW LexAgain AS A WALK.
-/
import Derived.Test.YtffneogphgodnaaDoorNlaw
import Derived.Test.YtffneogphgodnaaDoorPair
import Derived.Deep.RegionHeld3
namespace Go.Proofs.YtffneogphgodnaaDoor
open Go.RowKit
theorem tok_small {s : ByteArray} (h : (scanO s).e = 0) : ∀ x ∈ (scanO s).T, x.t.size ≤ 4096 := by
  intro x hx
  have hz : s.size ≤ 4096 := by
    have h' := h
    unfold scanO at h'
    split at h'
    · cases h'
    · omega
  obtain ⟨i, hi, rfl⟩ := List.getElem_of_mem hx
  have := ((scan_cov h).at_ i _ (List.getElem?_eq_getElem hi)).1.z
  omega
theorem toks3 {w : World} {p : Option Addr} {a b c : Tok} (h : Toks w p [a, b, c]) : ∃ g o, p = some ⟨g, o, none⟩ ∧ w.cell? ⟨g, o, none⟩ = some (.int .i64 a.k) ∧ w.cell? ⟨g, o + 2, none⟩ = some (.string a.t) ∧ w.cell? ⟨g, o + 3, none⟩ = some (.int .i64 a.n) ∧ w.cell? ⟨g, o + 4, none⟩ = some (.string a.s) ∧ w.cell? ⟨g, o + 5, none⟩ = some (.int .i64 b.k) ∧ w.cell? ⟨g, o + 5 + 2, none⟩ = some (.string b.t) := by
  obtain ⟨g, o, e, _, a0, _, a2, a3, a4⟩ := h 0 (by simp)
  obtain ⟨g', o', e', _, b0, _, b2, _, _⟩ := h 1 (by simp)
  rw [e] at e'
  cases e'
  exact ⟨g, o, e, a0, a2, a3, a4, b0, b2⟩
theorem cells6 {w w' : World} {g0 o g1 o1 : Nat} {v0 v2 v3 v4 u0 u2 : Value} (h : Below w.heap.size w w') (hg0 : g0 < w.heap.size) (hg1 : g1 < w.heap.size) (s : w.cell? ⟨g0, o, none⟩ = some v0 ∧ w.cell? ⟨g0, o + 2, none⟩ = some v2 ∧ w.cell? ⟨g0, o + 3, none⟩ = some v3 ∧ w.cell? ⟨g0, o + 4, none⟩ = some v4 ∧ w.cell? ⟨g1, o1, none⟩ = some u0 ∧ w.cell? ⟨g1, o1 + 2, none⟩ = some u2) : w'.cell? ⟨g0, o, none⟩ = some v0 ∧ w'.cell? ⟨g0, o + 2, none⟩ = some v2 ∧ w'.cell? ⟨g0, o + 3, none⟩ = some v3 ∧ w'.cell? ⟨g0, o + 4, none⟩ = some v4 ∧ w'.cell? ⟨g1, o1, none⟩ = some u0 ∧ w'.cell? ⟨g1, o1 + 2, none⟩ = some u2 := by
  rw [h.cell (p := ⟨g0, o, none⟩) hg0, h.cell (p := ⟨g0, o + 2, none⟩) hg0, h.cell (p := ⟨g0, o + 3, none⟩) hg0, h.cell (p := ⟨g0, o + 4, none⟩) hg0, h.cell (p := ⟨g1, o1, none⟩) hg1, h.cell (p := ⟨g1, o1 + 2, none⟩) hg1]
  exact s
set_option maxHeartbeats 16000000 in
set_option maxRecDepth 100000 in
theorem again_law (s t : ByteArray) (hs : s.size ≤ 9223372036854775807) (ht : t.size ≤ 9223372036854775807) (w : World) : Calls Tryd.prog 6 #[.string s, .string t] w fun e w' => e = .returned (.bool true) ∧ Below w.heap.size w w' := by
  have hf1 := scan_few s
  have hf2 := scan_few t
  obtain ⟨L, hL⟩ : ∃ L, (scanO s).T = L := ⟨_, rfl⟩
  obtain ⟨a1, ha1⟩ : ∃ a, ((scanO s).at_ : Int) = a := ⟨_, rfl⟩
  obtain ⟨e1, he1⟩ : ∃ e, (scanO s).e = e := ⟨_, rfl⟩
  obtain ⟨M, hM⟩ : ∃ M, (scanO t).T = M := ⟨_, rfl⟩
  obtain ⟨a2, ha2⟩ : ∃ a, ((scanO t).at_ : Int) = a := ⟨_, rfl⟩
  obtain ⟨e2, he2⟩ : ∃ e, (scanO t).e = e := ⟨_, rfl⟩
  have SC1 := Lib.hid (fun W => scan_met s hs hL ha1 he1 W)
  have SC2 := Lib.hid (fun W => scan_met t ht hM ha2 he2 W)
  have PAIR := Lib.hid (fun (h1 : e1 = 0) (h2 : e2 = 0) (i k : Nat) (h3 : i + 1 < L.length) (h4 : k + 1 < M.length) (h5 : L[i].t.size + M[k].t.size ≤ 4000) => scan_pair hL hM (he1.trans h1) (he2.trans h2) h3 h4 h5)
  rw [hL] at hf1
  rw [hM] at hf2
  obtain ⟨nl, hnl⟩ : ∃ n, L.length = n := ⟨_, rfl⟩
  obtain ⟨nm, hnm⟩ : ∃ n, M.length = n := ⟨_, rfl⟩
  have HNL := Lib.hid hnl
  have HNM := Lib.hid hnm
  rw [hnl] at SC1 hf1
  rw [hnm] at SC2 hf2
  have HZ1 := Lib.hid (fun (h : e1 = 0) => (show ∀ x ∈ L, x.t.size ≤ 4096 by rw [← hL]; exact tok_small (he1.trans h)))
  have HZ2 := Lib.hid (fun (h : e2 = 0) => (show ∀ x ∈ M, x.t.size ≤ 4096 by rw [← hM]; exact tok_small (he2.trans h)))
  have hp1 : e1 = 0 → 0 < nl := fun h => by rw [← hnl, ← hL]; exact (scan_cov (by rw [he1]; exact h)).some
  have hp2 : e2 = 0 → 0 < nm := fun h => by rw [← hnm, ← hM]; exact (scan_cov (by rw [he2]; exact h)).some
  clear hL hM ha1 ha2 he1 he2 hnl hnm hs ht
  generalize hy : w.heap.size = Y at *
  go_enter Tryd.func6, Tryd.ntmps6
  go_wp2_with fail
  refine (SC1.out _).mono ?_
  rintro e w1 ⟨p, cp, rfl, T1, b1⟩
  have T1h := Lib.hid T1
  have B1h : Hid (Below Y w w1) := Lib.hid (hy ▸ b1)
  clear T1 b1
  go_wp2_with fail
  refine (SC2.out _).mono ?_
  rintro e w2 ⟨q, cq, rfl, T2, b2⟩
  have T1i := Lib.hid (T1h.out.below b2)
  have T2i := Lib.hid T2
  have B2h := Lib.hid (B1h.out.trans (b2.mono (by rw [← hy]; exact B1h.out.size)))
  clear T2 b2 T1h B1h SC1 SC2
  by_cases h1 : e1 = 0 ∧ e2 = 0
  · obtain ⟨rfl, rfl⟩ := h1
    have hl0 := hp1 rfl
    have hm0 := hp2 rfl
    have PR := Lib.hid (PAIR.out rfl rfl)
    clear hp1 hp2 PAIR
    go_wp2_with fail
    go_loopw [11] (fun i wq => ∃ i' : Nat, i = .int .i64 i' ∧ i' + 1 ≤ nl ∧ Below Y w wq ∧ Toks wq p L ∧ Toks wq q M) (fun i _ => nl - (intOf i).toNat)
    case atStart => exact ⟨0, rfl, hl0, B2h.out, T1i.out, T2i.out⟩
    case round =>
      obtain ⟨i', rfl, hi', hB, hTL, hTM⟩ := hrel
      have HB := Lib.hid hB
      have HTL := Lib.hid hTL
      have HTM := Lib.hid hTM
      clear hB hTL hTM
      by_cases hil : i' + 1 < nl
      · have hil' : (i' : Int) < (nl : Int) - 1 := by omega
        go_wp2_with fail
        go_loopw [12] (fun k wq => ∃ k' : Nat, k = .int .i64 k' ∧ k' + 1 ≤ nm ∧ Below Y w wq ∧ Toks wq p L ∧ Toks wq q M) (fun k _ => nm - (intOf k).toNat)
        case atStart => exact ⟨0, rfl, hm0, HB.out, HTL.out, HTM.out⟩
        case round =>
          obtain ⟨k', rfl, hk', hB, hTL, hTM⟩ := hrel
          have HB2 := Lib.hid hB
          have HTL2 := Lib.hid hTL
          have HTM2 := Lib.hid hTM
          clear hB
          by_cases hkl : k' + 1 < nm ∧ k' < 6
          · obtain ⟨hk1, hk6⟩ := hkl
            have hkl' : (k' : Int) < (nm : Int) - 1 := by omega
            have hk6' : (k' : Int) < 6 := by omega
            have hk6b : decide ((k' : Int) < 6) = true := decide_eq_true hk6'
            have hiL : i' < L.length := by rw [HNL.out]; omega
            have hkM : k' < M.length := by rw [HNM.out]; omega
            obtain ⟨g0, o, rfl, hg0, c0, c1, c2, c3, c4⟩ := hTL i' hiL
            obtain ⟨g1, o1, rfl, hg1, d0, d1, d2, d3, d4⟩ := hTM k' hkM
            have hzx := HZ1.out (by trivial) L[i'] (List.getElem_mem hiL)
            have hzz := HZ2.out (by trivial) M[k'] (List.getElem_mem hkM)
            have P3 := fun hz => PR.out i' k' (by rw [HNL.out]; exact hil) (by rw [HNM.out]; exact hk1) hz
            generalize L[i'] = x at *
            generalize M[k'] = z at *
            obtain ⟨xk, xa, xt, xn, xs⟩ := x
            obtain ⟨zk, za, zt, zn, zs⟩ := z
            simp only at c0 c1 c2 c3 c4 d0 d1 d2 d3 d4 P3 hzx hzz
            clear hTL hTM hiL hkM PR
            by_cases h6 : 6 < i'
            · have h6' : decide ((6 : Int) < (i' : Int)) = true := decide_eq_true (by omega)
              have h6b : (6 : Int) < (i' : Int) := by omega
              clear P3
              as_aux_lemma =>
                go_upto_region 11 with fail
                go_quiet (fail)
                have HB3 := Lib.hid (below_drewN HB2.out nq)
                have HTL3 : Hid (Toks (wr.drewN nq) (some ⟨g0, o, none⟩) L) := HTL2
                have HTM3 : Hid (Toks (wr.drewN nq) (some ⟨g1, o1, none⟩) M) := HTM2
                clear c0 c1 c2 c3 c4 d0 d1 d2 d3 d4 HB2 HTL2 HTM2 HB HTL HTM
                generalize wr.drewN nq = w3 at *
                go_wp2_with fail
                go_roundw
                case rel => exact ⟨k' + 1, by go_num, by omega, HB3.out, HTL3.out, HTM3.out⟩
                case measure => simp [intOf]; omega
            · have h6' : decide ((6 : Int) < (i' : Int)) = false := decide_eq_false (by omega)
              have h6b : ¬ (6 : Int) < (i' : Int) := by omega
              have hsum : IntKind.i64.wrap ((xt.size : Int) + (zt.size : Int)) = (xt.size : Int) + (zt.size : Int) := IntWalk.i64_in _ (by omega)
              by_cases h4 : xt.size + zt.size ≤ 4000
              · have h4' : decide ((4000 : Int) < (xt.size : Int) + (zt.size : Int)) = false := decide_eq_false (by omega)
                have P := P3 h4
                have hxy : (xt ++ ⟨#[32]⟩ ++ zt).size ≤ 9223372036854775807 := by rw [ByteArray.size_append, ByteArray.size_append]; show _ + 1 + _ ≤ _; omega
                have SCN := Lib.hid (fun W => scan_met (xt ++ ⟨#[32]⟩ ++ zt) hxy (congrArg Out.T P) (show ((scanO (xt ++ ⟨#[32]⟩ ++ zt)).at_ : Int) = 0 by rw [P]; rfl) (congrArg Out.e P) W)
                clear P P3 hxy
                as_aux_lemma =>
                  go_upto_region 11 with fail
                  go_quiet (fail)
                  have hg0' : g0 < (wr.drewN nq).heap.size := hg0
                  have hg1' : g1 < (wr.drewN nq).heap.size := hg1
                  have SS := Lib.hid (show (wr.drewN nq).cell? ⟨g0, o + i' * 5, none⟩ = some (.int .i64 xk) ∧ (wr.drewN nq).cell? ⟨g0, o + i' * 5 + 2, none⟩ = some (.string xt) ∧ (wr.drewN nq).cell? ⟨g0, o + i' * 5 + 3, none⟩ = some (.int .i64 xn) ∧ (wr.drewN nq).cell? ⟨g0, o + i' * 5 + 4, none⟩ = some (.string xs) ∧ (wr.drewN nq).cell? ⟨g1, o1 + k' * 5, none⟩ = some (.int .i64 zk) ∧ (wr.drewN nq).cell? ⟨g1, o1 + k' * 5 + 2, none⟩ = some (.string zt) from ⟨c0, c2, c3, c4, d0, d2⟩)
                  have HB3 := Lib.hid (below_drewN HB2.out nq)
                  have HTL3 : Hid (Toks (wr.drewN nq) (some ⟨g0, o, none⟩) L) := HTL2
                  have HTM3 : Hid (Toks (wr.drewN nq) (some ⟨g1, o1, none⟩) M) := HTM2
                  clear c0 c1 c2 c3 c4 d0 d1 d2 d3 d4 HB2 HTL2 HTM2 HB HTL HTM hg0 hg1 h6 h6' h6b hsum h4'
                  generalize wr.drewN nq = w3 at *
                  have ov1 : ¬ (9223372036854775807 < xt.size + 1) := by omega
                  have ov2 : ¬ (9223372036854775807 < (xt ++ ⟨#[32]⟩).size + zt.size) := by rw [ByteArray.size_append]; show ¬ (_ < _ + 1 + _); omega
                  have ov3 : ¬ (9223372036854775807 < xt.size + (⟨#[32]⟩ : ByteArray).size) := by show ¬ (_ < _ + 1); omega
                  have ov4 : ¬ (9223372036854775807 < xt.size + 1 + zt.size) := by omega
                  have hzp : xt.size + 1 + zt.size ≤ 9223372036854775807 := by omega
                  have ix1 : (0 : Int) ≤ (i' : Int) := by omega
                  have ix2 : (i' : Int) < (nl : Int) := by omega
                  have ix3 : (0 : Int) ≤ (k' : Int) := by omega
                  have ix4 : (k' : Int) < (nm : Int) := by omega
                  clear hzx hzz h4
                  go_upto_region 12 with fail
                  have D3 := Lib.hid (below_drew (Below.refl w3.heap.size w3))
                  have SD := Lib.hid (show w3.drew.cell? ⟨g0, o + i' * 5, none⟩ = some (.int .i64 xk) ∧ w3.drew.cell? ⟨g0, o + i' * 5 + 2, none⟩ = some (.string xt) ∧ w3.drew.cell? ⟨g0, o + i' * 5 + 3, none⟩ = some (.int .i64 xn) ∧ w3.drew.cell? ⟨g0, o + i' * 5 + 4, none⟩ = some (.string xs) ∧ w3.drew.cell? ⟨g1, o1 + k' * 5, none⟩ = some (.int .i64 zk) ∧ w3.drew.cell? ⟨g1, o1 + k' * 5 + 2, none⟩ = some (.string zt) from SS.out)
                  have hd0 : g0 < w3.drew.heap.size := hg0'
                  have hd1 : g1 < w3.drew.heap.size := hg1'
                  have AFT := Lib.hid (fun u1 p3 (T3 : Toks u1 p3 _) (b3 : Below w3.drew.heap.size w3.drew u1) => (show ∃ g3 o3, p3 = some ⟨g3, o3, none⟩ ∧ (u1.cell? ⟨g3, o3, none⟩ = some (.int .i64 xk) ∧ u1.cell? ⟨g3, o3 + 2, none⟩ = some (.string xt) ∧ u1.cell? ⟨g3, o3 + 3, none⟩ = some (.int .i64 xn) ∧ u1.cell? ⟨g3, o3 + 4, none⟩ = some (.string xs) ∧ u1.cell? ⟨g3, o3 + 5, none⟩ = some (.int .i64 zk) ∧ u1.cell? ⟨g3, o3 + 5 + 2, none⟩ = some (.string zt)) ∧ (u1.cell? ⟨g0, o + i' * 5, none⟩ = some (.int .i64 xk) ∧ u1.cell? ⟨g0, o + i' * 5 + 2, none⟩ = some (.string xt) ∧ u1.cell? ⟨g0, o + i' * 5 + 3, none⟩ = some (.int .i64 xn) ∧ u1.cell? ⟨g0, o + i' * 5 + 4, none⟩ = some (.string xs) ∧ u1.cell? ⟨g1, o1 + k' * 5, none⟩ = some (.int .i64 zk) ∧ u1.cell? ⟨g1, o1 + k' * 5 + 2, none⟩ = some (.string zt)) ∧ Below Y w u1 ∧ Toks u1 (some ⟨g0, o, none⟩) L ∧ Toks u1 (some ⟨g1, o1, none⟩) M from by
                    obtain ⟨g3, o3, e3, y⟩ := toks3 (a := ⟨xk, 0, xt, xn, xs⟩) (b := ⟨zk, xt.size + 1, zt, zn, zs⟩) (c := ⟨0, xt.size + 1 + zt.size, ⟨#[]⟩, 0, ⟨#[]⟩⟩) T3
                    have bb : Below w3.heap.size w3 u1 := D3.out.trans b3
                    exact ⟨g3, o3, e3, y, cells6 b3 hd0 hd1 SD.out, HB3.out.trans (bb.mono (by rw [← hy]; exact HB3.out.size)), HTL3.out.below bb, HTM3.out.below bb⟩))
                  clear HTL3 HTM3 HB3 D3
                  go_region_held3 (fun w' => w'.cell? ⟨g0, o + i' * 5, none⟩ = some (.int .i64 xk) ∧ w'.cell? ⟨g0, o + i' * 5 + 2, none⟩ = some (.string xt) ∧ w'.cell? ⟨g0, o + i' * 5 + 3, none⟩ = some (.int .i64 xn) ∧ w'.cell? ⟨g0, o + i' * 5 + 4, none⟩ = some (.string xs) ∧ w'.cell? ⟨g1, o1 + k' * 5, none⟩ = some (.int .i64 zk) ∧ w'.cell? ⟨g1, o1 + k' * 5 + 2, none⟩ = some (.string zt))
                    (first | exact SD.out | exact S1 | assumption)
                    (first
                      | (go_at_call 7; refine (SCN.out _).mono ?_; rintro e u1 ⟨p3, cp3, rfl, T3, b3⟩; obtain ⟨g3, o3, rfl, ⟨x0, x2, x3, x4, x5, x7⟩, S1, B4, T4, M4⟩ := AFT.out u1 p3 T3 b3; have HB4 := Lib.hid B4; have HTL4 := Lib.hid T4; have HTM4 := Lib.hid M4; clear T3 b3 B4 T4 M4))
                  as_aux_lemma =>
                    obtain ⟨y0, y2, y3, y4, y5, y7⟩ := S1
                    go_upto_region 13 with fail
                    go_quiet (fail)
                    have HB5 := Lib.hid (below_drewN HB4.out nq)
                    have HTL5 : Hid (Toks (u1.drewN nq) (some ⟨g0, o, none⟩) L) := HTL4
                    have HTM5 : Hid (Toks (u1.drewN nq) (some ⟨g1, o1, none⟩) M) := HTM4
                    clear x0 x2 x3 x4 x5 x7 y0 y2 y3 y4 y5 y7 HB4 HTL4 HTM4 AFT SD SS SCN
                    generalize u1.drewN nq = w5 at *
                    go_wp2_with fail
                    go_roundw
                    case rel => exact ⟨k' + 1, by go_num, by omega, HB5.out, HTL5.out, HTM5.out⟩
                    case measure => simp [intOf]; omega
              · have h4' : decide ((4000 : Int) < (xt.size : Int) + (zt.size : Int)) = true := decide_eq_true (by omega)
                clear P3
                as_aux_lemma =>
                  go_upto_region 11 with fail
                  go_quiet (fail)
                  have HB3 := Lib.hid (below_drewN HB2.out nq)
                  have HTL3 : Hid (Toks (wr.drewN nq) (some ⟨g0, o, none⟩) L) := HTL2
                  have HTM3 : Hid (Toks (wr.drewN nq) (some ⟨g1, o1, none⟩) M) := HTM2
                  clear c0 c1 c2 c3 c4 d0 d1 d2 d3 d4 HB2 HTL2 HTM2 HB HTL HTM
                  generalize wr.drewN nq = w3 at *
                  go_wp2_with fail
                  go_roundw
                  case rel => exact ⟨k' + 1, by go_num, by omega, HB3.out, HTL3.out, HTM3.out⟩
                  case measure => simp [intOf]; omega
          · have hno : (decide ((k' : Int) < (nm : Int) - 1) = false ∧ True) ∨ (decide ((k' : Int) < (nm : Int) - 1) = true ∧ decide ((k' : Int) < 6) = false) := by
              by_cases h : k' + 1 < nm
              · exact .inr ⟨decide_eq_true (by omega), decide_eq_false (fun h6 => hkl ⟨h, by omega⟩)⟩
              · exact .inl ⟨decide_eq_false (by omega), trivial⟩
            clear hkl hTL hTM
            rcases hno with ⟨n1, _⟩ | ⟨n1, n2⟩
            all_goals
              go_wp2_with fail
              go_roundw
              case rel => exact ⟨i' + 1, by go_num, by omega, HB2.out, HTL2.out, HTM2.out⟩
              case measure => simp [intOf]; omega
      · have hil' : ¬ (i' : Int) < (nl : Int) - 1 := by omega
        go_wp2_with fail
        refine (awake_any _).mono ?_
        rintro e w6 ⟨rfl, b6⟩
        have B6h := Lib.hid (HB.out.trans (b6.mono (by have := HB.out.size; omega)))
        clear b6
        go_wp2_with fail
        go_ret
        exact ⟨rfl, B6h.out⟩
  · have h2 : ((e1 != 0) = true ∧ True) ∨ ((e1 != 0) = false ∧ (e2 != 0) = true) := by
      by_cases h : e1 = 0
      · exact .inr ⟨by simpa using h, by simp only [bne_iff_ne]; exact fun e => h1 ⟨h, e⟩⟩
      · exact .inl ⟨by simpa using h, trivial⟩
    clear h1
    rcases h2 with ⟨h2, _⟩ | ⟨h2, h3⟩
    all_goals
      go_wp2_with fail
      refine (awake_any _).mono ?_
      rintro e w6 ⟨rfl, b6⟩
      have B6h := Lib.hid (B2h.out.trans (b6.mono (by rw [← hy]; exact B2h.out.size)))
      clear b6
      go_wp2_with fail
      go_ret
      exact ⟨rfl, B6h.out⟩
end Go.Proofs.YtffneogphgodnaaDoor
