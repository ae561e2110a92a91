/-
  THE LAW DiskSure AS A WALK.
-/
import Derived.Test.YtejmoaloomnmkaaMost
namespace Go.Proofs.Ytejmoaloomnmkaa
open Go.RowKit
def nS : Nm := ⟨#[115, 117, 114, 101]⟩
theorem nameS : nameB nS = true := by decide +kernel
theorem ret_true {a : Bool} (h : a = true) : Ending.returned (.bool a) = .returned (.bool true) := by rw [h]
theorem str_eq (a b : ByteArray) : (a.toList == b.toList) = decide (a = b) := by
  apply Bool.eq_iff_iff.2
  simp only [beq_iff_eq, decide_eq_true_eq, ByteArray.toList_eq]
  constructor
  · intro h
    cases a; cases b
    simp only [ByteArray.mk.injEq]
    exact Array.toList_inj.1 h
  · intro h; rw [h]
theorem str_eq2 (a : ByteArray) : (a.toList == [115, 117, 114, 101]) = decide (a = nS) := by
  have : nS.toList = [115, 117, 114, 101] := by rw [ByteArray.toList_eq]; rfl
  rw [← this, str_eq]
theorem Acts.below {w w' : World} {a : Option Addr} {L : List Act} (h : Acts w a L) (hb : Below w.heap.size w w') : Acts w' a L := fun p hp => by
  obtain ⟨g, o, e, hl, c0, c1, c2, c3, c4⟩ := h p hp
  have q : ∀ {i : Nat} {v : Value}, w.cell? ⟨g, i, none⟩ = some v → w'.cell? ⟨g, i, none⟩ = some v := fun hc => by rw [hb.cell (p := ⟨g, _, none⟩) hl]; exact hc
  exact ⟨g, o, e, Nat.lt_of_lt_of_le hl hb.size, q c0, q c1, q c2, q c3, q c4⟩
/-- behind Put and Sync of the file sure -/
def su1 (s : Nm) : St := { st0 with row := st0.row ++ [.put nS 0 s], now := (Chg.put nS 0 s).doF st0.now, calls := st0.calls + 1 }
def su2 (s : Nm) : St := { su1 s with sure := doAll (su1 s).sure (su1 s).row, row := [], calls := (su1 s).calls + 1 }
theorem su_keeps (s : Nm) : Keeps nS (bl s) (su2 s) := by
  refine ⟨?_, fun c hc => by cases hc⟩
  show get (doAll [] [.put nS 0 s]) nS = some (bl s)
  show get (put [] nS (splice (gl [] nS) 0 (bl s))) nS = some (bl s)
  rw [get_put_same]
  have : gl [] nS = [] := rfl
  rw [this]
  simp [splice]
theorem Acts.fr {w w' : World} {a : Option Addr} {L : List Act} {P : Nat → Prop} (h : Acts w a L) (F : Fr w w' P) (hP : ∀ ad : Addr, a = some ad → ¬ P ad.block) : Acts w' a L := fun p hp => by
  obtain ⟨g, o, e, hl, c0, c1, c2, c3, c4⟩ := h p hp
  have hb := F.block g hl (hP _ e)
  have q : ∀ {i : Nat} {v : Value}, w.cell? ⟨g, i, none⟩ = some v → w'.cell? ⟨g, i, none⟩ = some v := fun hc => by rw [World.cell?_of_block hb]; exact hc
  exact ⟨g, o, e, Nat.lt_of_lt_of_le hl F.size, q c0, q c1, q c2, q c3, q c4⟩
/-- the disk behind some acts -/
structure Sur (W wq : World) (D k : Nat) (s : Nm) (ma : Option Addr) : Prop where
  d : ∃ m S L, DkL wq W.heap.size D m S L ∧ (∀ ad : Addr, ma = some ad → ¬ L.foot D ad.block) ∧ Ok S ∧ Keeps nS (bl s) S ∧ S.row.length ≤ k ∧ m ≤ 200 * (k + 1)
/-- an act is done: the disk goes on, the acts stay -/
theorem Sur.act {W wq : World} {D k : Nat} {s : Nm} {ma : Option Addr} {M : List Act} (h : Sur W wq D k s ma) (hA : Acts wq ma M) (hk : k < M.length) (hk60 : k ≤ 60) (x : Act) (wf : x.Wf) (h1 : x.nm ≠ nS) (h2 : x.kd = 2 → x.s ≠ nS) :
    Calls Try.prog 12 #[.pointer (some ⟨D, 0, none⟩), x.val] wq fun e w' => ∃ v : Int, e = .returned (.int .i64 v) ∧ Sur W w' D (k + 1) s ma ∧ Acts w' ma M ∧ Below W.heap.size wq w' := by
  obtain ⟨m, S, L, d, hf, ok, kp, hr, hm⟩ := h.d
  refine (act_any x wf d ok (by omega)).mono fun e w' hh => ?_
  obtain ⟨v, rfl, S', L', d', ok', st, hl, F, hN⟩ := hh
  refine ⟨v, rfl, ⟨_, S', L', d', fun ad e hq => ?_, ok', st.keeps kp h1 h2, by omega, by omega⟩, hA.fr F hf, Fr.foot d F⟩
  rcases hN _ hq with hq | hq
  · exact hf ad e hq
  · obtain ⟨g, o, e', hg, _⟩ := hA k hk
    rw [e] at e'
    cases e'
    simp only at hq
    omega
theorem end_read {S S' : St} {l : List UInt8} {F : Nm} {kk : Int} (ok : Ok S') (k : Keeps F l S) (h1 : S.down = true → S' = S)
    (h2 : S.down = false → ∃ N, S' = { S with sure := keepF S.sure S.row (atLeast kk 0), now := N, row := [], trip := 0, keep := 0, down := true } ∧ Alike N (keepF S.sure S.row (atLeast kk 0))) : get S'.now F = some l := by
  by_cases hS : S.down = true
  · rw [h1 hS] at ok ⊢
    have := ok.now F
    rw [ok.bare hS] at this
    exact this.trans k.1
  · obtain ⟨N, e, hA⟩ := h2 (by simpa using hS)
    rw [e]
    exact (hA F).trans ((far_keep k.2 _ _).trans k.1)
set_option maxHeartbeats 2000000 in
set_option maxRecDepth 100000 in
theorem sure_law (s : Nm) (a : Option Addr) (c : Nat) (L : List Act) (kk : Int) (w : World) (hs : s.size ≤ 9223372036854775807) (hl : L.length ≤ 9223372036854775807) (hx : Acts w a L) (hwf : ∀ x ∈ L, x.Wf) (hk : kk ≤ 9223372036854775807) :
    Calls Try.prog 3 #[.string s, .slice a L.length c, .int .i64 kk] w fun e w' => e = .returned (.bool true) ∧ Below w.heap.size w w' := by
  have HX := Lib.hid hx
  have HWF := Lib.hid hwf
  have HL := Lib.hid hl
  have NW := Lib.hid (newd w)
  clear hx hwf hl
  generalize hn : L.length = n at *
  have HN := Lib.hid hn
  clear hn
  go_enter Try.func3, Try.ntmps3
  go_wp2_with fail
  refine NW.out.mono ?_
  rintro e w1 ⟨D, rfl, d1, b1⟩
  have D1 := Lib.hid d1
  have B1 := Lib.hid b1
  clear d1 b1 NW
  go_wp2_with fail
  refine (awake_any _).mono ?_
  rintro e w2 ⟨rfl, b2⟩
  have D2 := Lib.hid (D1.out.below b2)
  have B2 := Lib.hid (B1.out.trans (b2.mono B1.out.size))
  clear b2 D1 B1
  by_cases h3 : (s.size : Int) ≤ 3000
  · have C3 := Lib.hid (putd (n := 0) nS s D2.out ok0 (by decide) rfl rfl (by decide) nameS (Nat.zero_le _) (by omega))
    unfold nS at C3
    go_wp2_with fail
    refine C3.out.mono ?_
    rintro e w3 ⟨rfl, d3, o3, b3⟩
    have C4 := Lib.hid (syncd (S := su1 s) d3 o3 (by show 0 + 2 * 0 + 5 + 2 * 1 < 99990; decide) rfl rfl)
    have B3 := Lib.hid (B2.out.trans b3)
    clear d3 o3 b3 C3 D2 B2
    go_wp2_with fail
    refine C4.out.mono ?_
    rintro e w4 ⟨rfl, d4, o4, b4⟩
    have B4 := Lib.hid (B3.out.trans b4)
    have S4 := Lib.hid d4
    have O4 := Lib.hid o4
    have M4 := Lib.hid (most_any a c L w4 (by rw [HN.out]; exact HL.out) (HX.out.below B4.out) HWF.out)
    clear d4 o4 b4 C4 B3
    rw [HN.out] at M4
    go_wp2_with fail
    refine M4.out.mono ?_
    rintro e w5 ⟨ma, mc, M, rfl, hA, hM, hin, b5, hma⟩
    have A5 := Lib.hid hA
    have IN := Lib.hid hin
    have B5 := Lib.hid (B4.out.trans (b5.mono B4.out.size))
    have S5 : Hid (Sur w w5 D 0 s ma) := Lib.hid (by
      obtain ⟨L, d⟩ := S4.out
      refine ⟨_, su2 s, L, d.below b5, fun ad e hq => ?_, O4.out, su_keeps s, Nat.zero_le _, by show 0 + 2 * 0 + 5 + 2 * 1 + 2 ≤ 200 * (0 + 1); decide⟩
      have := (d.lt hq).2
      have := hma ad e
      omega)
    clear hA hin b5 M4 S4 B4 O4 hma
    generalize hm : M.length = mm at *
    have HM := Lib.hid hm
    clear hm
    go_wp2_with fail
    go_loopw [9] (fun i wq => ∃ k : Nat, i = .int .i64 k ∧ k ≤ mm ∧ Sur w wq D k s ma ∧ Acts wq ma M ∧ Below w.heap.size w wq) (fun i _ => mm - (intOf i).toNat)
    case atStart => exact ⟨0, rfl, Nat.zero_le _, S5.out, A5.out, B5.out⟩
    case round =>
      obtain ⟨k, rfl, hkm, hS, hA, hB⟩ := hrel
      have HS := Lib.hid hS
      have HA := Lib.hid hA
      have HB := Lib.hid hB
      clear hS hA hB
      by_cases hk2 : k < mm
      · have hkL : k < M.length := by rw [HM.out]; exact hk2
        obtain ⟨ba, o, hma, hbl, c0, c1, c2, c3, c4⟩ := HA.out k hkL
        have hxw := HWF.out M[k] (IN.out _ (List.getElem_mem hkL)).1
        have hM60 := hM
        have SK : Hid (Sur w wr D (k + 1) s ma) := Lib.hid (by
          obtain ⟨m, S, L, d, hf, ok, kp, hrow, hmb⟩ := HS.out.d
          exact ⟨m, S, L, d, hf, ok, kp, by omega, by omega⟩)
        have hk60 : k ≤ 60 := by omega
        have AC := Lib.hid (fun (h1 : M[k].nm ≠ nS) (h2 : M[k].kd = 2 → M[k].s ≠ nS) => HS.out.act HA.out hkL hk60 M[k] hxw h1 h2)
        generalize M[k] = x at *
        obtain ⟨xk, xn, xa, xb, xs⟩ := x
        unfold Act.val at AC
        simp only at c0 c1 c2 c3 c4 AC
        clear hxw HS
        subst hma
        by_cases e1 : xn = nS
        · have E1 : (xn.toList == [115, 117, 114, 101]) = true := by rw [str_eq2, e1]; rfl
          clear e1 AC
          go_wp2_with fail
          go_roundw
          case rel => exact ⟨k + 1, by go_num, by omega, SK.out, HA.out, HB.out⟩
          case measure => simp [intOf]; omega
        · have E1 : (xn.toList == [115, 117, 114, 101]) = false := by rw [str_eq2]; exact decide_eq_false e1
          by_cases e2 : xk = 2
          · by_cases e3 : xs = nS
            · have E3 : (xs.toList == [115, 117, 114, 101]) = true := by rw [str_eq2, e3]; rfl
              subst e2
              clear e1 e3 AC
              go_wp2_with fail
              go_roundw
              case rel => exact ⟨k + 1, by go_num, by omega, SK.out, HA.out, HB.out⟩
              case measure => simp [intOf]; omega
            · have E3 : (xs.toList == [115, 117, 114, 101]) = false := by rw [str_eq2]; exact decide_eq_false e3
              subst e2
              have HNE : Act.nm ⟨2, xn, xa, xb, xs⟩ ≠ nS := e1
              have HNE2 : Act.kd ⟨2, xn, xa, xb, xs⟩ = 2 → Act.s ⟨2, xn, xa, xb, xs⟩ ≠ nS := fun _ => e3
              clear e1 e3
              go_wp2_with fail
              refine (AC.out HNE HNE2).mono ?_
              rintro e w6 ⟨x6, rfl, s6, a6, b6⟩
              have S6h := Lib.hid s6
              have A6h := Lib.hid a6
              have HB' := Lib.hid (HB.out.trans b6)
              clear s6 a6 b6 AC c0 c1 c2 c3 c4
              go_wp2_with fail
              go_roundw
              case rel => exact ⟨k + 1, by go_num, by omega, S6h.out, A6h.out, HB'.out⟩
              case measure => simp [intOf]; omega
          · have E2 : (xk == 2) = false := by simpa using e2
            have HNE : Act.nm ⟨xk, xn, xa, xb, xs⟩ ≠ nS := e1
            have HNE2 : Act.kd ⟨xk, xn, xa, xb, xs⟩ = 2 → Act.s ⟨xk, xn, xa, xb, xs⟩ ≠ nS := fun h => absurd h e2
            clear e1 e2
            go_wp2_with fail
            refine (AC.out HNE HNE2).mono ?_
            rintro e w6 ⟨x6, rfl, s6, a6, b6⟩
            have S6h := Lib.hid s6
            have A6h := Lib.hid a6
            have HB' := Lib.hid (HB.out.trans b6)
            clear s6 a6 b6 AC c0 c1 c2 c3 c4
            go_wp2_with fail
            go_roundw
            case rel => exact ⟨k + 1, by go_num, by omega, S6h.out, A6h.out, HB'.out⟩
            case measure => simp [intOf]; omega
      · have hkm2 : (mm : Int) ≤ k := by omega
        obtain ⟨m, S, L', d, hf, ok, kp, hrow, hmb⟩ := HS.out.d
        have F := Lib.hid (faild kk ⟨L', d⟩ ok (by omega) hk)
        have KP := Lib.hid kp
        clear d ok kp HS A5 hf
        go_wp2_with fail
        refine F.out.mono ?_
        rintro e w6 ⟨rfl, S6, d6, o6, hdn, h1, h2, b6⟩
        have G := Lib.hid (end_read o6 KP.out h1 h2)
        have C7 := Lib.hid (waked d6 o6)
        have B6 := Lib.hid (HB.out.trans b6)
        clear d6 o6 hdn h1 h2 b6 F
        go_wp2_with fail
        refine C7.out.mono ?_
        rintro e w7 ⟨rfl, d7, o7, b7⟩
        have C8 := Lib.hid (readd d7 nS (by decide))
        rw [readV_up (S := { S6 with down := false }) rfl nameS G.out, str_bl] at C8
        have B7 := Lib.hid (B6.out.trans b7)
        unfold nS at C8
        clear d7 o7 b7 C7
        go_wp2_with fail
        refine C8.out.mono ?_
        rintro e w8 ⟨rfl, rfl⟩
        go_wp2_with fail
        go_ret
        exact ⟨ret_true (by simp), B7.out⟩
  · go_wp2_with fail
    refine (awake_any _).mono ?_
    rintro e w3 ⟨rfl, b3⟩
    have B3 := Lib.hid (B2.out.trans (b3.mono B2.out.size))
    clear b3
    go_wp2_with fail
    go_ret
    exact ⟨rfl, B3.out⟩
end Go.Proofs.Ytejmoaloomnmkaa
