/-
  THE LAW CrcBurst AS A WALK.
-/
import Derived.Test.YtpnkdpmhphhenabTurn
import Derived.Test.YtpnkdpmhphhenabLaws1
import Derived.Laws.IdiomStrings
namespace Go.Proofs.Ytpnkdpmhphhenab
open Go.RowKit Go.Sort
/-- the bytes of a block that is written on -/
def TurnAt (w : World) (g : Nat) (z : List UInt8) : Prop := ∃ cur fr, w.heap[g]? = some (.cells cur 5 fr) ∧ z.length ≤ fr.1 ∧ ∀ i (h : i < z.length), cur[i]? = some (.int .u8 (z[i].toNat : Int))
theorem TurnAt.cell {w : World} {g : Nat} {z : List UInt8} (h : TurnAt w g z) (i : Nat) (hi : i < z.length) : w.cell? ⟨g, i, none⟩ = some (.int .u8 (z[i].toNat : Int)) := by
  obtain ⟨cur, fr, h1, _, h3⟩ := h
  simp [World.cell?, h1, h3 i hi]
theorem TurnAt.free {w : World} {g : Nat} {z : List UInt8} (h : TurnAt w g z) (i : Nat) (hi : i < z.length) : w.frozen? ⟨g, i, none⟩ = false := by
  obtain ⟨cur, ⟨lo, hi2⟩, h1, h2, _⟩ := h
  simp only [World.frozen?, h1]
  simp at h2 ⊢
  omega
theorem TurnAt.lt {w : World} {g : Nat} {z : List UInt8} (h : TurnAt w g z) : g < w.heap.size := by
  obtain ⟨cur, fr, h1, _, _⟩ := h
  exact (Array.getElem?_eq_some_iff.1 h1).1
theorem TurnAt.set {w : World} {g : Nat} {z : List UInt8} (h : TurnAt w g z) (j : Nat) (v : UInt8) (n : Int) (hn : n = (v.toNat : Int)) : TurnAt (w.setCell ⟨g, j, none⟩ (.int .u8 n)) g (z.set j v) := by
  subst hn
  obtain ⟨cur, fr, h1, h2, h3⟩ := h
  refine ⟨cur.setIfInBounds j (.int .u8 (v.toNat : Int)), fr, by simp [World.setCell, Array.getElem?_modify, h1], by simpa using h2, fun i hi => ?_⟩
  rw [List.length_set] at hi
  rw [Array.getElem?_setIfInBounds, List.getElem_set]
  split
  · have : i < cur.size := by
      have := h3 i hi
      exact (Array.getElem?_eq_some_iff.1 this).1
    subst_vars
    simp [this]
  · exact h3 i hi
theorem turn_start (w : World) (s : ByteArray) : ∃ c w', (convert 9 44 (.string s)).run Try.prog w = .ok (.slice (some ⟨w.heap.size, 0, none⟩) s.size c) w' ∧ s.size ≤ c ∧ TurnAt w' w.heap.size s.data.toList ∧ Below w.heap.size w w' := by
  refine ⟨_, _, run_bytes_of_string (P := Try.prog) w 9 44 5 s Try.underlying9 Try.underlying44 Try.underlying5, grownCap_ge w s.size 0 5, ?_, ?_⟩
  · refine ⟨bytesRow s (grownCap w s.size 0 5), ((bytesRow s (grownCap w s.size 0 5)).size, (bytesRow s (grownCap w s.size 0 5)).size + 1), ?_, ?_, fun i hi => ?_⟩
    · show (w.heap.push _)[w.heap.size]? = _
      simp
    · show s.data.toList.length ≤ (bytesRow s (grownCap w s.size 0 5)).size
      simp [bytesRow]
    · exact bytesRow_at s _ i (by simpa using hi)
  · exact ((Below.refl _ w).drew).alloc (Nat.le_refl _) _
theorem turn_back {w : World} {g : Nat} {z : List UInt8} (h : TurnAt w g z) (n c : Nat) (hn : z.length = n) : (convert 44 9 (.slice (some ⟨g, 0, none⟩) n c)).run Try.prog w = .ok (.string ⟨z.toArray⟩) w := by
  subst hn
  exact run_convert_bytes_back (P := Try.prog) w 44 9 5 ⟨g, 0, none⟩ c z Try.underlying44 Try.underlying5 Try.underlying9 (fun j hj => by rw [show (⟨g, 0, none⟩ : Addr).add j = ⟨g, j, none⟩ from by unfold Addr.add; split <;> simp_all]; exact h.cell j hj)
theorem TurnAt.below {w w' : World} {g : Nat} {z : List UInt8} (h : TurnAt w g z) (hb : Below w.heap.size w w') : TurnAt w' g z := by
  have hl := h.lt
  obtain ⟨cur, fr, h1, h2⟩ := h
  exact ⟨cur, fr, by rw [hb.block g hl]; exact h1, h2⟩
theorem pow_byte (m : Nat) (h : m < 8) : 2 ^ m < 256 ∧ ((2 : Int) ^ m % 256) = ((2 ^ m : Nat) : Int) := by
  match m, h with
  | 0, _ => decide
  | 1, _ => decide
  | 2, _ => decide
  | 3, _ => decide
  | 4, _ => decide
  | 5, _ => decide
  | 6, _ => decide
  | 7, _ => decide
theorem xor_lt_byte {a b : Nat} (ha : a < 256) (hb : b < 256) : a ^^^ b < 256 := Nat.xor_lt_two_pow (n := 8) ha hb
theorem first_in (a : Int) (m : Nat) (hm : 0 < m) : -(m : Int) < a.tmod m ∧ a.tmod m < m ∧ ∃ F : Nat, F < m ∧ (a.tmod m + m) % m = F := by
  have h1 : -(m : Int) < a.tmod m := Int.lt_tmod_of_pos a (b := (m : Int)) (by omega)
  have h2 : a.tmod m < m := Int.tmod_lt_of_pos a (by omega)
  have h3 := Int.emod_nonneg (a.tmod m + m) (show (m : Int) ≠ 0 by omega)
  have h4 := Int.emod_lt_of_pos (a.tmod m + m) (show (0 : Int) < m by omega)
  exact ⟨h1, h2, ((a.tmod m + m) % m).toNat, by omega, by omega⟩
set_option maxHeartbeats 2000000 in
theorem burst_law (b : ByteArray) (at_ u : Int) (hb : b.size ≤ 9223372036854775807) (w : World) :
    Calls Try.prog 7 #[.string b, .int .i64 at_, .int .u32 u] w fun e w' => e = .returned (.bool true) ∧ Below w.heap.size w w' := by
  by_cases h0 : 1048576 < b.size
  · have hpl := pack_long b h0 hb w
    have HP := Lib.hid hpl
    clear hpl
    go_enter Try.func7, Try.ntmps7
    go_wp2_with fail
    refine (HP.out).mono ?_
    rintro r w1 ⟨rfl, rfl⟩
    go_wp2_with fail
    refine (awake_any _).mono ?_
    rintro r w2 ⟨rfl, b2⟩
    go_wp2_with fail
    go_ret
    exact ⟨rfl, b2⟩
  have h1 : b.size ≤ 1048576 := by omega
  have HP := Lib.hid (pack_any b h1 w)
  by_cases h2 : 20000 < b.size
  · go_enter Try.func7, Try.ntmps7
    go_wp2_with fail
    refine (HP.out).mono ?_
    rintro r w1 ⟨rfl, b1⟩
    go_wp2_with fail
    refine (awake_any _).mono ?_
    rintro r w2 ⟨rfl, b2⟩
    go_wp2_with fail
    go_ret
    exact ⟨rfl, b1.trans (b2.mono b1.size)⟩
  have hps := pack_size b
  generalize hp : packS b = p at *
  go_enter Try.func7, Try.ntmps7
  go_wp2_with fail
  refine (HP.out).mono ?_
  rintro r w1 ⟨rfl, b1⟩
  have hts := turn_start w1 p
  obtain ⟨c, w2, hcv, hc, ht2, bb⟩ := hts
  obtain ⟨g1, g2, F, gF, gE⟩ := first_in at_ (8 * (b.size + 4)) (by omega)
  have eM : ((8 * (b.size + 4) : Nat) : Int) = 8 * ((b.size : Int) + 4) := by omega
  rw [eM] at g1 g2 gE
  have EW := Lib.hid gE
  clear gE
  go_wp2_with fail
  simp only [EW.out]
  have hF32 : F < 8 * (b.size + 4) := gF
  have c2 : Below w.heap.size w w2 := b1.trans (bb.mono b1.size)
  go_loopw [12] (fun i wr => Below w.heap.size w wr ∧ ∃ (k : Nat) (z : List UInt8), i = .int .i64 k ∧ k ≤ 32 ∧ Agree p.data.toList z (F + 24) k ∧ TurnAt wr w1.heap.size z) (fun i _ => 32 - (intOf i).toNat)
  case atStart => exact ⟨c2, 0, p.data.toList, rfl, by omega, Agree.start _ _, ht2⟩
  case round =>
    obtain ⟨hb2, k, z, rfl, hk, ha, ht⟩ := hrel
    by_cases hlt : k < 32
    · have hki : (k : Int) < 32 := by omega
      by_cases hin : F + k < 8 * (b.size + 4)
      · have hini : (F : Int) + (k : Int) < 8 * ((b.size : Int) + 4) := by omega
        have hzl : 3 + (F + k) / 8 < z.length := by have := ha.1; rw [← Lib.size_eq, hps] at this; omega
        have hc1 := ht.cell (3 + (F + k) / 8) hzl
        have hf1 := ht.free (3 + (F + k) / 8) hzl
        have hbx := z[3 + (F + k) / 8].toNat_lt
        have hset := Lib.hid (fun v n hn => ht.set (3 + (F + k) / 8) v n hn)
        have hag := Lib.hid (fun v hv => ha.turn v hv)
        generalize hxe : z[3 + (F + k) / 8] = x at *
        have e1 : (F + 24 + k) / 8 = 3 + (F + k) / 8 := by omega
        have e2 : (F + 24 + k) % 8 = (F + k) % 8 := by omega
        have hP2 : Hid (2 ^ ((F + k) % 8) < 256 ∧ ((2 : Int) ^ ((F + k) % 8) % 256) = ((2 ^ ((F + k) % 8) : Nat) : Int)) := pow_byte _ (by omega)
        go_wp2_with fail
        rotate_left
        · exact ⟨⟨hb2, k + 1, z, by go_num, by omega, ha.skip, ht⟩, by simp [intOf]; omega⟩
        · have hx := xor_lt_byte hbx hP2.out.1
          have hv : (UInt8.ofNat (x.toNat ^^^ 2 ^ ((F + k) % 8))).toNat = x.toNat ^^^ 2 ^ ((F + k) % 8) := ofNat_toNat hx
          refine ⟨⟨hb2.setCell (p := ⟨w1.heap.size, 3 + (F + k) / 8, none⟩) b1.size _, k + 1, z.set (3 + (F + k) / 8) (UInt8.ofNat (x.toNat ^^^ 2 ^ ((F + k) % 8))), by go_num, by omega, ?_, ?_⟩, by simp [intOf]; omega⟩
          · have := hag.out (UInt8.ofNat (x.toNat ^^^ 2 ^ ((F + k) % 8))) (by
              rw [hv, e1, e2, List.getD_eq_getElem?_getD, List.getElem?_eq_getElem hzl, hxe]; rfl)
            rw [e1] at this
            exact this
          · refine hset.out _ _ ?_
            rw [hP2.out.2, hv]
            exact u8_xor_nat _ _ hbx hP2.out.1
      · have hini : ¬ (F : Int) + (k : Int) < 8 * ((b.size : Int) + 4) := by omega
        go_wp2_with fail
        go_roundw
        case rel => exact ⟨hb2, k + 1, z, by go_num, by omega, ha.skip, ht⟩
        case measure => simp [intOf]; omega
    · obtain rfl : k = 32 := by omega
      have hzs : z.length = b.size + 7 := by have := ha.1; rw [← Lib.size_eq, hps] at this; exact this
      have hss : (⟨z.toArray⟩ : ByteArray).size = b.size + 7 := hzs
      have hcv2 := turn_back ht (b.size + 7) c hzs
      have HU := Lib.hid (unpack_any ⟨z.toArray⟩ (by omega))
      by_cases hne : z = p.data.toList
      · have hzp : (⟨z.toArray⟩ : ByteArray) = p := bytes_ext hne
        rw [hzp] at hcv2 HU
        have hun := unp_pack b ⟨#[]⟩ h1
        rw [cat_nil, hp] at hun
        rw [hun] at HU
        go_wp2_with fail
        refine (HU.out _).mono ?_
        rintro r w4 ⟨rfl, b4⟩
        have hcv3 := turn_back (ht.below b4) (b.size + 7) c hzs
        rw [hzp] at hcv3
        have c4 := hb2.trans (b4.mono hb2.size)
        unfold unpV
        go_wp2_with fail
        refine (awake_any _).mono ?_
        rintro r w5 ⟨rfl, b5⟩
        go_wp2_with fail
        go_ret
        exact ⟨rfl, c4.trans (b5.mono c4.size)⟩
      · have hun := turned b h1 z (F + 24) (by omega) (by rw [hp]; exact ha) (by rw [hp]; exact hne)
        rw [hun] at HU
        have hdn : (z == p.toList) = false := by
          rw [beq_eq_false_iff_ne]
          intro e
          apply hne
          rw [e, ByteArray.toList_eq]
        go_wp2_with fail
        refine (HU.out _).mono ?_
        rintro r w4 ⟨rfl, b4⟩
        have hcv3 := turn_back (ht.below b4) (b.size + 7) c hzs
        have c4 := hb2.trans (b4.mono hb2.size)
        unfold unpV
        go_wp2_with fail
        refine (awake_any _).mono ?_
        rintro r w5 ⟨rfl, b5⟩
        go_wp2_with fail
        go_ret
        exact ⟨rfl, c4.trans (b5.mono c4.size)⟩
end Go.Proofs.Ytpnkdpmhphhenab
