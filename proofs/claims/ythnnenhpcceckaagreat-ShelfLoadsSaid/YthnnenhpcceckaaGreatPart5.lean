/-
  WHAT THE ROWS REST ON, part 5: CPack CCut CUnp Vot Tkv Rdv Lod Lod2 Lsn Sav2 Sav3 Sav4 Pln Sre BRef.
-/
import Derived.Lib.QuietBelow
import Derived.BigQuiet
import Derived.Deep.QuietTactic
import Derived.Test.YthnnenhpcceckaaGreatPart4
/-
  THE WALKS OF foot, Pack AND THE DOCUMENT OWN Pack.
-/
namespace Go.Proofs.YthnnenhpcceckaaGreat.Ct
open Go.RowKit
theorem conv_new (W : World) (cs : List Value) (xs : List Int) (off : Nat) (h : cs.drop off = xs.map (Value.int .u8)) (len : Nat) (hl : xs.length = len) (t cap : Nat) :
    (convert 55 9 (.slice (some ⟨W.heap.size, off, none⟩) len cap)).run Tryz.prog (W.alloc (.cells cs.toArray t)) = .ok (.string (strOfNums xs)) (W.alloc (.cells cs.toArray t)) := by
  refine run_convert_bytes_arg (P := Tryz.prog) _ 55 5 Tryz.underlying55 Tryz.underlying5 W.heap.size off len cap xs hl ?_ 9 Tryz.underlying9
  intro i hi
  rw [World.cell?_alloc_new]
  have e := congrArg (fun l => l[i]?) h
  simp only [List.getElem?_drop, List.getElem?_map] at e
  rw [List.getElem?_toArray, e, List.getElem?_eq_getElem (by omega)]
  simp [List.getD, List.getElem?_eq_getElem (show i < xs.length by omega)]
theorem clone_any (s : ByteArray) (w : World) (hs : s.size ≤ 281474976710656) :
    Calls Tryz.prog 18 #[.string s] w fun e w' => e = .returned (.string s) ∧ Below w.heap.size w w' := by
  exact str_clone s w hs
/-- three bytes, the highest first -/
def head3 (n : Int) : List Int := [n / 65536, n / 256 % 256, n % 256]
/-- four bytes, the lowest first -/
def foot4 (n : Int) : List Int := [n % 256, n / 256 % 256, n / 65536 % 256, n / 16777216]
def sumI (s : ByteArray) : Int := (CrcP.sumN s.data.toList : Nat)
def footS (s : ByteArray) : ByteArray := strOfNums (foot4 (sumI s))
/-- how many bytes the body has, and the body -/
def frontS (b : ByteArray) : ByteArray := strOfNums (head3 b.size) ++ b
/-- a body's pack -/
def packS (b : ByteArray) : ByteArray := frontS b ++ footS (frontS b)
theorem sumI_bd (s : ByteArray) : 0 ≤ sumI s ∧ sumI s < 4294967296 := by
  unfold sumI CrcP.sumN; omega
theorem foot_size (s : ByteArray) : (footS s).size = 4 := by unfold footS; rw [strOfNums_size]; rfl
theorem front_size (b : ByteArray) : (frontS b).size = b.size + 3 := by
  unfold frontS
  rw [ByteArray.size_append, strOfNums_size]
  simp [head3]; omega
theorem pack_size (b : ByteArray) : (packS b).size = b.size + 7 := by
  unfold packS
  rw [ByteArray.size_append, foot_size, front_size]
set_option maxHeartbeats 400000 in
theorem foot_any (s : ByteArray) (hs : s.size ≤ 9223372036854775807) (w : World) :
    Calls Tryz.prog 82 #[.string s] w fun e w' => e = .returned (.string (footS s)) ∧ Below w.heap.size w w' := by
  have h := sumI_bd s
  have H : Hid (∀ w, Calls Tryz.prog 106 #[.string s] w fun e w' => e = .returned (.int .u32 (sumI s)) ∧ w = w') := fun w => sum_any s hs w
  unfold footS
  generalize sumI s = n at *
  have hconv := fun W : World => conv_new W [.int .u8 (n % 256), .int .u8 (n / 256 % 256), .int .u8 (n / 65536 % 256), .int .u8 (n / 16777216)] (foot4 n) 0 rfl 4 rfl 5 4
  go_enter Tryz.func82, Tryz.ntmps82
  go_wp2_with fail
  refine (H.out _).mono ?_
  rintro e w1 ⟨rfl, rfl⟩
  go_wp2_with fail
  go_ret
  exact ⟨rfl, (Below.refl _ _).alloc (Nat.le_refl _) _⟩
set_option maxHeartbeats 400000 in
theorem pack_any (b : ByteArray) (hb : b.size ≤ 1048576) (w : World) :
    Calls Tryz.prog 73 #[.string b] w fun e w' => e = .returned (.tuple #[.string (packS b), .int .i64 0]) ∧ Below w.heap.size w w' := by
  have hconv := fun W : World => conv_new W [.int .u8 ((b.size : Int) / 65536), .int .u8 ((b.size : Int) / 256 % 256), .int .u8 ((b.size : Int) % 256)] (head3 b.size) 0 rfl 3 rfl 5 3
  have hz : (strOfNums (head3 b.size)).size = 3 := by rw [strOfNums_size]; rfl
  have hf : (strOfNums (head3 b.size) ++ b).size = b.size + 3 := front_size b
  have hfo := foot_size (strOfNums (head3 b.size) ++ b)
  have hz1 : (strOfNums (head3 b.size)).size + b.size ≤ 9223372036854775807 := by omega
  have hz2 : (strOfNums (head3 b.size) ++ b).size + (footS (strOfNums (head3 b.size) ++ b)).size ≤ 9223372036854775807 := by omega
  clear hz hfo
  have Hf := Lib.hid hf
  clear hf
  go_enter Tryz.func73, Tryz.ntmps73
  go_wp2_with fail
  refine (foot_any _ (by have := Hf.out; omega) _).mono ?_
  rintro e w1 ⟨rfl, hb1⟩
  go_wp2_with fail
  go_ret2
  exact ⟨rfl, ((Below.refl _ _).alloc (Nat.le_refl _) _).trans (hb1.mono (by simp))⟩
theorem pack_long (b : ByteArray) (hb : 1048576 < b.size) (hb2 : b.size ≤ 9223372036854775807) (w : World) :
    Calls Tryz.prog 73 #[.string b] w fun e w' => e = .returned (.tuple #[.string ⟨#[]⟩, .int .i64 2]) ∧ w = w' := by
  go_enter Tryz.func73, Tryz.ntmps73
  go_wp2_with fail
  go_ret2
  exact ⟨rfl, rfl⟩
theorem rpack_long (b : ByteArray) (hb : 1048576 < b.size) (hb2 : b.size ≤ 9223372036854775807) (w : World) :
    Calls Tryz.prog 68 #[.string b] w fun e w' => e = .returned (.tuple #[.string ⟨#[]⟩, .int .i64 2]) ∧ w = w' := by
  go_enter Tryz.func68, Tryz.ntmps68
  go_wp2_with fail
  go_ret2
  exact ⟨rfl, rfl⟩
set_option maxHeartbeats 400000 in
theorem rpack_any (b : ByteArray) (hb : b.size ≤ 1048576) (w : World) :
    Calls Tryz.prog 68 #[.string b] w fun e w' => e = .returned (.tuple #[.string (packS b), .int .i64 0]) ∧ Below w.heap.size w w' := by
  have hconv := fun W : World => conv_new W [.int .u8 ((b.size : Int) / 65536), .int .u8 ((b.size : Int) / 256 % 256), .int .u8 ((b.size : Int) % 256)] (head3 b.size) 0 rfl 3 rfl 5 3
  have hz : (strOfNums (head3 b.size)).size = 3 := by rw [strOfNums_size]; rfl
  have hf : (strOfNums (head3 b.size) ++ b).size = b.size + 3 := front_size b
  have hfo := foot_size (strOfNums (head3 b.size) ++ b)
  have hz1 : (strOfNums (head3 b.size)).size + b.size ≤ 9223372036854775807 := by omega
  have hz2 : (strOfNums (head3 b.size) ++ b).size + (strOfNums (foot4 (sumI (strOfNums (head3 b.size) ++ b)))).size ≤ 9223372036854775807 := by unfold footS at hfo; omega
  clear hz hfo
  have Hf := Lib.hid hf
  clear hf
  have hn := sumI_bd (strOfNums (head3 b.size) ++ b)
  go_enter Tryz.func68, Tryz.ntmps68
  go_wp2_with fail
  refine (rsum_any _ (by have := Hf.out; omega) _).mono ?_
  rintro e w1 ⟨rfl, rfl⟩
  have hpk : Hid (packS b = (strOfNums (head3 b.size) ++ b) ++ strOfNums (foot4 (sumI (strOfNums (head3 b.size) ++ b)))) := rfl
  have b0 := (Below.refl w.heap.size w).alloc (Nat.le_refl _) (.cells #[.int .u8 ((b.size : Int) / 65536), .int .u8 ((b.size : Int) / 256 % 256), .int .u8 ((b.size : Int) % 256)] 5)
  generalize w.alloc (.cells #[.int .u8 ((b.size : Int) / 65536), .int .u8 ((b.size : Int) / 256 % 256), .int .u8 ((b.size : Int) % 256)] 5) = w0 at *
  rw [show ((CrcP.sumN (strOfNums (head3 b.size) ++ b).data.toList : Nat) : Int) = sumI (strOfNums (head3 b.size) ++ b) from rfl]
  generalize hN : sumI (strOfNums (head3 b.size) ++ b) = n at *
  clear hN
  have hconv2 := fun W : World => conv_new W [.int .u8 (n % 256), .int .u8 (n / 256 % 256), .int .u8 (n / 65536 % 256), .int .u8 (n / 16777216)] (foot4 n) 0 rfl 4 rfl 5 4
  go_wp2_with fail
  go_ret2
  exact ⟨by rw [hpk.out]; rfl, b0.alloc b0.size _⟩
end Go.Proofs.YthnnenhpcceckaaGreat.Ct
/-
  THE WALK OF crc.cut: what stands at the front, as a pack.
-/
namespace Go.Proofs.YthnnenhpcceckaaGreat.Ct
open Go.RowKit Go.Sort
theorem mixed : Tryz.prog.follows .mixedOrders = true := by kernel_rfl
/-- how many bytes the body has, by the first three -/
def len3 (s : ByteArray) : Nat := (s.data.toList.getD 0 0).toNat * 65536 + (s.data.toList.getD 1 0).toNat * 256 + (s.data.toList.getD 2 0).toNat
/-- what stands at the front, as a pack -/
def unp (s : ByteArray) : ByteArray × ByteArray × Int :=
  if s.size < 3 then (⟨#[]⟩, ⟨#[]⟩, 5) else if 1048576 < len3 s then (⟨#[]⟩, ⟨#[]⟩, 2) else if s.size < len3 s + 7 then (⟨#[]⟩, ⟨#[]⟩, 5)
  else if s.extract (len3 s + 3) (len3 s + 7) ≠ footS (s.extract 0 (len3 s + 3)) then (⟨#[]⟩, ⟨#[]⟩, 6)
  else (s.extract 3 (len3 s + 3), s.extract (len3 s + 7) s.size, 0)
def unpV (x : ByteArray × ByteArray × Int) : Value := .tuple #[.string x.1, .string x.2.1, .int .i64 x.2.2]
theorem unp_eq (s : ByteArray) (h : ¬ s.size < 3) : unp s = if 1048576 < len3 s then (⟨#[]⟩, ⟨#[]⟩, 2) else if s.size < len3 s + 7 then (⟨#[]⟩, ⟨#[]⟩, 5)
  else if s.extract (len3 s + 3) (len3 s + 7) ≠ footS (s.extract 0 (len3 s + 3)) then (⟨#[]⟩, ⟨#[]⟩, 6)
  else (s.extract 3 (len3 s + 3), s.extract (len3 s + 7) s.size, 0) := by unfold unp; rw [if_neg h]
theorem len3_eq (s : ByteArray) (h0 : 0 < s.size) (h1 : 1 < s.size) (h2 : 2 < s.size) : len3 s = s[0].toNat * 65536 + s[1].toNat * 256 + s[2].toNat := by
  have e : ∀ i (h : i < s.size), s.data.toList.getD i 0 = s[i] := fun i h => by
    rw [List.getD_eq_getElem?_getD, List.getElem?_eq_getElem (by simpa using h)]; rfl
  unfold len3
  rw [e 0 h0, e 1 h1, e 2 h2]
theorem or3 (a b c : UInt8) : bits .or .i64 (bits .or .i64 ((a.toNat : Int) * 65536) ((b.toNat : Int) * 256)) (c.toNat : Int) = ((a.toNat * 65536 + b.toNat * 256 + c.toNat : Nat) : Int) := by
  have ha := a.toNat_lt
  have hb := b.toNat_lt
  have hc := c.toNat_lt
  have hw : ∀ n : Int, 0 ≤ n → n < 2 ^ 63 → IntKind.i64.wrap n = n := fun n h0 h1 => IntWalk.i64_in n ⟨by omega, by omega⟩
  have e1 : bits .or .i64 ((a.toNat : Int) * 65536) ((b.toNat : Int) * 256) = (a.toNat : Int) * 65536 + (b.toNat : Int) * 256 := bits_join .i64 63 (by decide) hw 16 _ _ (by omega) (by omega) (by omega) (by omega) (by omega) (by omega)
  rw [e1, bits_join .i64 63 (by decide) hw 8 _ _ (by omega) (by omega) (by omega) (by omega) (by omega) (by omega)]
  omega
set_option maxRecDepth 10000 in
set_option maxHeartbeats 1000000 in
theorem cut_any (s : ByteArray) (hs : s.size ≤ 281474976710656) (w : World) :
    Calls Tryz.prog 62 #[.string s] w fun e w' => e = .returned (unpV (unp s)) ∧ Below w.heap.size w w' := by
  by_cases h3 : s.size < 3
  · have hu : Hid (unp s = (⟨#[]⟩, ⟨#[]⟩, 5)) := by unfold Hid unp; rw [if_pos h3]
    go_enter Tryz.func62, Tryz.ntmps62
    go_wp2_with fail
    go_ret3
    exact ⟨by rw [hu.out]; rfl, Below.refl _ _⟩
  · have b0 := s[0].toNat_lt
    have b1 := s[1].toNat_lt
    have b2 := s[2].toNat_lt
    have p0 : (0 : Int) < (s.size : Int) := by omega
    have p1 : (1 : Int) < (s.size : Int) := by omega
    have p2 : (2 : Int) < (s.size : Int) := by omega
    have q0 : 0 < s.size := by omega
    have q1 : 1 < s.size := by omega
    have q2 : 2 < s.size := by omega
    have hor := or3 s[0] s[1] s[2]
    rw [← len3_eq s q0 q1 q2] at hor
    have hu := Lib.hid (unp_eq s h3)
    generalize len3 s = L at *
    by_cases h4 : 1048576 < L
    · have hu2 := hu.out
      rw [if_pos h4] at hu2
      have Hu := Lib.hid hu2
      clear hu2 hu
      go_enter Tryz.func62, Tryz.ntmps62
      go_wp2_with fail
      go_quiet (fail)
      go_wp2_with fail
      go_ret3
      exact ⟨by rw [Hu.out]; rfl, below_drewN (Below.refl _ _) _⟩
    by_cases h5 : s.size < L + 7
    · have hu2 := hu.out
      rw [if_neg h4, if_pos h5] at hu2
      have Hu := Lib.hid hu2
      clear hu2 hu
      go_enter Tryz.func62, Tryz.ntmps62
      go_wp2_with fail
      go_quiet (fail)
      go_wp2_with fail
      go_ret3
      exact ⟨by rw [Hu.out]; rfl, below_drewN (Below.refl _ _) _⟩
    · go_enter Tryz.func62, Tryz.ntmps62
      go_wp2_with fail
      go_quiet (fail)
      go_wp2_with fail
      have b1 : Below w.heap.size w (w.drewN nq) := below_drewN (Below.refl _ _) _
      generalize w.drewN nq = w1 at *
      have hF := foot_any (s.extract 0 (3 + L)) (by simp; omega)
      have cF : ∀ d os, Calls Tryz.prog 82 #[.string (s.extract 0 (3 + L))] (grow (redrawn w1 d) os) fun e w'' => e = .returned (.string (footS (s.extract 0 (3 + L)))) ∧ ∃ p : Regrown, w'' = grow (redrawn w1 p.d) p.os := fun d os => Calls.regrown_of (hF _)
      clear hF
      have CF := Lib.hid cF
      clear cF
      have l1 : IntKind.i64.wrap (3 + (L : Int) + 4) = 3 + (L : Int) + 4 := IntWalk.i64_in _ ⟨by omega, by omega⟩
      have l2 : (0 : Int) ≤ 3 + (L : Int) + 4 := by omega
      have l3 : (3 + (L : Int) + 4).toNat = 3 + L + 4 := by omega
      have l4 : (0 : Int) ≤ 3 + (L : Int) := by omega
      have l5 : (3 + (L : Int)).toNat = 3 + L := by omega
      have l6 : 3 + (L : Int) ≤ 3 + (L : Int) + 4 := by omega
      have l7 : 3 + (L : Int) ≤ (s.size : Int) := by omega
      have l8 : 3 + L + 4 ≤ s.size := by omega
      have l9 : 3 + L ≤ s.size := by omega
      refine wp_region_quiet_below mixed (by kernel_rfl) ?_
      repeat (quiet_step (exact CF.out _ _))
      refine wpQuiet_nil ?_
      intro _ hw'
      obtain ⟨⟨dq, osq⟩, hw''⟩ := hw'
      subst hw''
      have b2 : Below w.heap.size w (grow (redrawn w1 dq) osq) := b1.trans ((below_regrown w1 dq osq).mono b1.size)
      generalize grow (redrawn w1 dq) osq = w2 at *
      have hu2 := hu.out
      rw [if_neg h4, if_neg h5, Nat.add_comm L 3, show L + 7 = 3 + L + 4 from by omega] at hu2
      by_cases h6 : s.extract (3 + L) (3 + L + 4) = footS (s.extract 0 (3 + L))
      · have h7 : (!((s.extract (3 + L) (3 + L + 4)).toList == (footS (s.extract 0 (3 + L))).toList)) = false := by rw [h6]; simp
        rw [h7]
        clear h7
        rw [if_neg (by simpa using h6)] at hu2
        have Hu := Lib.hid hu2
        clear hu2 hu h6
        go_wp2_with fail
        go_quiet (fail)
        go_wp2_with fail
        go_ret3
        exact ⟨by rw [Hu.out]; rfl, below_drewN b2 _⟩
      · have h7 : (!((s.extract (3 + L) (3 + L + 4)).toList == (footS (s.extract 0 (3 + L))).toList)) = true := by
          rw [Bool.not_eq_true', beq_eq_false_iff_ne]
          intro he
          exact h6 (ByteArray.ext (Array.toList_inj.1 (by rw [← Lib.toList_data, ← Lib.toList_data, he])))
        rw [h7]
        clear h7
        rw [if_pos (by simpa using h6)] at hu2
        have Hu := Lib.hid hu2
        clear hu2 hu h6
        go_wp2_with fail
        go_ret3
        exact ⟨by rw [Hu.out]; rfl, b2⟩
end Go.Proofs.YthnnenhpcceckaaGreat.Ct
/-
  WHAT A PACK AT THE FRONT IS, TWO WAYS; THE WALK OF crc.Unpack.
-/
namespace Go.Proofs.YthnnenhpcceckaaGreat.Ct
open Go.RowKit Go.Sort
theorem bytes_ext {a b : ByteArray} (h : a.data.toList = b.data.toList) : a = b := ByteArray.ext (Array.toList_inj.1 h)
theorem append_data (a b : ByteArray) : (a ++ b).data.toList = a.data.toList ++ b.data.toList := by simp
theorem extract_split (s : ByteArray) {a b c : Nat} (h1 : a ≤ b) (h2 : b ≤ c) : s.extract a c = s.extract a b ++ s.extract b c := by
  apply bytes_ext
  rw [append_data, Lib.extract_data, Lib.extract_data, Lib.extract_data]
  rw [show c - a = (b - a) + (c - b) by omega, List.take_add, List.drop_drop, show a + (b - a) = b by omega]
theorem append_inj_left {a b c d : ByteArray} (h : a ++ b = c ++ d) (hs : a.size = c.size) : b = d := by
  have h1 := congrArg (fun x : ByteArray => x.data.toList) h
  simp only [append_data] at h1
  have := List.append_inj h1 (by rw [← Lib.size_eq, ← Lib.size_eq, hs])
  exact bytes_ext this.2
theorem len3_of (a b c : UInt8) : ([((a.toNat * 65536 + b.toNat * 256 + c.toNat : Nat) : Int) / 65536, ((a.toNat * 65536 + b.toNat * 256 + c.toNat : Nat) : Int) / 256 % 256, ((a.toNat * 65536 + b.toNat * 256 + c.toNat : Nat) : Int) % 256].map fun n => UInt8.ofNat n.toNat) = [a, b, c] := by
  have ha := a.toNat_lt
  have hb := b.toNat_lt
  have hc := c.toNat_lt
  have e1 : (((a.toNat * 65536 + b.toNat * 256 + c.toNat : Nat) : Int) / 65536).toNat = a.toNat := by omega
  have e2 : (((a.toNat * 65536 + b.toNat * 256 + c.toNat : Nat) : Int) / 256 % 256).toNat = b.toNat := by omega
  have e3 : (((a.toNat * 65536 + b.toNat * 256 + c.toNat : Nat) : Int) % 256).toNat = c.toNat := by omega
  simp only [List.map_cons, List.map_nil, e1, e2, e3]
  simp
theorem front_of (s : ByteArray) (h3 : ¬ s.size < 3) (h : len3 s + 3 ≤ s.size) : frontS (s.extract 3 (len3 s + 3)) = s.extract 0 (len3 s + 3) := by
  have hl := len3_eq s (by omega) (by omega) (by omega)
  have hsz : (s.extract 3 (len3 s + 3)).size = len3 s := by simp; omega
  unfold frontS
  rw [hsz, extract_split s (a := 0) (b := 3) (c := len3 s + 3) (by omega) (by omega)]
  congr 1
  apply bytes_ext
  rw [strOfNums_data, Lib.extract_data]
  unfold head3
  rw [hl, len3_of]
  have hlen : s.data.toList.length = s.size := (Lib.size_eq s).symm
  match hm : s.data.toList with
  | [] => rw [hm] at hlen; simp at hlen; omega
  | [a] => rw [hm] at hlen; simp at hlen; omega
  | [a, b] => rw [hm] at hlen; simp at hlen; omega
  | a :: b :: c :: r =>
    have e : ∀ i (h : i < s.size), s[i] = s.data.toList.getD i 0 := fun i h => by
      rw [List.getD_eq_getElem?_getD, List.getElem?_eq_getElem (by simpa using h)]; rfl
    rw [e 0 (by omega), e 1 (by omega), e 2 (by omega), hm]
    rfl
theorem pack_iff (s : ByteArray) (h3 : ¬ s.size < 3) (h : len3 s + 7 ≤ s.size) : packS (s.extract 3 (len3 s + 3)) = s.extract 0 (len3 s + 7) ↔ s.extract (len3 s + 3) (len3 s + 7) = footS (s.extract 0 (len3 s + 3)) := by
  unfold packS
  rw [front_of s h3 (by omega), extract_split s (a := 0) (b := len3 s + 3) (c := len3 s + 7) (by omega) (by omega)]
  constructor
  · intro he
    exact (append_inj_left he rfl).symm
  · intro he
    rw [he]
theorem unp_le (s : ByteArray) : (unp s).1.size ≤ s.size ∧ (unp s).2.1.size ≤ s.size := by
  unfold unp
  split
  · exact ⟨Nat.zero_le _, Nat.zero_le _⟩
  · split
    · exact ⟨Nat.zero_le _, Nat.zero_le _⟩
    · split
      · exact ⟨Nat.zero_le _, Nat.zero_le _⟩
      · split
        · exact ⟨Nat.zero_le _, Nat.zero_le _⟩
        · simp; omega
set_option maxHeartbeats 400000 in
theorem unpack_any (s : ByteArray) (hs : s.size ≤ 281474976710656) (w : World) :
    Calls Tryz.prog 40 #[.string s] w fun e w' => e = .returned (unpV (unp s)) ∧ Below w.heap.size w w' := by
  have hle := unp_le s
  have H := Lib.hid (cut_any s hs w)
  generalize unp s = x at *
  obtain ⟨a, b, e⟩ := x
  have l1 : a.size ≤ 281474976710656 := Nat.le_trans hle.1 hs
  have l2 : b.size ≤ 281474976710656 := Nat.le_trans hle.2 hs
  clear hle
  go_enter Tryz.func40, Tryz.ntmps40
  go_wp2_with fail
  refine H.out.mono ?_
  rintro e w1 ⟨rfl, b1⟩
  unfold unpV
  go_wp2_with fail
  refine (clone_any _ _ l1).mono ?_
  rintro e w2 ⟨rfl, b2⟩
  go_wp2_with fail
  refine (clone_any _ _ l2).mono ?_
  rintro e w3 ⟨rfl, b3⟩
  go_wp2_with fail
  go_ret3
  have s1 := b1.size
  have s2 := b2.size
  exact ⟨rfl, (b1.trans (b2.mono s1)).trans (b3.mono (by omega))⟩
end Go.Proofs.YthnnenhpcceckaaGreat.Ct
/-
  THE TEXT OF A VOTE, AND SaveVote, SaveSnap WHERE THERE IS NO DISK.
-/
namespace Go.Proofs.YthnnenhpcceckaaGreat
open Go.RowKit
def voteS (t f : Int) : ByteArray := Bt.numS t ++ Bt.intS f
theorem voteB_bd {t f : Int} (h : voteB t f = true) : 0 ≤ t ∧ t ≤ 549755813888 ∧ -1 ≤ f ∧ f < 7 := by
  unfold voteB idxB at h
  simp only [Bool.and_eq_true, decide_eq_true_eq] at h
  omega
set_option maxHeartbeats 1000000 in
theorem vote_no {t f : Int} (h : voteB t f = false) (w : World) : Calls Tryz.prog 55 #[voteV t f] w fun e w' => e = .returned (.tuple #[.string ⟨#[]⟩, .int .i64 1]) ∧ Below w.heap.size w w' := by
  have M := Lib.hid (fun W => voteMay_any t f W)
  rw [h] at M
  clear h
  unfold voteV at *
  go_enter Tryz.func55, Tryz.ntmps55
  go_wp2_with fail
  refine (M.out _).mono ?_
  rintro e w1 ⟨rfl, b1⟩
  have B1 := Lib.hid (((Below.refl _ w).alloc (Nat.le_refl _) (.cells #[.int .i64 t, .int .i64 f] 33)).trans (b1.mono (by simp)))
  clear b1
  go_wp2_with fail
  go_ret2
  exact ⟨rfl, B1.out⟩
set_option maxHeartbeats 2000000 in
theorem vote_ok {t f : Int} (h : voteB t f = true) (w : World) : Calls Tryz.prog 55 #[voteV t f] w fun e w' => e = .returned (.tuple #[.string (voteS t f), .int .i64 0]) ∧ Below w.heap.size w w' := by
  have M := Lib.hid (fun W => voteMay_any t f W)
  rw [h] at M
  obtain ⟨t0, t1, f0, f1⟩ := voteB_bd h
  have NA := Lib.hid (fun W => Bt.num_any t t0 (by omega) W)
  have NB := Lib.hid (fun W => Bt.int_any f (by omega) (by omega) W)
  have hA := Bt.numS_size t
  have hB : (Bt.intS f).size ≤ 9 := Bt.numS_size _
  unfold voteS
  generalize Bt.numS t = A at *
  generalize Bt.intS f = K at *
  clear h
  unfold voteV at *
  generalize hy : w.heap.size = Y at *
  go_enter Tryz.func55, Tryz.ntmps55
  go_wp2_with fail
  refine (M.out _).mono ?_
  rintro e w1 ⟨rfl, b1⟩
  have K0 : Blk (w.alloc (.cells #[.int .i64 t, .int .i64 f] 33)) Y 33 #[.int .i64 t, .int .i64 f] := by rw [← hy]; exact Blk.new w 33 _
  have K1 := Lib.hid (K0.below b1 (by simp [hy]))
  have B1 := Lib.hid (((Below.refl Y w).alloc (Nat.le_of_eq hy.symm) (.cells #[.int .i64 t, .int .i64 f] 33)).trans (b1.mono (by simp [hy])))
  clear b1 K0
  go_wp2_with fail
  have d0 : w1.cell? ⟨Y, 0, none⟩ = some (.int .i64 t) := K1.out.cell 0
  have d1 : w1.cell? ⟨Y, 1, none⟩ = some (.int .i64 f) := K1.out.cell 1
  have x0 := fun d os => cell_regrown d0 d os
  have x1 := fun d os => cell_regrown d1 d os
  have C1 := Lib.hid (fun d os => Calls.regrown_of (d := d) (os := os) (NA.out (Go.Sort.grow (redrawn w1 d) os)))
  have C2 := Lib.hid (fun d os => Calls.regrown_of (d := d) (os := os) (NB.out (Go.Sort.grow (redrawn w1 d) os)))
  have q1 : ¬ (9223372036854775807 < A.size + K.size) := by omega
  have u1 : IntKind.u64.wrap t = t := IntWalk.u64_in _ (by omega)
  refine wp_region_quiet_below Ct.mixed (by kernel_rfl) ?_
  repeat (quiet_step (first | (with_reducible exact C1.out _ _) | (with_reducible exact C2.out _ _)))
  refine wpQuiet_nil ?_
  intro _ hw'
  obtain ⟨⟨dq, osq⟩, hw''⟩ := hw'
  subst hw''
  have b3 := below_regrown w1 dq osq
  have B3h := Lib.hid (B1.out.trans (b3.mono (by have := B1.out.size; omega)))
  clear x0 x1 d0 d1 C1 C2 b3 u1 q1 NA NB
  generalize Go.Sort.grow (redrawn w1 dq) osq = w3 at *
  go_wp2_with fail
  go_ret2
  exact ⟨rfl, B3h.out⟩
end Go.Proofs.YthnnenhpcceckaaGreat
/-
  A VOTE TAKEN OFF A TAPE.
-/
namespace Go.Proofs.YthnnenhpcceckaaGreat
open Go.RowKit
def tv1 (s : ByteArray) : Nat × ByteArray × Int := Bt.tNum s 0
def tv2 (s : ByteArray) : Int × ByteArray × Int := Bt.tInt (tv1 s).2.1 (tv1 s).2.2
theorem tk_le {α : Type} (z : α) (s : ByteArray) (e : Int) (r : α × Nat × Int) : (Bt.tk z s e r).2.1.size ≤ s.size := by
  unfold Bt.tk
  split
  · exact Nat.le_refl _
  · split
    · exact Nat.le_refl _
    · simp only [ByteArray.size_extract]; omega
theorem tv1_le (s : ByteArray) : (tv1 s).2.1.size ≤ s.size := tk_le _ _ _ _
theorem tv2_le (s : ByteArray) : (tv2 s).2.1.size ≤ s.size := Nat.le_trans (tk_le _ _ _ _) (tv1_le s)
theorem Fr.grown {w w' : World} {b : Nat} (h : w.grownBy w' (some b)) : Fr w w' (fun q => q = b) := (Fr.of_grown h).mono fun q _ e => by injection e
theorem Bt.TapeAt.fr2 {w w' : World} {b : Nat} {s : ByteArray} {e : Int} {P : Nat → Prop} (h : Bt.TapeAt w b s e) (hf : Fr w w' P) (hP : ¬ P b) : Bt.TapeAt w' b s e := (hf.block b h.lt hP).trans h
set_option maxHeartbeats 2000000 in
theorem takeVote_any {w : World} {b : Nat} {s : ByteArray} (h : Bt.TapeAt w b s 0) (hs : s.size ≤ 281474976710656) :
    Calls Tryz.prog 42 #[.pointer (some ⟨b, 0, none⟩)] w fun r w' => r = .returned (voteV (wrap64 ((tv1 s).1 : Int)) (tv2 s).1) ∧ Fr w w' (fun q => q = b) ∧ Bt.TapeAt w' b (tv2 s).2.1 (tv2 s).2.2 := by
  have hlt := h.lt
  have l1 := tv1_le s
  have bA : Below w.heap.size w (w.alloc (.cells #[.int .i64 0, .int .i64 0] 33)) := (Below.refl _ w).alloc (Nat.le_refl _) _
  have hA := h.below bA hlt
  have N1 := Lib.hid (Bt.tapeNum_any hA hs)
  have I1 := Lib.hid (fun W (hW : Bt.TapeAt W b (tv1 s).2.1 (tv1 s).2.2) => Bt.tapeInt_any hW (by omega))
  rw [show Bt.tNum s 0 = tv1 s from rfl] at N1
  have FA := Lib.hid (Fr.of_below bA (fun q => q = b))
  have BK := Lib.hid (Blk.new w 33 #[.int .i64 0, .int .i64 0])
  unfold Bt.vNum at N1
  unfold Bt.vInt at I1
  unfold voteV
  rw [show Bt.tInt (tv1 s).2.1 (tv1 s).2.2 = tv2 s from rfl] at I1
  generalize tv2 s = y at *
  generalize tv1 s = x at *
  obtain ⟨xn, xs, xe⟩ := x
  obtain ⟨yn, ys, ye⟩ := y
  simp only at N1 I1 ⊢
  clear h hA bA l1
  generalize hy : w.heap.size = Y at *
  go_enter Tryz.func42, Tryz.ntmps42
  go_wp2_with fail
  refine N1.out.mono ?_
  rintro e w1 ⟨rfl, g1, t1⟩
  have F1 := Fr.grown g1
  have K1 := BK.out.fr F1 (by omega)
  have F1h := Lib.hid (FA.out.trans F1 (R := fun q => q = b) (fun _ _ h => h) (fun _ _ h => h))
  have K1h := Lib.hid K1
  have I2 := Lib.hid (I1.out _ t1)
  clear g1 F1 K1 t1 N1 I1 FA BK
  go_wp2_with fail
  refine I2.out.mono ?_
  rintro e w2 ⟨rfl, g2, t2⟩
  have F2 := Fr.grown g2
  have K2 := K1h.out.fr F2 (by omega)
  have F2h := Lib.hid (F1h.out.trans F2 (R := fun q => q = b) (fun _ _ h => h) (fun _ _ h => h))
  have t2h := Lib.hid t2
  have K2h := Lib.hid K2
  clear g2 F2 I2 t2 F1h K1h K2
  have c0 := K2h.out.cell 0
  have c1 := K2h.out.cell 1
  have f0 := K2h.out.free 0
  have f1 := K2h.out.free 1
  simp only [List.getElem?_toArray] at c0 c1
  go_wp2_with fail
  have K5 : Blk ((w2.setCell ⟨Y, 0, none⟩ (.int .i64 (wrap64 (xn : Int)))).setCell ⟨Y, 1, none⟩ (.int .i64 yn)) Y 33 #[.int .i64 (wrap64 (xn : Int)), .int .i64 yn] := (K2h.out.set 0 _).set 1 _
  have F5 := Lib.hid ((F2h.out.trans (fr_set w2 Y 0 (.int .i64 (wrap64 (xn : Int)))) (R := fun q => q = b) (fun _ _ h => h) (fun q hq h => by omega)).trans (fr_set _ Y 1 (.int .i64 yn)) (R := fun q => q = b) (fun _ _ h => h) (fun q hq h => by omega))
  have T5 := Lib.hid ((t2h.out.fr2 (fr_set w2 Y 0 (.int .i64 (wrap64 (xn : Int)))) (by omega)).fr2 (fr_set _ Y 1 (.int .i64 yn)) (by omega))
  clear F2h t2h K2h f0 f1 c0 c1
  generalize (w2.setCell ⟨Y, 0, none⟩ (.int .i64 (wrap64 (xn : Int)))).setCell ⟨Y, 1, none⟩ (.int .i64 yn) = w5 at *
  have z0 : w5.cell? ⟨Y, 0, none⟩ = some (.int .i64 (wrap64 (xn : Int))) := K5.cell 0
  have z1 : w5.cell? ⟨Y, 1, none⟩ = some (.int .i64 yn) := K5.cell 1
  refine bodyPost_ret (by simp [results, Tryz.results42, go_sem, z0, z1]; try rfl) rfl ?_
  exact ⟨rfl, F5.out, T5.out⟩
end Go.Proofs.YthnnenhpcceckaaGreat
/-
  A VOTE READ OF A TEXT: read, ReadVote.
-/
namespace Go.Proofs.YthnnenhpcceckaaGreat
open Go.RowKit
def rdE (s : ByteArray) : Int := Bt.endE (tv2 s).2.1 (tv2 s).2.2
def rdT (s : ByteArray) : Int := wrap64 ((tv1 s).1 : Int)
def rdF (s : ByteArray) : Int := (tv2 s).1
def rdV (s : ByteArray) : Int × Int × Int := if rdE s = 0 ∧ voteB (rdT s) (rdF s) = true then (rdT s, rdF s, 0) else (0, 0, 3)
theorem end_cells {wa w : World} {Y t : Nat} {x y : Value} (a b : Value) (K : Blk wa Y t #[x, y]) (B : Below Y w wa) : ((wa.setCell ⟨Y, 0, none⟩ a).setCell ⟨Y, 1, none⟩ b).cell? ⟨Y, 0, none⟩ = some a ∧ ((wa.setCell ⟨Y, 0, none⟩ a).setCell ⟨Y, 1, none⟩ b).cell? ⟨Y, 1, none⟩ = some b ∧ Below Y w ((wa.setCell ⟨Y, 0, none⟩ a).setCell ⟨Y, 1, none⟩ b) ∧ Blk ((wa.setCell ⟨Y, 0, none⟩ a).setCell ⟨Y, 1, none⟩ b) Y t #[a, b] := by
  have K5 : Blk ((wa.setCell ⟨Y, 0, none⟩ a).setCell ⟨Y, 1, none⟩ b) Y t #[a, b] := (K.set 0 a).set 1 b
  have hl := K.lt
  have F := (fr_set wa Y 0 a).trans (fr_set (wa.setCell ⟨Y, 0, none⟩ a) Y 1 b) (R := fun q => q = Y) (fun _ _ h => h) (fun _ _ h => h)
  exact ⟨K5.cell 0, K5.cell 1, B.trans (F.below (B := Y) (fun q hq => Nat.le_of_eq hq.symm) (Nat.le_of_lt hl)), K5⟩
set_option maxHeartbeats 4000000 in
theorem read_vote (s : ByteArray) (hs : s.size ≤ 281474976710656) (w : World) :
    Calls Tryz.prog 41 #[.string s, .func (.func 42) #[] #[], .func (.func 43) #[] #[]] w fun e w' => e = .returned (.tuple #[voteV (rdV s).1 (rdV s).2.1, .int .i64 (rdV s).2.2]) ∧ Below w.heap.size w w' := by
  have A := Lib.hid (fun W => Bt.at_any s W hs)
  have TK := Lib.hid (fun W b (h : Bt.TapeAt W b s 0) => takeVote_any h hs)
  have EN := Lib.hid (fun W b (h : Bt.TapeAt W b (tv2 s).2.1 (tv2 s).2.2) => Bt.end_any h)
  have MY := Lib.hid (fun W => voteMay_any (rdT s) (rdF s) W)
  rw [show Bt.endE (tv2 s).2.1 (tv2 s).2.2 = rdE s from rfl] at EN
  rw [show wrap64 ((tv1 s).1 : Int) = rdT s from rfl, show (tv2 s).1 = rdF s from rfl] at TK
  have R : ∃ a b c, rdV s = (a, b, c) ∧ ((rdE s ≠ 0 ∧ a = 0 ∧ b = 0 ∧ c = 3) ∨ (rdE s = 0 ∧ voteB (rdT s) (rdF s) = false ∧ a = 0 ∧ b = 0 ∧ c = 3) ∨ (rdE s = 0 ∧ voteB (rdT s) (rdF s) = true ∧ a = rdT s ∧ b = rdF s ∧ c = 0)) := by
    unfold rdV
    by_cases h1 : rdE s = 0
    · cases h2 : voteB (rdT s) (rdF s)
      · exact ⟨_, _, _, by rw [if_neg (by simp)], .inr (.inl ⟨h1, rfl, rfl, rfl, rfl⟩)⟩
      · exact ⟨_, _, _, by rw [if_pos ⟨h1, rfl⟩], .inr (.inr ⟨h1, rfl, rfl, rfl, rfl⟩)⟩
    · exact ⟨_, _, _, by rw [if_neg (fun h => h1 h.1)], .inl ⟨h1, rfl, rfl, rfl⟩⟩
  obtain ⟨ra, rb, rc, hR, R⟩ := R
  rw [hR]
  simp only
  clear hR
  generalize tv2 s = y at *
  generalize rdE s = E at *
  generalize rdT s = T at *
  generalize rdF s = F at *
  generalize hb : voteB T F = bb at *
  unfold voteV at *
  have K0 := Lib.hid (Blk.new w 33 #[.int .i64 0, .int .i64 0])
  have bA := Lib.hid ((Below.refl _ w).alloc (Nat.le_refl _) (.cells #[.int .i64 0, .int .i64 0] 33))
  generalize hy : w.heap.size = Y at *
  go_enter Tryz.func41, Tryz.ntmps41
  go_wp2_with fail
  refine (A.out _).mono ?_
  rintro e w1 ⟨b, rfl, hbY, t1, b1⟩
  have hbY' : Y < b := by have h := hbY; simp [hy] at h; omega
  have K1 := Lib.hid (K0.out.below b1 (by simp [hy]))
  have B1 := Lib.hid (bA.out.trans (b1.mono (by simp [hy])))
  have TK1 := Lib.hid (TK.out _ _ t1)
  clear t1 b1 K0 bA A TK hbY
  go_wp2_with fail
  refine TK1.out.mono ?_
  rintro e w2 ⟨rfl, f2, t2⟩
  have K2 := K1.out.fr f2 (by omega)
  have B2 := B1.out.trans (f2.below (B := Y) (fun q hq => by omega) (by have := B1.out.size; omega))
  have hY2 : Y < w2.heap.size := K2.lt
  have hb2 : b < w2.heap.size := t2.lt
  have bC := (Below.refl w2.heap.size w2).alloc (Nat.le_refl _) (.cells #[.int .i64 T, .int .i64 F] 33)
  have EN1 := Lib.hid (EN.out _ _ (t2.below bC hb2))
  have K2h := Lib.hid (K2.below bC hY2)
  have B2h := Lib.hid (B2.trans (bC.mono (by have := B2.size; omega)))
  have N2h := Lib.hid (Blk.new w2 33 #[.int .i64 T, .int .i64 F])
  clear f2 t2 TK1 K1 B1 K2 B2 bC EN
  go_wp2_with fail
  refine EN1.out.mono ?_
  rintro e w3' ⟨rfl, rfl⟩
  have hZ : Y < w2.heap.size := hY2
  have hs3 : w2.heap.size < (w2.alloc (.cells #[.int .i64 T, .int .i64 F] 33)).heap.size := N2h.out.lt
  generalize w2.alloc (.cells #[.int .i64 T, .int .i64 F] 33) = w3 at *
  generalize w2.heap.size = Z at *
  clear EN1 hY2 hb2
  rcases R with ⟨h1, rfl, rfl, rfl⟩ | ⟨rfl, rfl, rfl, rfl, rfl⟩ | ⟨rfl, rfl, rfl, rfl, rfl⟩
  · have hE : (E != 0) = true := by simpa using h1
    clear MY h1 N2h
    have bD := (Below.refl w3.heap.size w3).alloc (Nat.le_refl _) (.cells #[.int .i64 0, .int .i64 0] 33)
    have BD := Lib.hid (B2h.out.trans (bD.mono (by have := B2h.out.size; omega)))
    have KK := Lib.hid (K2h.out.below bD (by omega))
    have c0 : (w3.alloc (.cells #[.int .i64 0, .int .i64 0] 33)).cell? ⟨Y, 0, none⟩ = some (.int .i64 0) := KK.out.cell 0
    have c1 : (w3.alloc (.cells #[.int .i64 0, .int .i64 0] 33)).cell? ⟨Y, 1, none⟩ = some (.int .i64 0) := KK.out.cell 1
    have f0 : (w3.alloc (.cells #[.int .i64 0, .int .i64 0] 33)).frozen? ⟨Y, 0, none⟩ = false := KK.out.free 0
    have f1 : (w3.alloc (.cells #[.int .i64 0, .int .i64 0] 33)).frozen? ⟨Y, 1, none⟩ = false := KK.out.free 1
    clear bD
    go_wp2_with fail
    obtain ⟨z0, z1, B5, _⟩ := end_cells (.int .i64 0) (.int .i64 0) KK.out BD.out
    clear c0 c1 f0 f1
    generalize (World.setCell (World.setCell (w3.alloc (.cells #[.int .i64 0, .int .i64 0] 33)) ⟨Y, 0, none⟩ (.int .i64 0)) ⟨Y, 1, none⟩ (.int .i64 0)) = w9 at *
    refine bodyPost_ret (by simp [results, Tryz.results41, go_sem, z0, z1]; try rfl) rfl ?_
    exact ⟨rfl, B5⟩
  · have e0 : w3.cell? ⟨Z, 0, none⟩ = some (.int .i64 T) := N2h.out.cell 0
    have e1 : w3.cell? ⟨Z, 1, none⟩ = some (.int .i64 F) := N2h.out.cell 1
    go_wp2_with fail
    refine (MY.out _).mono ?_
    rintro e w4 ⟨rfl, b4⟩
    have K4 := Lib.hid (K2h.out.below b4 (by omega))
    have B4 := Lib.hid (B2h.out.trans (b4.mono (by have := B2h.out.size; omega)))
    clear b4 MY N2h K2h B2h e0 e1
    have bD := (Below.refl w4.heap.size w4).alloc (Nat.le_refl _) (.cells #[.int .i64 0, .int .i64 0] 33)
    have BD := Lib.hid (B4.out.trans (bD.mono (by have := B4.out.size; omega)))
    have KK := Lib.hid (K4.out.below bD K4.out.lt)
    have c0 : (w4.alloc (.cells #[.int .i64 0, .int .i64 0] 33)).cell? ⟨Y, 0, none⟩ = some (.int .i64 0) := KK.out.cell 0
    have c1 : (w4.alloc (.cells #[.int .i64 0, .int .i64 0] 33)).cell? ⟨Y, 1, none⟩ = some (.int .i64 0) := KK.out.cell 1
    have f0 : (w4.alloc (.cells #[.int .i64 0, .int .i64 0] 33)).frozen? ⟨Y, 0, none⟩ = false := KK.out.free 0
    have f1 : (w4.alloc (.cells #[.int .i64 0, .int .i64 0] 33)).frozen? ⟨Y, 1, none⟩ = false := KK.out.free 1
    clear bD
    go_wp2_with fail
    obtain ⟨z0, z1, B5, _⟩ := end_cells (.int .i64 0) (.int .i64 0) KK.out BD.out
    clear c0 c1 f0 f1
    generalize (World.setCell (World.setCell (w4.alloc (.cells #[.int .i64 0, .int .i64 0] 33)) ⟨Y, 0, none⟩ (.int .i64 0)) ⟨Y, 1, none⟩ (.int .i64 0)) = w9 at *
    refine bodyPost_ret (by simp [results, Tryz.results41, go_sem, z0, z1]; try rfl) rfl ?_
    exact ⟨rfl, B5⟩
  · have e0 : w3.cell? ⟨Z, 0, none⟩ = some (.int .i64 ra) := N2h.out.cell 0
    have e1 : w3.cell? ⟨Z, 1, none⟩ = some (.int .i64 rb) := N2h.out.cell 1
    go_wp2_with fail
    refine (MY.out _).mono ?_
    rintro e w4 ⟨rfl, b4⟩
    have K4 := Lib.hid (K2h.out.below b4 (by omega))
    have N4 := Lib.hid (N2h.out.below b4 hs3)
    have B4 := Lib.hid (B2h.out.trans (b4.mono (by have := B2h.out.size; omega)))
    clear b4 MY N2h K2h B2h e0 e1
    have e0 : w4.cell? ⟨Z, 0, none⟩ = some (.int .i64 ra) := N4.out.cell 0
    have e1 : w4.cell? ⟨Z, 1, none⟩ = some (.int .i64 rb) := N4.out.cell 1
    have KK := Lib.hid (K4.out)
    have c0 : w4.cell? ⟨Y, 0, none⟩ = some (.int .i64 0) := KK.out.cell 0
    have c1 : w4.cell? ⟨Y, 1, none⟩ = some (.int .i64 0) := KK.out.cell 1
    have f0 : w4.frozen? ⟨Y, 0, none⟩ = false := KK.out.free 0
    have f1 : w4.frozen? ⟨Y, 1, none⟩ = false := KK.out.free 1
    go_wp2_with fail
    obtain ⟨z0, z1, B5, _⟩ := end_cells (.int .i64 ra) (.int .i64 rb) KK.out B4.out
    clear c0 c1 f0 f1 e0 e1
    generalize (World.setCell (World.setCell w4 ⟨Y, 0, none⟩ (.int .i64 ra)) ⟨Y, 1, none⟩ (.int .i64 rb)) = w9 at *
    refine bodyPost_ret (by simp [results, Tryz.results41, go_sem, z0, z1]; try rfl) rfl ?_
    exact ⟨rfl, B5⟩
end Go.Proofs.YthnnenhpcceckaaGreat
/-
  A VOTE LOADED OFF A DISK: ReadVote, load.
-/
namespace Go.Proofs.YthnnenhpcceckaaGreat
open Go.RowKit
set_option maxHeartbeats 2000000 in
theorem readVote_any (s : ByteArray) (hs : s.size ≤ 281474976710656) (w : World) :
    Calls Tryz.prog 24 #[.string s] w fun e w' => e = .returned (.tuple #[voteV (rdV s).1 (rdV s).2.1, .int .i64 (rdV s).2.2]) ∧ Below w.heap.size w w' := by
  have RD := Lib.hid (fun W => read_vote s hs W)
  generalize rdV s = r at *
  obtain ⟨ra, rb, rc⟩ := r
  simp only at RD ⊢
  unfold voteV at *
  have K0 := Lib.hid (Blk.new w 33 #[.int .i64 0, .int .i64 0])
  have bA := Lib.hid ((Below.refl _ w).alloc (Nat.le_refl _) (.cells #[.int .i64 0, .int .i64 0] 33))
  generalize hy : w.heap.size = Y at *
  go_enter Tryz.func24, Tryz.ntmps24
  go_wp2_with fail
  refine (RD.out _).mono ?_
  rintro e w1 ⟨rfl, b1⟩
  have KK := Lib.hid (K0.out.below b1 (by simp [hy]))
  have B1 := Lib.hid (bA.out.trans (b1.mono (by simp [hy])))
  clear b1 K0 bA RD
  have c0 : w1.cell? ⟨Y, 0, none⟩ = some (.int .i64 0) := KK.out.cell 0
  have c1 : w1.cell? ⟨Y, 1, none⟩ = some (.int .i64 0) := KK.out.cell 1
  have f0 : w1.frozen? ⟨Y, 0, none⟩ = false := KK.out.free 0
  have f1 : w1.frozen? ⟨Y, 1, none⟩ = false := KK.out.free 1
  go_wp2_with fail
  obtain ⟨z0, z1, B5, _⟩ := end_cells (.int .i64 ra) (.int .i64 rb) KK.out B1.out
  clear c0 c1 f0 f1
  generalize (World.setCell (World.setCell w1 ⟨Y, 0, none⟩ (.int .i64 ra)) ⟨Y, 1, none⟩ (.int .i64 rb)) = w9 at *
  refine bodyPost_ret (by simp [results, Tryz.results24, go_sem, z0, z1]; try rfl) rfl ?_
  exact ⟨rfl, B5⟩
set_option maxHeartbeats 4000000 in
/-- where there is no file to read, or the disk tells nothing -/
theorem load_err {p : Option Addr} {nm x : ByteArray} {n : Int} {w : World} (hR : ∀ W, Below w.heap.size w W → Calls Tryz.prog 22 #[.pointer p, .string nm] W fun e w' => e = .returned (.tuple #[.string x, .int .i64 n]) ∧ W = w') (hn : n ≠ 0) :
    Calls Tryz.prog 23 #[.pointer p, .string nm, .func (.func 24) #[] #[]] w fun e w' => e = .returned (.tuple #[voteV 0 0, .bool false, .int .i64 (if n = 4 then 0 else n)]) ∧ Below w.heap.size w w' := by
  have RD := Lib.hid hR
  clear hR
  unfold voteV at *
  have K0 := Lib.hid (Blk.new w 33 #[.int .i64 0, .int .i64 0])
  have bA := Lib.hid ((Below.refl _ w).alloc (Nat.le_refl _) (.cells #[.int .i64 0, .int .i64 0] 33))
  have RE := Lib.hid (RD.out _ bA.out)
  have h0 : (n != 0) = true := by simpa using hn
  clear RD hn
  generalize hy : w.heap.size = Y at *
  by_cases h4 : n = 4
  · subst h4
    rw [if_pos rfl]
    go_enter Tryz.func23, Tryz.ntmps23
    go_wp2_with fail
    refine RE.out.mono ?_
    rintro e w1 ⟨rfl, rfl⟩
    go_wp2_with fail
    have z0 : (w.alloc (.cells #[.int .i64 0, .int .i64 0] 33)).cell? ⟨Y, 0, none⟩ = some (.int .i64 0) := K0.out.cell 0
    have z1 : (w.alloc (.cells #[.int .i64 0, .int .i64 0] 33)).cell? ⟨Y, 1, none⟩ = some (.int .i64 0) := K0.out.cell 1
    clear RE K0
    generalize w.alloc (.cells #[.int .i64 0, .int .i64 0] 33) = w9 at *
    refine bodyPost_ret (by simp [results, Tryz.results23, go_sem, z0, z1]; try rfl) rfl ?_
    exact ⟨rfl, bA.out⟩
  · have h4' : (n == 4) = false := by simpa using h4
    rw [if_neg h4]
    go_enter Tryz.func23, Tryz.ntmps23
    go_wp2_with fail
    refine RE.out.mono ?_
    rintro e w1 ⟨rfl, rfl⟩
    go_wp2_with fail
    have z0 : (w.alloc (.cells #[.int .i64 0, .int .i64 0] 33)).cell? ⟨Y, 0, none⟩ = some (.int .i64 0) := K0.out.cell 0
    have z1 : (w.alloc (.cells #[.int .i64 0, .int .i64 0] 33)).cell? ⟨Y, 1, none⟩ = some (.int .i64 0) := K0.out.cell 1
    clear RE K0
    generalize w.alloc (.cells #[.int .i64 0, .int .i64 0] 33) = w9 at *
    refine bodyPost_ret (by simp [results, Tryz.results23, go_sem, z0, z1]; try rfl) rfl ?_
    exact ⟨rfl, bA.out⟩
set_option maxHeartbeats 4000000 in
/-- where a file says a vote -/
theorem load_ok {p : Option Addr} {nm x b : ByteArray} {t f : Int} {w : World} (hR : ∀ W, Below w.heap.size w W → Calls Tryz.prog 22 #[.pointer p, .string nm] W fun e w' => e = .returned (.tuple #[.string x, .int .i64 0]) ∧ W = w') (hx : x.size ≤ 281474976710656) (hb : b.size ≤ 281474976710656) (hu : Ct.unp x = (b, ⟨#[]⟩, 0)) (hr : rdV b = (t, f, 0)) :
    Calls Tryz.prog 23 #[.pointer p, .string nm, .func (.func 24) #[] #[]] w fun e w' => e = .returned (.tuple #[voteV t f, .bool true, .int .i64 0]) ∧ Below w.heap.size w w' := by
  have RD := Lib.hid hR
  have UN := Lib.hid (fun W => Ct.unpack_any x hx W)
  have RV := Lib.hid (fun W => readVote_any b hb W)
  rw [hu] at UN
  rw [hr] at RV
  simp only [Ct.unpV] at UN RV
  clear hR hu hr
  unfold voteV at *
  have K0 := Lib.hid (Blk.new w 33 #[.int .i64 0, .int .i64 0])
  have bA := Lib.hid ((Below.refl _ w).alloc (Nat.le_refl _) (.cells #[.int .i64 0, .int .i64 0] 33))
  have RE := Lib.hid (RD.out _ bA.out)
  clear RD
  generalize hy : w.heap.size = Y at *
  go_enter Tryz.func23, Tryz.ntmps23
  go_wp2_with fail
  refine RE.out.mono ?_
  rintro e w1 ⟨rfl, rfl⟩
  go_wp2_with fail
  refine (UN.out _).mono ?_
  rintro e w2 ⟨rfl, b2⟩
  have K2 := Lib.hid (K0.out.below b2 (by simp [hy]))
  have B2 := Lib.hid (bA.out.trans (b2.mono (by simp [hy])))
  clear b2 K0 bA RE UN
  go_wp2_with fail
  refine (RV.out _).mono ?_
  rintro e w3 ⟨rfl, b3⟩
  have KK := Lib.hid (K2.out.below b3 K2.out.lt)
  have B3 := Lib.hid (B2.out.trans (b3.mono (by have := B2.out.size; omega)))
  clear b3 K2 B2 RV
  have c0 : w3.cell? ⟨Y, 0, none⟩ = some (.int .i64 0) := KK.out.cell 0
  have c1 : w3.cell? ⟨Y, 1, none⟩ = some (.int .i64 0) := KK.out.cell 1
  have f0 : w3.frozen? ⟨Y, 0, none⟩ = false := KK.out.free 0
  have f1 : w3.frozen? ⟨Y, 1, none⟩ = false := KK.out.free 1
  go_wp2_with fail
  obtain ⟨_, _, B5, K5⟩ := end_cells (.int .i64 t) (.int .i64 f) KK.out B3.out
  clear c0 c1 f0 f1 KK B3
  generalize (World.setCell (World.setCell w3 ⟨Y, 0, none⟩ (.int .i64 t)) ⟨Y, 1, none⟩ (.int .i64 f)) = w8 at *
  obtain ⟨z0, z1, B6, _⟩ := end_cells (.int .i64 t) (.int .i64 f) K5 B5
  clear B5 K5
  generalize (World.setCell (World.setCell w8 ⟨Y, 0, none⟩ (.int .i64 t)) ⟨Y, 1, none⟩ (.int .i64 f)) = w9 at *
  refine bodyPost_ret (by simp [results, Tryz.results23, go_sem, z0, z1]; try rfl) rfl ?_
  exact ⟨rfl, B6⟩
end Go.Proofs.YthnnenhpcceckaaGreat
/-
  LoadVote; a snapshot where there is none.
-/
namespace Go.Proofs.YthnnenhpcceckaaGreat
open Go.RowKit
set_option maxHeartbeats 4000000 in
/-- what load tells, LoadVote tells; where there is none, a vote for nobody -/
theorem loadVote_of {p : Option Addr} {t f n : Int} {b : Bool} {w : World} (hL : ∀ W, Below w.heap.size w W → Calls Tryz.prog 23 #[.pointer p, .string ⟨#[118, 111, 116, 101]⟩, .func (.func 24) #[] #[]] W fun e w' => e = .returned (.tuple #[voteV t f, .bool b, .int .i64 n]) ∧ Below W.heap.size W w') :
    Calls Tryz.prog 9 #[.pointer p] w fun e w' => e = .returned (.tuple #[voteV t (if n = 0 ∧ b = false then -1 else f), .int .i64 n]) ∧ Below w.heap.size w w' := by
  have RD := Lib.hid hL
  clear hL
  obtain ⟨r, hr, R⟩ : ∃ r, (if n = 0 ∧ b = false then -1 else f) = r ∧ ((n = 0 ∧ b = false ∧ r = -1) ∨ ((n == 0) = false ∧ r = f) ∨ ((n == 0) = true ∧ b = true ∧ r = f)) := by
    by_cases h0 : n = 0
    · cases b
      · exact ⟨_, by rw [if_pos ⟨h0, rfl⟩], .inl ⟨h0, rfl, rfl⟩⟩
      · exact ⟨_, by rw [if_neg (by simp)], .inr (.inr ⟨by simpa using h0, rfl, rfl⟩)⟩
    · exact ⟨_, by rw [if_neg (fun h => h0 h.1)], .inr (.inl ⟨by simpa using h0, rfl⟩)⟩
  rw [hr]
  clear hr
  unfold voteV at *
  have K0 := Lib.hid (Blk.new w 33 #[.int .i64 0, .int .i64 0])
  have bA := Lib.hid ((Below.refl _ w).alloc (Nat.le_refl _) (.cells #[.int .i64 0, .int .i64 0] 33))
  have RE := Lib.hid (RD.out _ bA.out)
  clear RD
  generalize hy : w.heap.size = Y at *
  go_enter Tryz.func9, Tryz.ntmps9
  go_wp2_with fail
  refine RE.out.mono ?_
  rintro e w1 ⟨rfl, b1⟩
  have K1 := K0.out.below b1 (by simp [hy])
  have B1 := bA.out.trans (b1.mono (by simp [hy]))
  have K2 := Lib.hid K1
  have B2 := Lib.hid B1
  have hz : Y < w1.heap.size := K1.lt
  clear b1 K1 B1 K0 bA RE
  have c0 : w1.cell? ⟨Y, 0, none⟩ = some (.int .i64 0) := K2.out.cell 0
  have c1 : w1.cell? ⟨Y, 1, none⟩ = some (.int .i64 0) := K2.out.cell 1
  have f0 : w1.frozen? ⟨Y, 0, none⟩ = false := K2.out.free 0
  have f1 : w1.frozen? ⟨Y, 1, none⟩ = false := K2.out.free 1
  rcases R with ⟨rfl, rfl, rfl⟩ | ⟨h0, rfl⟩ | ⟨h0, rfl, rfl⟩
  · go_wp2_with fail
    obtain ⟨_, _, B5, K5⟩ := end_cells (.int .i64 t) (.int .i64 (-1)) K2.out B2.out
    clear c0 c1 f0 f1 K2 B2
    generalize (World.setCell (World.setCell w1 ⟨Y, 0, none⟩ (.int .i64 t)) ⟨Y, 1, none⟩ (.int .i64 (-1))) = w8 at *
    have bD := (Below.refl w8.heap.size w8).alloc (Nat.le_refl _) (.cells #[.int .i64 t, .int .i64 (-1)] 33)
    have K6 := K5.below bD K5.lt
    have B6 := B5.trans (bD.mono (Nat.le_of_lt K5.lt))
    generalize w8.alloc (.cells #[.int .i64 t, .int .i64 (-1)] 33) = w9 at *
    have z0 : w9.cell? ⟨Y, 0, none⟩ = some (.int .i64 t) := K6.cell 0
    have z1 : w9.cell? ⟨Y, 1, none⟩ = some (.int .i64 (-1)) := K6.cell 1
    refine bodyPost_ret (by simp [results, Tryz.results9, go_sem, z0, z1]; try rfl) rfl ?_
    exact ⟨rfl, B6⟩
  · go_wp2_with fail
    obtain ⟨_, _, B5, K5⟩ := end_cells (.int .i64 t) (.int .i64 r) K2.out B2.out
    clear c0 c1 f0 f1 K2 B2
    generalize (World.setCell (World.setCell w1 ⟨Y, 0, none⟩ (.int .i64 t)) ⟨Y, 1, none⟩ (.int .i64 r)) = w8 at *
    have bD := (Below.refl w8.heap.size w8).alloc (Nat.le_refl _) (.cells #[.int .i64 t, .int .i64 r] 33)
    have K6 := K5.below bD K5.lt
    have B6 := B5.trans (bD.mono (Nat.le_of_lt K5.lt))
    generalize w8.alloc (.cells #[.int .i64 t, .int .i64 r] 33) = w9 at *
    have z0 : w9.cell? ⟨Y, 0, none⟩ = some (.int .i64 t) := K6.cell 0
    have z1 : w9.cell? ⟨Y, 1, none⟩ = some (.int .i64 r) := K6.cell 1
    refine bodyPost_ret (by simp [results, Tryz.results9, go_sem, z0, z1]; try rfl) rfl ?_
    exact ⟨rfl, B6⟩
  · go_wp2_with fail
    obtain ⟨_, _, B5, K5⟩ := end_cells (.int .i64 t) (.int .i64 r) K2.out B2.out
    clear c0 c1 f0 f1 K2 B2
    generalize (World.setCell (World.setCell w1 ⟨Y, 0, none⟩ (.int .i64 t)) ⟨Y, 1, none⟩ (.int .i64 r)) = w8 at *
    have bD := (Below.refl w8.heap.size w8).alloc (Nat.le_refl _) (.cells #[.int .i64 t, .int .i64 r] 33)
    have K6 := K5.below bD K5.lt
    have B6 := B5.trans (bD.mono (Nat.le_of_lt K5.lt))
    generalize w8.alloc (.cells #[.int .i64 t, .int .i64 r] 33) = w9 at *
    have z0 : w9.cell? ⟨Y, 0, none⟩ = some (.int .i64 t) := K6.cell 0
    have z1 : w9.cell? ⟨Y, 1, none⟩ = some (.int .i64 r) := K6.cell 1
    refine bodyPost_ret (by simp [results, Tryz.results9, go_sem, z0, z1]; try rfl) rfl ?_
    exact ⟨rfl, B6⟩
end Go.Proofs.YthnnenhpcceckaaGreat
/-
  LoadSnap WHERE THERE IS NONE, or the disk tells nothing.
-/
namespace Go.Proofs.YthnnenhpcceckaaGreat
open Go.RowKit
set_option maxHeartbeats 4000000 in
theorem loadS_err {p : Option Addr} {nm x : ByteArray} {n : Int} {w : World} (hR : ∀ W, Below w.heap.size w W → Calls Tryz.prog 22 #[.pointer p, .string nm] W fun e w' => e = .returned (.tuple #[.string x, .int .i64 n]) ∧ W = w') (hn : n ≠ 0) :
    Calls Tryz.prog 28 #[.pointer p, .string nm, .func (.func 29) #[] #[]] w fun e w' => e = .returned (.tuple #[snapV 0 0 0 ⟨#[]⟩, .bool false, .int .i64 (if n = 4 then 0 else n)]) ∧ Below w.heap.size w w' := by
  have RD := Lib.hid hR
  clear hR
  unfold snapV at *
  have K0 := Lib.hid (Blk.new w 40 #[.int .i64 0, .int .i64 0, .int .i64 0, .string ⟨#[]⟩])
  have bA := Lib.hid ((Below.refl _ w).alloc (Nat.le_refl _) (.cells #[.int .i64 0, .int .i64 0, .int .i64 0, .string ⟨#[]⟩] 40))
  have RE := Lib.hid (RD.out _ bA.out)
  have h0 : (n != 0) = true := by simpa using hn
  clear RD hn
  generalize hy : w.heap.size = Y at *
  by_cases h4 : n = 4
  · subst h4
    rw [if_pos rfl]
    go_enter Tryz.func28, Tryz.ntmps28
    go_wp2_with fail
    refine RE.out.mono ?_
    rintro e w1 ⟨rfl, rfl⟩
    go_wp2_with fail
    have z0 : (w.alloc (.cells #[.int .i64 0, .int .i64 0, .int .i64 0, .string ⟨#[]⟩] 40)).cell? ⟨Y, 0, none⟩ = some (.int .i64 0) := K0.out.cell 0
    have z1 : (w.alloc (.cells #[.int .i64 0, .int .i64 0, .int .i64 0, .string ⟨#[]⟩] 40)).cell? ⟨Y, 1, none⟩ = some (.int .i64 0) := K0.out.cell 1
    have z2 : (w.alloc (.cells #[.int .i64 0, .int .i64 0, .int .i64 0, .string ⟨#[]⟩] 40)).cell? ⟨Y, 2, none⟩ = some (.int .i64 0) := K0.out.cell 2
    have z3 : (w.alloc (.cells #[.int .i64 0, .int .i64 0, .int .i64 0, .string ⟨#[]⟩] 40)).cell? ⟨Y, 3, none⟩ = some (.string ⟨#[]⟩) := K0.out.cell 3
    clear RE K0
    generalize w.alloc (.cells #[.int .i64 0, .int .i64 0, .int .i64 0, .string ⟨#[]⟩] 40) = w9 at *
    refine bodyPost_ret (by simp [results, Tryz.results28, go_sem, z0, z1, z2, z3]; try rfl) rfl ?_
    exact ⟨rfl, bA.out⟩
  · have h4' : (n == 4) = false := by simpa using h4
    rw [if_neg h4]
    go_enter Tryz.func28, Tryz.ntmps28
    go_wp2_with fail
    refine RE.out.mono ?_
    rintro e w1 ⟨rfl, rfl⟩
    go_wp2_with fail
    have z0 : (w.alloc (.cells #[.int .i64 0, .int .i64 0, .int .i64 0, .string ⟨#[]⟩] 40)).cell? ⟨Y, 0, none⟩ = some (.int .i64 0) := K0.out.cell 0
    have z1 : (w.alloc (.cells #[.int .i64 0, .int .i64 0, .int .i64 0, .string ⟨#[]⟩] 40)).cell? ⟨Y, 1, none⟩ = some (.int .i64 0) := K0.out.cell 1
    have z2 : (w.alloc (.cells #[.int .i64 0, .int .i64 0, .int .i64 0, .string ⟨#[]⟩] 40)).cell? ⟨Y, 2, none⟩ = some (.int .i64 0) := K0.out.cell 2
    have z3 : (w.alloc (.cells #[.int .i64 0, .int .i64 0, .int .i64 0, .string ⟨#[]⟩] 40)).cell? ⟨Y, 3, none⟩ = some (.string ⟨#[]⟩) := K0.out.cell 3
    clear RE K0
    generalize w.alloc (.cells #[.int .i64 0, .int .i64 0, .int .i64 0, .string ⟨#[]⟩] 40) = w9 at *
    refine bodyPost_ret (by simp [results, Tryz.results28, go_sem, z0, z1, z2, z3]; try rfl) rfl ?_
    exact ⟨rfl, bA.out⟩
set_option maxHeartbeats 4000000 in
theorem loadSnap_of {p : Option Addr} {n : Int} {w : World} (hL : ∀ W, Below w.heap.size w W → Calls Tryz.prog 28 #[.pointer p, .string ⟨#[115, 110, 97, 112]⟩, .func (.func 29) #[] #[]] W fun e w' => e = .returned (.tuple #[snapV 0 0 0 ⟨#[]⟩, .bool false, .int .i64 n]) ∧ Below W.heap.size W w') :
    Calls Tryz.prog 11 #[.pointer p] w fun e w' => e = .returned (.tuple #[snapV 0 0 0 ⟨#[]⟩, .bool false, .int .i64 n]) ∧ Below w.heap.size w w' := by
  have RD := Lib.hid hL
  clear hL
  unfold snapV at *
  have K0 := Lib.hid (Blk.new w 40 #[.int .i64 0, .int .i64 0, .int .i64 0, .string ⟨#[]⟩])
  have bA := Lib.hid ((Below.refl _ w).alloc (Nat.le_refl _) (.cells #[.int .i64 0, .int .i64 0, .int .i64 0, .string ⟨#[]⟩] 40))
  have RE := Lib.hid (RD.out _ bA.out)
  clear RD
  generalize hy : w.heap.size = Y at *
  go_enter Tryz.func11, Tryz.ntmps11
  go_wp2_with fail
  refine RE.out.mono ?_
  rintro e w1 ⟨rfl, b1⟩
  have K1 := K0.out.below b1 (by simp [hy])
  have B1 := bA.out.trans (b1.mono (by simp [hy]))
  clear b1 K0 bA RE
  have c0 : w1.cell? ⟨Y, 0, none⟩ = some (.int .i64 0) := K1.cell 0
  have c1 : w1.cell? ⟨Y, 1, none⟩ = some (.int .i64 0) := K1.cell 1
  have c2 : w1.cell? ⟨Y, 2, none⟩ = some (.int .i64 0) := K1.cell 2
  have c3 : w1.cell? ⟨Y, 3, none⟩ = some (.string ⟨#[]⟩) := K1.cell 3
  have f0 : w1.frozen? ⟨Y, 0, none⟩ = false := K1.free 0
  have f1 : w1.frozen? ⟨Y, 1, none⟩ = false := K1.free 1
  have f2 : w1.frozen? ⟨Y, 2, none⟩ = false := K1.free 2
  have f3 : w1.frozen? ⟨Y, 3, none⟩ = false := K1.free 3
  have KH := Lib.hid K1
  have BH := Lib.hid B1
  clear K1 B1
  go_wp2_with fail
  have K5 : Blk ((((w1.setCell ⟨Y, 0, none⟩ (.int .i64 0)).setCell ⟨Y, 1, none⟩ (.int .i64 0)).setCell ⟨Y, 2, none⟩ (.int .i64 0)).setCell ⟨Y, 3, none⟩ (.string ⟨#[]⟩)) Y 40 #[.int .i64 0, .int .i64 0, .int .i64 0, .string ⟨#[]⟩] := (((KH.out.set 0 _).set 1 _).set 2 _).set 3 _
  have hl := KH.out.lt
  have F5 := (((fr_set w1 Y 0 (.int .i64 0)).trans (fr_set _ Y 1 (.int .i64 0)) (R := fun q => q = Y) (fun _ _ h => h) (fun _ _ h => h)).trans (fr_set _ Y 2 (.int .i64 0)) (R := fun q => q = Y) (fun _ _ h => h) (fun _ _ h => h)).trans (fr_set _ Y 3 (.string ⟨#[]⟩)) (R := fun q => q = Y) (fun _ _ h => h) (fun _ _ h => h)
  have B5 := BH.out.trans (F5.below (B := Y) (fun q hq => Nat.le_of_eq hq.symm) (Nat.le_of_lt hl))
  clear c0 c1 c2 c3 f0 f1 f2 f3 KH BH F5 hl
  generalize (((w1.setCell ⟨Y, 0, none⟩ (.int .i64 0)).setCell ⟨Y, 1, none⟩ (.int .i64 0)).setCell ⟨Y, 2, none⟩ (.int .i64 0)).setCell ⟨Y, 3, none⟩ (.string ⟨#[]⟩) = w9 at *
  have z0 : w9.cell? ⟨Y, 0, none⟩ = some (.int .i64 0) := K5.cell 0
  have z1 : w9.cell? ⟨Y, 1, none⟩ = some (.int .i64 0) := K5.cell 1
  have z2 : w9.cell? ⟨Y, 2, none⟩ = some (.int .i64 0) := K5.cell 2
  have z3 : w9.cell? ⟨Y, 3, none⟩ = some (.string ⟨#[]⟩) := K5.cell 3
  refine bodyPost_ret (by simp [results, Tryz.results11, go_sem, z0, z1, z2, z3]; try rfl) rfl ?_
  exact ⟨rfl, B5⟩
end Go.Proofs.YthnnenhpcceckaaGreat
/-
  A FIRST VOTE SAVED ON A NEW DISK: save, SaveVote.
-/
namespace Go.Proofs.YthnnenhpcceckaaGreat
open Go.RowKit
def nV : Nm := ⟨#[118, 111, 116, 101]⟩
def nN : Nm := nV ++ ⟨#[46, 110, 101, 119]⟩
def bV : ByteArray := ⟨#[3, 2]⟩
def pV : ByteArray := Ct.packS bV
theorem nameV : nameB nV = true := by decide +kernel
theorem nameN : nameB nN = true := by decide +kernel
def aw1 : St := { st0 with row := st0.row ++ [.put nN 0 pV], now := (Chg.put nN 0 pV).doF st0.now, calls := st0.calls + 1 }
def aw2 : St := { aw1 with row := aw1.row ++ [.move nN nV], now := (Chg.move nN nV).doF aw1.now, calls := aw1.calls + 1 }
def aw3 : St := { aw2 with sure := doAll aw2.sure aw2.row, row := [], calls := aw2.calls + 1 }
theorem pV_size : pV.size = 9 := by unfold pV; rw [Ct.pack_size]; rfl
theorem vV : voteS 3 1 = bV := by decide +kernel
theorem unpV' : Ct.unp pV = (bV, ⟨#[]⟩, 0) := by decide +kernel
theorem rdV' : rdV bV = (3, 1, 0) := by decide +kernel
theorem e0 : findE st0 nN = 4 := by decide +kernel
theorem e1 : moveE aw1 nN nV = 0 := by decide +kernel
theorem mayM : (Chg.move nN nV).may aw1.now := ⟨by decide, by decide⟩
set_option maxHeartbeats 4000000 in
theorem save_aw {w : World} {B D : Nat} (d : Dsk w B D 0 st0) (hB : B ≤ w.heap.size) : Calls Tryz.prog 56 #[.pointer (some ⟨D, 0, none⟩), .string nV, .string bV] w fun e w' => e = .returned (.int .i64 0) ∧ Dsk w' B D 18 aw3 ∧ Ok aw3 ∧ Below B w w' := by
  have PK := Lib.hid (fun W => Ct.pack_any bV (by decide) W)
  rw [show Ct.packS bV = pV from rfl] at PK
  have DR := Lib.hid (fun W (h : Dsk W B D 0 st0) => dropn nN h (by decide) (by rw [e0]; decide))
  rw [e0] at DR
  have hp := pV_size
  have PT := Lib.hid (fun W (h : Dsk W B D 0 st0) => putd (n := 0) nN pV h ok0 (by decide) rfl rfl (by decide) nameN (Nat.zero_le _) (by omega))
  have MV := Lib.hid (fun W (h : Dsk W B D 5 aw1) (k : Ok aw1) => moved nN nV h k (by decide) rfl rfl nameN nameV e1 mayM)
  have SY := Lib.hid (fun W (h : Dsk W B D 12 aw2) (k : Ok aw2) => syncd h k (by decide) rfl rfl)
  have d0 := Lib.hid d
  clear d hp
  have sz0 : ¬ (9223372036854775807 < nV.size + 4) := by decide
  rw [show nN = nV ++ ⟨#[46, 110, 101, 119]⟩ from rfl] at DR MV
  have PT2 : Hid (∀ W, Dsk W B D 0 st0 → Calls Tryz.prog 5 #[.pointer (some ⟨D, 0, none⟩), .string (nV ++ ⟨#[46, 110, 101, 119]⟩), .int .i64 0, .string pV] W fun e w' => e = .returned (.int .i64 0) ∧ Dsk w' B D 5 aw1 ∧ Ok aw1 ∧ Below B W w') := PT
  have MV2 : Hid (∀ W, Dsk W B D 5 aw1 → Ok aw1 → Calls Tryz.prog 76 #[.pointer (some ⟨D, 0, none⟩), .string (nV ++ ⟨#[46, 110, 101, 119]⟩), .string nV] W fun e w' => e = .returned (.int .i64 0) ∧ Dsk w' B D 12 aw2 ∧ Ok aw2 ∧ Below B W w') := MV
  have SY2 : Hid (∀ W, Dsk W B D 12 aw2 → Ok aw2 → Calls Tryz.prog 6 #[.pointer (some ⟨D, 0, none⟩)] W fun e w' => e = .returned (.int .i64 0) ∧ Dsk w' B D 18 aw3 ∧ Ok aw3 ∧ Below B W w') := SY
  clear PT MV SY
  generalize nV = nv at *
  generalize bV = bv at *
  generalize pV = pv at *
  go_enter Tryz.func56, Tryz.ntmps56
  go_wp2_with fail
  refine (PK.out _).mono ?_
  rintro e w1 ⟨rfl, b1⟩
  have d1 := Lib.hid (d0.out.below b1)
  have B1 := Lib.hid (b1.mono hB)
  have DR1 := Lib.hid (DR.out _ d1.out)
  have PT1 := Lib.hid (PT2.out _ d1.out)
  clear b1 d0 PK DR PT2
  go_wp2_with fail
  refine DR1.out.mono ?_
  rintro e w2 ⟨rfl, rfl⟩
  go_wp2_with fail
  refine PT1.out.mono ?_
  rintro e w3 ⟨rfl, d3, k3, b3⟩
  have MV1 := Lib.hid (MV2.out _ d3 k3)
  have B3 := Lib.hid (B1.out.trans b3)
  clear d3 k3 b3 DR1 PT1 MV2 B1 d1
  go_wp2_with fail
  refine MV1.out.mono ?_
  rintro e w4 ⟨rfl, d4, k4, b4⟩
  have SY1 := Lib.hid (SY2.out _ d4 k4)
  have B4 := Lib.hid (B3.out.trans b4)
  clear d4 k4 b4 MV1 SY2 B3
  go_wp2_with fail
  refine SY1.out.mono ?_
  rintro e w5 ⟨rfl, d5, k5, b5⟩
  have B5 := Lib.hid (B4.out.trans b5)
  go_wp2_with fail
  go_ret
  exact ⟨rfl, d5, k5, B5.out⟩
end Go.Proofs.YthnnenhpcceckaaGreat
/-
  SaveVote; Snap and SaveSnap where there is no disk.
-/
namespace Go.Proofs.YthnnenhpcceckaaGreat
open Go.RowKit
theorem vote_any (t f : Int) (w : World) : ∃ s n, Calls Tryz.prog 55 #[voteV t f] w fun e w' => e = .returned (.tuple #[.string s, .int .i64 n]) ∧ Below w.heap.size w w' := by
  cases h : voteB t f
  · exact ⟨_, _, vote_no h w⟩
  · exact ⟨_, _, vote_ok h w⟩
set_option maxHeartbeats 4000000 in
/-- no disk -/
theorem saveVote_nil (t f : Int) (w : World) : Calls Tryz.prog 31 #[.pointer none, voteV t f] w fun e w' => e = .returned (.int .i64 1) ∧ Below w.heap.size w w' := by
  have bA := Lib.hid ((Below.refl _ w).alloc (Nat.le_refl _) (.cells #[.int .i64 t, .int .i64 f] 33))
  obtain ⟨s, n, V⟩ := vote_any t f (w.alloc (.cells #[.int .i64 t, .int .i64 f] 33))
  have V := Lib.hid V
  unfold voteV at *
  generalize hy : w.heap.size = Y at *
  go_enter Tryz.func31, Tryz.ntmps31
  go_wp2_with fail
  refine V.out.mono ?_
  rintro e w1 ⟨rfl, b1⟩
  have B1 := Lib.hid (bA.out.trans (b1.mono (by simp [hy])))
  clear b1 bA V
  go_wp2_with fail
  go_ret
  exact ⟨rfl, B1.out⟩
set_option maxHeartbeats 4000000 in
/-- the page's first vote, on a new disk -/
theorem saveVote_aw {w : World} {B D : Nat} (d : Dsk w B D 0 st0) (hB : B ≤ w.heap.size) : Calls Tryz.prog 31 #[.pointer (some ⟨D, 0, none⟩), voteV 3 1] w fun e w' => e = .returned (.int .i64 0) ∧ Dsk w' B D 18 aw3 ∧ Ok aw3 ∧ Below B w w' := by
  have bA := (Below.refl _ w).alloc (Nat.le_refl _) (.cells #[.int .i64 3, .int .i64 1] 33)
  have V := Lib.hid (vote_ok (t := 3) (f := 1) (by decide) (w.alloc (.cells #[.int .i64 3, .int .i64 1] 33)))
  rw [vV] at V
  have d1 := Lib.hid (d.below bA)
  have BA := Lib.hid (bA.mono hB)
  have hB1 := Nat.le_trans hB bA.size
  have SV := Lib.hid (fun W (h : Dsk W B D 0 st0) (hW : B ≤ W.heap.size) => save_aw h hW)
  unfold nV at SV
  clear d bA
  unfold voteV at *
  generalize bV = bv at *
  generalize hy : w.heap.size = Y at *
  go_enter Tryz.func31, Tryz.ntmps31
  go_wp2_with fail
  refine V.out.mono ?_
  rintro e w1 ⟨rfl, b1⟩
  have SV1 := Lib.hid (SV.out _ (d1.out.below b1) (Nat.le_trans hB1 b1.size))
  have B1 := Lib.hid (BA.out.trans (b1.mono hB1))
  clear b1 BA V d1 SV hB1
  go_wp2_with fail
  refine SV1.out.mono ?_
  rintro e w2 ⟨rfl, d2, k2, b2⟩
  have B2 := Lib.hid (B1.out.trans b2)
  go_wp2_with fail
  go_ret
  exact ⟨rfl, d2, k2, B2.out⟩
end Go.Proofs.YthnnenhpcceckaaGreat
/-
  Snap, SaveSnap where there is no disk; SaveVote on a disk that is down.
-/
namespace Go.Proofs.YthnnenhpcceckaaGreat
open Go.RowKit
def snapS (i t m : Int) (s : ByteArray) : ByteArray := Bt.numS i ++ Bt.numS t ++ Bt.numS m ++ Bt.textS s
theorem snapB_bd {i t m : Int} {s : ByteArray} (h : snapB i t m s = true) : 0 ≤ i ∧ i ≤ 549755813888 ∧ 0 ≤ t ∧ t ≤ 549755813888 ∧ 0 ≤ m ∧ m < 128 ∧ s.size ≤ 262144 := by
  unfold snapB idxB at h
  simp only [Bool.and_eq_true, decide_eq_true_eq] at h
  omega
set_option maxHeartbeats 4000000 in
theorem save_down {w : World} {B D m : Nat} {S : St} (b : ByteArray) (hb : b.size ≤ 1048576) (d : Dsk w B D m S) (hd : S.down = true) : Calls Tryz.prog 56 #[.pointer (some ⟨D, 0, none⟩), .string nV, .string b] w fun e w' => e = .returned (.int .i64 8) ∧ Below w.heap.size w w' := by
  have PK := Lib.hid (fun W => Ct.pack_any b hb W)
  have hE : findE S nN = 8 := (findE_not7 S nN).2 hd
  have DR := Lib.hid (fun W (h : Dsk W B D m S) => dropn nN h (by decide) (by rw [hE]; decide))
  rw [hE] at DR
  have d0 := Lib.hid d
  clear d hE hd hb
  rw [show nN = nV ++ ⟨#[46, 110, 101, 119]⟩ from rfl] at DR
  have sz0 : ¬ (9223372036854775807 < nV.size + 4) := by decide
  generalize nV = nv at *
  generalize Ct.packS b = pv at *
  go_enter Tryz.func56, Tryz.ntmps56
  go_wp2_with fail
  refine (PK.out _).mono ?_
  rintro e w1 ⟨rfl, b1⟩
  have DR1 := Lib.hid (DR.out _ (d0.out.below b1))
  have B1 := Lib.hid b1
  clear b1 d0 PK DR
  go_wp2_with fail
  refine DR1.out.mono ?_
  rintro e w2 ⟨rfl, rfl⟩
  go_wp2_with fail
  go_ret
  exact ⟨rfl, B1.out⟩
set_option maxHeartbeats 4000000 in
theorem saveVote_down {w : World} {B D m : Nat} {S : St} (d : Dsk w B D m S) (hd : S.down = true) : Calls Tryz.prog 31 #[.pointer (some ⟨D, 0, none⟩), voteV 0 0] w fun e w' => e = .returned (.int .i64 8) ∧ Below w.heap.size w w' := by
  have bA := (Below.refl _ w).alloc (Nat.le_refl _) (.cells #[.int .i64 0, .int .i64 0] 33)
  have V := Lib.hid (vote_ok (t := 0) (f := 0) (by decide) (w.alloc (.cells #[.int .i64 0, .int .i64 0] 33)))
  have hz : (voteS 0 0).size ≤ 1048576 := by
    have := Bt.numS_size 0
    have h2 : (Bt.intS 0).size ≤ 9 := Bt.numS_size _
    unfold voteS
    rw [ByteArray.size_append]
    omega
  have d1 := Lib.hid (d.below bA)
  have SV := Lib.hid (fun W (h : Dsk W B D m S) => save_down (voteS 0 0) hz h hd)
  have BA := Lib.hid bA
  unfold nV at SV
  clear d bA hz hd
  unfold voteV at *
  generalize voteS 0 0 = bv at *
  generalize hy : w.heap.size = Y at *
  go_enter Tryz.func31, Tryz.ntmps31
  go_wp2_with fail
  refine V.out.mono ?_
  rintro e w1 ⟨rfl, b1⟩
  have SV1 := Lib.hid (SV.out _ (d1.out.below b1))
  have B1 := Lib.hid (BA.out.trans (b1.mono (by simp [hy])))
  clear b1 BA V d1 SV
  go_wp2_with fail
  refine SV1.out.mono ?_
  rintro e w2 ⟨rfl, b2⟩
  have B2 := Lib.hid (B1.out.trans (b2.mono (by have := B1.out.size; omega)))
  go_wp2_with fail
  go_ret
  exact ⟨rfl, B2.out⟩
end Go.Proofs.YthnnenhpcceckaaGreat
/-
  VOTES AND SNAPSHOTS AS TEXTS, PLAIN: what is written is read as it was; what is read is just what is written; the document's reading is this one.
-/
namespace Go.Proofs.YthnnenhpcceckaaGreat
open Go.RowKit
theorem tk_zero {α : Type} {z : α} {s : ByteArray} {e : Int} {r : α × Nat × Int} (h : (Bt.tk z s e r).2.2 = 0) : e = 0 ∧ r.2.2 = 0 ∧ Bt.tk z s e r = (r.1, s.extract r.2.1 s.size, 0) := by
  unfold Bt.tk at *
  by_cases he : e = 0
  · by_cases hr : r.2.2 = 0
    · rw [if_neg (by simpa using he), if_neg (by simpa using hr)]
      exact ⟨he, hr, rfl⟩
    · rw [if_neg (by simpa using he), if_pos hr] at h
      exact absurd h hr
  · rw [if_pos he] at h
    exact absurd h he
theorem ext_back (a b : ByteArray) : (a ++ b).extract a.size (a ++ b).size = b := by
  apply Bt.bytes_ext
  rw [Lib.extract_data, Bt.cat_data, Lib.size_eq a, List.drop_left, List.take_of_length_le]
  rw [← Lib.size_eq, ← Lib.size_eq, ByteArray.size_append]
  omega
theorem app_assoc (a b c : ByteArray) : a ++ b ++ c = a ++ (b ++ c) := by
  apply Bt.bytes_ext
  simp only [Bt.cat_data, List.append_assoc]
theorem empty_of {s : ByteArray} (h : s.size = 0) : s = ⟨#[]⟩ := ByteArray.ext (Array.eq_empty_of_size_eq_zero h)
theorem app_nil (a : ByteArray) : a ++ ⟨#[]⟩ = a := by
  apply Bt.bytes_ext
  simp only [Bt.cat_data, List.append_nil]
/-- a number at the front -/
theorem tNum_at (n : Nat) (h : n < 18446744073709551616) (more : ByteArray) : Bt.tNum (Bt.numS (n : Int) ++ more) 0 = (n, more, 0) := by
  unfold Bt.tNum
  rw [Bt.cat_data, Bt.rd_num n h, Bt.tk_ok, ext_back]
theorem tInt_at (n : Int) (h0 : -9223372036854775808 ≤ n) (h1 : n ≤ 9223372036854775807) (more : ByteArray) : Bt.tInt (Bt.intS n ++ more) 0 = (n, more, 0) := by
  unfold Bt.tInt
  rw [Bt.cat_data, Bt.rd_int n h0 h1, Bt.tk_ok, ext_back]
theorem tNum_ati (n : Int) (h0 : 0 ≤ n) (h : n < 18446744073709551616) (more : ByteArray) : Bt.tNum (Bt.numS n ++ more) 0 = (n.toNat, more, 0) := by
  obtain ⟨k, rfl⟩ := Int.eq_ofNat_of_zero_le h0
  rw [tNum_at k (by omega)]
  simp
theorem w64_of {n : Int} (h0 : 0 ≤ n) (h : n < 9223372036854775808) : wrap64 ((n.toNat : Nat) : Int) = n := by
  rw [Int.toNat_of_nonneg h0]
  unfold wrap64
  omega
theorem endE_nil : Bt.endE ⟨#[]⟩ 0 = 0 := by unfold Bt.endE; rfl
theorem endE_zero {s : ByteArray} {e : Int} (h : Bt.endE s e = 0) : e = 0 ∧ s = ⟨#[]⟩ := by
  unfold Bt.endE at h
  split at h
  · rename_i h1; exact absurd h h1
  · rename_i h1
    split at h
    · rename_i h2; exact ⟨by simpa using h1, empty_of h2⟩
    · simp at h
/-- a vote -/
theorem rdV_was {t f : Int} (h : voteB t f = true) : rdV (voteS t f) = (t, f, 0) := by
  obtain ⟨t0, t1, f0, f1⟩ := voteB_bd h
  have e1 : tv1 (voteS t f) = (t.toNat, Bt.intS f, 0) := by unfold tv1 voteS; exact tNum_ati t t0 (by omega) _
  have e2 : tv2 (voteS t f) = (f, ⟨#[]⟩, 0) := by
    unfold tv2
    rw [e1]
    have := tInt_at f (by omega) (by omega) ⟨#[]⟩
    rw [app_nil] at this
    exact this
  have eE : rdE (voteS t f) = 0 := by unfold rdE; rw [e2]; exact endE_nil
  have eT : rdT (voteS t f) = t := by unfold rdT; rw [e1]; exact w64_of t0 (by omega)
  have eF : rdF (voteS t f) = f := by unfold rdF; rw [e2]
  unfold rdV
  rw [eE, eT, eF, if_pos ⟨rfl, h⟩]
theorem wrap64_idx {n : Nat} (hn : n < 18446744073709551616) {x : Int} (hx : x = wrap64 (n : Int)) (h : 0 ≤ x) (h1 : x ≤ 549755813888) : x = n := by
  subst hx
  by_cases hs : n < 9223372036854775808
  · have e : wrap64 (n : Int) = n := by unfold wrap64; omega
    exact e
  · exfalso
    have e : wrap64 (n : Int) = (n : Int) - 18446744073709551616 := by
      unfold wrap64
      omega
    omega
theorem rdNum_lt (s : ByteArray) : (Bt.rdNum s.data.toList).1 < 18446744073709551616 := (Bt.rdNum_facts s.data.toList).1
theorem rdV_ok {s : ByteArray} (h : (rdV s).2.2 = 0) : rdE s = 0 ∧ voteB (rdT s) (rdF s) = true ∧ rdV s = (rdT s, rdF s, 0) := by
  unfold rdV at *
  split at h
  · rename_i h1; exact ⟨h1.1, h1.2, by rw [if_pos h1]⟩
  · simp at h
theorem rdV_no {s : ByteArray} (h : (rdV s).2.2 ≠ 0) : rdV s = (0, 0, 3) := by
  unfold rdV at *
  split at h
  · simp at h
  · rename_i h1; rw [if_neg h1]
theorem rdV_back {s : ByteArray} (h : (rdV s).2.2 = 0) : voteB (rdV s).1 (rdV s).2.1 = true ∧ voteS (rdV s).1 (rdV s).2.1 = s := by
  obtain ⟨hE, hB, hV⟩ := rdV_ok h
  rw [hV]
  refine ⟨hB, ?_⟩
  simp only
  obtain ⟨z2, hn2⟩ := endE_zero (show Bt.endE (tv2 s).2.1 (tv2 s).2.2 = 0 from hE)
  have k2 := tk_zero (show (Bt.tk 0 (tv1 s).2.1 (tv1 s).2.2 (Bt.rdInt (tv1 s).2.1.data.toList)).2.2 = 0 from z2)
  have k1 := tk_zero (show (Bt.tk 0 s 0 (Bt.rdNum s.data.toList)).2.2 = 0 from k2.1)
  have e1 : tv1 s = ((Bt.rdNum s.data.toList).1, s.extract (Bt.rdNum s.data.toList).2.1 s.size, 0) := k1.2.2
  have e2 : tv2 s = ((Bt.rdInt (tv1 s).2.1.data.toList).1, (tv1 s).2.1.extract (Bt.rdInt (tv1 s).2.1.data.toList).2.1 (tv1 s).2.1.size, 0) := k2.2.2
  have b2 := Bt.int_back (tv1 s).2.1 k2.2.1
  have b1 := Bt.num_back s k1.2.1
  have hb := voteB_bd hB
  have eT : rdT s = ((Bt.rdNum s.data.toList).1 : Int) := wrap64_idx (rdNum_lt s) (show rdT s = wrap64 ((Bt.rdNum s.data.toList).1 : Int) by unfold rdT; rw [e1]) hb.1 hb.2.1
  have eF : Bt.intS (rdF s) = (tv1 s).2.1 := by
    have hx : (tv1 s).2.1.extract (Bt.rdInt (tv1 s).2.1.data.toList).2.1 (tv1 s).2.1.size = ⟨#[]⟩ := by rw [e2] at hn2; exact hn2
    rw [hx, app_nil] at b2
    unfold rdF
    rw [e2]
    exact b2
  unfold voteS
  rw [eF, eT, e1]
  exact b1
/-- a snapshot -/
def ts1 (s : ByteArray) : Nat × ByteArray × Int := Bt.tNum s 0
def ts2 (s : ByteArray) : Nat × ByteArray × Int := Bt.tNum (ts1 s).2.1 (ts1 s).2.2
def ts3 (s : ByteArray) : Nat × ByteArray × Int := Bt.tNum (ts2 s).2.1 (ts2 s).2.2
def ts4 (s : ByteArray) : ByteArray × ByteArray × Int := Bt.tText (ts3 s).2.1 (ts3 s).2.2 262144
theorem ts1_le (s : ByteArray) : (ts1 s).2.1.size ≤ s.size := tk_le _ _ _ _
theorem ts2_le (s : ByteArray) : (ts2 s).2.1.size ≤ s.size := Nat.le_trans (tk_le _ _ _ _) (ts1_le s)
theorem ts3_le (s : ByteArray) : (ts3 s).2.1.size ≤ s.size := Nat.le_trans (tk_le _ _ _ _) (ts2_le s)
theorem ts4_le (s : ByteArray) : (ts4 s).2.1.size ≤ s.size := Nat.le_trans (tk_le _ _ _ _) (ts3_le s)
def rsE (s : ByteArray) : Int := Bt.endE (ts4 s).2.1 (ts4 s).2.2
def rsI (s : ByteArray) : Int := wrap64 ((ts1 s).1 : Int)
def rsT (s : ByteArray) : Int := wrap64 ((ts2 s).1 : Int)
def rsM (s : ByteArray) : Int := wrap64 ((ts3 s).1 : Int)
def rsS (s : ByteArray) : ByteArray := (ts4 s).1
def rsV (s : ByteArray) : Int × Int × Int × ByteArray × Int := if rsE s = 0 ∧ snapB (rsI s) (rsT s) (rsM s) (rsS s) = true then (rsI s, rsT s, rsM s, rsS s, 0) else (0, 0, 0, ⟨#[]⟩, 3)
theorem rdText_more (s more : ByteArray) (most : Int) (hs : (s.size : Int) ≤ most) (hm : most < 9223372036854775808) : Bt.rdText (Bt.textS s ++ more) most = (s, (Bt.textS s).size, 0) := by
  have h := Bt.rd_text s more (by omega)
  have hd : (Bt.textS s ++ more).data.toList = (Bt.numS (s.size : Int)).data.toList ++ (s.data.toList ++ more.data.toList) := by
    unfold Bt.textS; rw [Bt.cat_data, Bt.cat_data, List.append_assoc]
  have hR : Bt.rdNum (Bt.textS s ++ more).data.toList = (s.size, (Bt.numS (s.size : Int)).size, 0) := by rw [hd]; exact Bt.rd_num _ (by omega) _
  rw [Bt.rdText_eq _ _ hR, if_neg (by simp), if_neg (by omega)] at h ⊢
  exact h
theorem tText_at (s more : ByteArray) (hs : s.size ≤ 262144) : Bt.tText (Bt.textS s ++ more) 0 262144 = (s, more, 0) := by
  unfold Bt.tText
  rw [rdText_more s more _ (by omega) (by decide), Bt.tk_ok, ext_back]
theorem snapB_m {i t m : Int} {s : ByteArray} (h : snapB i t m s = true) : m ≤ 549755813888 := by
  have := snapB_bd h
  omega
theorem rsV_was {i t m : Int} {s : ByteArray} (h : snapB i t m s = true) : rsV (snapS i t m s) = (i, t, m, s, 0) := by
  obtain ⟨i0, i1, t0, t1, m0, m1, s1⟩ := snapB_bd h
  have eS : snapS i t m s = Bt.numS i ++ (Bt.numS t ++ (Bt.numS m ++ Bt.textS s)) := by unfold snapS; rw [app_assoc, app_assoc]
  have e1 : ts1 (snapS i t m s) = (i.toNat, Bt.numS t ++ (Bt.numS m ++ Bt.textS s), 0) := by unfold ts1; rw [eS]; exact tNum_ati i i0 (by omega) _
  have e2 : ts2 (snapS i t m s) = (t.toNat, Bt.numS m ++ Bt.textS s, 0) := by unfold ts2; rw [e1]; exact tNum_ati t t0 (by omega) _
  have e3 : ts3 (snapS i t m s) = (m.toNat, Bt.textS s, 0) := by unfold ts3; rw [e2]; exact tNum_ati m m0 (by omega) _
  have e4 : ts4 (snapS i t m s) = (s, ⟨#[]⟩, 0) := by
    unfold ts4
    rw [e3]
    have := tText_at s ⟨#[]⟩ s1
    rw [app_nil] at this
    exact this
  have eE : rsE (snapS i t m s) = 0 := by unfold rsE; rw [e4]; exact endE_nil
  have eI : rsI (snapS i t m s) = i := by unfold rsI; rw [e1]; exact w64_of i0 (by omega)
  have eT : rsT (snapS i t m s) = t := by unfold rsT; rw [e2]; exact w64_of t0 (by omega)
  have eM : rsM (snapS i t m s) = m := by unfold rsM; rw [e3]; exact w64_of m0 (by omega)
  have eX : rsS (snapS i t m s) = s := by unfold rsS; rw [e4]
  unfold rsV
  rw [eE, eI, eT, eM, eX, if_pos ⟨rfl, h⟩]
theorem rsV_ok {s : ByteArray} (h : (rsV s).2.2.2.2 = 0) : rsE s = 0 ∧ snapB (rsI s) (rsT s) (rsM s) (rsS s) = true ∧ rsV s = (rsI s, rsT s, rsM s, rsS s, 0) := by
  unfold rsV at *
  split at h
  · rename_i h1; exact ⟨h1.1, h1.2, by rw [if_pos h1]⟩
  · simp at h
theorem rsV_no {s : ByteArray} (h : (rsV s).2.2.2.2 ≠ 0) : rsV s = (0, 0, 0, ⟨#[]⟩, 3) := by
  unfold rsV at *
  split at h
  · simp at h
  · rename_i h1; rw [if_neg h1]
theorem rsV_back {s : ByteArray} (h : (rsV s).2.2.2.2 = 0) : snapB (rsV s).1 (rsV s).2.1 (rsV s).2.2.1 (rsV s).2.2.2.1 = true ∧ snapS (rsV s).1 (rsV s).2.1 (rsV s).2.2.1 (rsV s).2.2.2.1 = s := by
  obtain ⟨hE, hB, hV⟩ := rsV_ok h
  rw [hV]
  refine ⟨hB, ?_⟩
  simp only
  obtain ⟨z4, hn4⟩ := endE_zero (show Bt.endE (ts4 s).2.1 (ts4 s).2.2 = 0 from hE)
  have k4 := tk_zero (show (Bt.tk ⟨#[]⟩ (ts3 s).2.1 (ts3 s).2.2 (Bt.rdText (ts3 s).2.1 262144)).2.2 = 0 from z4)
  have k3 := tk_zero (show (Bt.tk 0 (ts2 s).2.1 (ts2 s).2.2 (Bt.rdNum (ts2 s).2.1.data.toList)).2.2 = 0 from k4.1)
  have k2 := tk_zero (show (Bt.tk 0 (ts1 s).2.1 (ts1 s).2.2 (Bt.rdNum (ts1 s).2.1.data.toList)).2.2 = 0 from k3.1)
  have k1 := tk_zero (show (Bt.tk 0 s 0 (Bt.rdNum s.data.toList)).2.2 = 0 from k2.1)
  have e1 : ts1 s = ((Bt.rdNum s.data.toList).1, s.extract (Bt.rdNum s.data.toList).2.1 s.size, 0) := k1.2.2
  have e2 : ts2 s = ((Bt.rdNum (ts1 s).2.1.data.toList).1, (ts1 s).2.1.extract (Bt.rdNum (ts1 s).2.1.data.toList).2.1 (ts1 s).2.1.size, 0) := k2.2.2
  have e3 : ts3 s = ((Bt.rdNum (ts2 s).2.1.data.toList).1, (ts2 s).2.1.extract (Bt.rdNum (ts2 s).2.1.data.toList).2.1 (ts2 s).2.1.size, 0) := k3.2.2
  have e4 : ts4 s = ((Bt.rdText (ts3 s).2.1 262144).1, (ts3 s).2.1.extract (Bt.rdText (ts3 s).2.1 262144).2.1 (ts3 s).2.1.size, 0) := k4.2.2
  have b4 := Bt.text_back (ts3 s).2.1 262144 k4.2.1
  have b3 := Bt.num_back (ts2 s).2.1 k3.2.1
  have b2 := Bt.num_back (ts1 s).2.1 k2.2.1
  have b1 := Bt.num_back s k1.2.1
  have hb := snapB_bd hB
  have eI : rsI s = ((Bt.rdNum s.data.toList).1 : Int) := wrap64_idx (rdNum_lt s) (show rsI s = wrap64 ((Bt.rdNum s.data.toList).1 : Int) by unfold rsI; rw [e1]) hb.1 hb.2.1
  have eT : rsT s = ((Bt.rdNum (ts1 s).2.1.data.toList).1 : Int) := wrap64_idx (rdNum_lt _) (show rsT s = wrap64 ((Bt.rdNum (ts1 s).2.1.data.toList).1 : Int) by unfold rsT; rw [e2]) hb.2.2.1 hb.2.2.2.1
  have eM : rsM s = ((Bt.rdNum (ts2 s).2.1.data.toList).1 : Int) := wrap64_idx (rdNum_lt _) (show rsM s = wrap64 ((Bt.rdNum (ts2 s).2.1.data.toList).1 : Int) by unfold rsM; rw [e3]) hb.2.2.2.2.1 (snapB_m hB)
  have eX : Bt.textS (rsS s) = (ts3 s).2.1 := by
    have hx : (ts3 s).2.1.extract (Bt.rdText (ts3 s).2.1 262144).2.1 (ts3 s).2.1.size = ⟨#[]⟩ := by rw [e4] at hn4; exact hn4
    rw [hx, app_nil] at b4
    unfold rsS
    rw [e4]
    exact b4
  have c3 : (ts3 s).2.1 = (ts2 s).2.1.extract (Bt.rdNum (ts2 s).2.1.data.toList).2.1 (ts2 s).2.1.size := by rw [e3]
  have c2 : (ts2 s).2.1 = (ts1 s).2.1.extract (Bt.rdNum (ts1 s).2.1.data.toList).2.1 (ts1 s).2.1.size := by rw [e2]
  have c1 : (ts1 s).2.1 = s.extract (Bt.rdNum s.data.toList).2.1 s.size := by rw [e1]
  unfold snapS
  rw [app_assoc, app_assoc, eX, eM, c3, b3, eT, c2, b2, eI, c1, b1]
/-- the document's reading of a number -/
def numR (n : Nat) : Int := if 549755813888 < n then -1 else n
theorem idx_num {n : Nat} (h : n < 18446744073709551616) : (idxB (numR n) = idxB (wrap64 (n : Int))) ∧ (idxB (wrap64 (n : Int)) = true → numR n = wrap64 (n : Int)) := by
  unfold numR
  by_cases h1 : 549755813888 < n
  · rw [if_pos h1]
    have hf : idxB (wrap64 (n : Int)) = false := by
      cases hq : idxB (wrap64 (n : Int))
      · rfl
      · exfalso
        unfold idxB at hq
        simp only [Bool.and_eq_true, decide_eq_true_eq] at hq
        have := wrap64_idx h rfl hq.1 hq.2
        omega
    rw [hf]
    exact ⟨by decide, fun h => by cases h⟩
  · rw [if_neg h1]
    have e : wrap64 (n : Int) = n := by unfold wrap64; omega
    rw [e]
    exact ⟨rfl, fun _ => rfl⟩
theorem voteB_num {n : Nat} {f : Int} (h : n < 18446744073709551616) : voteB (numR n) f = voteB (wrap64 (n : Int)) f ∧ (voteB (wrap64 (n : Int)) f = true → numR n = wrap64 (n : Int)) := by
  unfold voteB
  obtain ⟨a, b⟩ := idx_num h
  rw [a]
  exact ⟨rfl, fun h => b (by simp only [Bool.and_eq_true] at h; exact h.1)⟩
theorem mask_num {n : Nat} (h : n < 18446744073709551616) (x : Bool) : ((decide (0 ≤ numR n) && (decide (numR n < 128) && x)) = (decide (0 ≤ wrap64 (n : Int)) && (decide (wrap64 (n : Int) < 128) && x))) ∧ ((decide (0 ≤ wrap64 (n : Int)) && (decide (wrap64 (n : Int) < 128) && x)) = true → numR n = wrap64 (n : Int)) := by
  unfold numR
  by_cases h1 : 549755813888 < n
  · rw [if_pos h1]
    have hf : (decide (0 ≤ wrap64 (n : Int)) && (decide (wrap64 (n : Int) < 128) && x)) = false := by
      cases hq : (decide (0 ≤ wrap64 (n : Int)) && (decide (wrap64 (n : Int) < 128) && x))
      · rfl
      · exfalso
        simp only [Bool.and_eq_true, decide_eq_true_eq] at hq
        have := wrap64_idx h rfl hq.1 (by omega)
        omega
    rw [hf]
    exact ⟨by simp, fun h => by cases h⟩
  · rw [if_neg h1]
    have e : wrap64 (n : Int) = n := by unfold wrap64; omega
    rw [e]
    exact ⟨rfl, fun _ => rfl⟩
theorem snapB_num {a b c : Nat} {s : ByteArray} (ha : a < 18446744073709551616) (hb : b < 18446744073709551616) (hc : c < 18446744073709551616) :
    snapB (numR a) (numR b) (numR c) s = snapB (wrap64 (a : Int)) (wrap64 (b : Int)) (wrap64 (c : Int)) s ∧ (snapB (wrap64 (a : Int)) (wrap64 (b : Int)) (wrap64 (c : Int)) s = true → numR a = wrap64 (a : Int) ∧ numR b = wrap64 (b : Int) ∧ numR c = wrap64 (c : Int)) := by
  unfold snapB
  rw [(idx_num ha).1, (idx_num hb).1, (mask_num hc (decide (s.size ≤ 262144))).1]
  refine ⟨rfl, fun h => ?_⟩
  rw [Bool.and_eq_true, Bool.and_eq_true] at h
  exact ⟨(idx_num ha).2 h.1, (idx_num hb).2 h.2.1, (mask_num hc (decide (s.size ≤ 262144))).2 h.2.2⟩
end Go.Proofs.YthnnenhpcceckaaGreat
/-
  THE DOCUMENT'S OWN VOTES AND SNAPSHOTS: which may be, and their texts.
-/
namespace Go.Proofs.YthnnenhpcceckaaGreat
open Go.RowKit
theorem ret_b {a b : Bool} (h : a = b) : Ending.returned (.bool a) = .returned (.bool b) := by rw [h]
set_option maxHeartbeats 2000000 in
theorem voted_any (t f : Int) (w : World) : Calls Tryz.prog 49 #[voteV t f] w fun e w' => e = .returned (.bool (voteB t f)) ∧ Below w.heap.size w w' := by
  have R : ∃ b, voteB t f = b ∧ (b = true ↔ (0 ≤ t ∧ t ≤ 549755813888 ∧ -1 ≤ f ∧ f ≤ 6)) := ⟨_, rfl, by unfold voteB idxB; simp only [Bool.and_eq_true, decide_eq_true_eq]; omega⟩
  obtain ⟨b, hb, R⟩ := R
  rw [hb]
  have RH := Lib.hid R
  clear R hb
  unfold voteV
  by_cases h0 : 0 ≤ t
  · by_cases h1 : t ≤ 549755813888
    · by_cases h2 : -1 ≤ f
      · by_cases h3 : f ≤ 6
        all_goals
          go_enter Tryz.func49, Tryz.ntmps49
          go_wp2_with fail
          go_ret
          exact ⟨ret_b (by have := RH.out; rw [Bool.eq_iff_iff, this]; simp; omega), (Below.refl _ w).alloc (Nat.le_refl _) _⟩
      · go_enter Tryz.func49, Tryz.ntmps49
        go_wp2_with fail
        go_ret
        exact ⟨ret_b (by have := RH.out; rw [Bool.eq_iff_iff, this]; simp; omega), (Below.refl _ w).alloc (Nat.le_refl _) _⟩
    · go_enter Tryz.func49, Tryz.ntmps49
      go_wp2_with fail
      go_ret
      exact ⟨ret_b (by have := RH.out; rw [Bool.eq_iff_iff, this]; simp; omega), (Below.refl _ w).alloc (Nat.le_refl _) _⟩
  · go_enter Tryz.func49, Tryz.ntmps49
    go_wp2_with fail
    go_ret
    exact ⟨ret_b (by have := RH.out; rw [Bool.eq_iff_iff, this]; simp; omega), (Below.refl _ w).alloc (Nat.le_refl _) _⟩
set_option maxHeartbeats 4000000 in
theorem smay_any (i t m : Int) (s : ByteArray) (w : World) : Calls Tryz.prog 54 #[snapV i t m s] w fun e w' => e = .returned (.bool (snapB i t m s)) ∧ Below w.heap.size w w' := by
  have R : ∃ b, snapB i t m s = b ∧ (b = true ↔ (0 ≤ i ∧ i ≤ 549755813888 ∧ 0 ≤ t ∧ t ≤ 549755813888 ∧ 0 ≤ m ∧ m ≤ 127 ∧ (s.size : Int) ≤ 262144)) := ⟨_, rfl, by unfold snapB idxB; simp only [Bool.and_eq_true, decide_eq_true_eq]; omega⟩
  obtain ⟨b, hb, R⟩ := R
  rw [hb]
  have RH := Lib.hid R
  clear R hb
  unfold snapV
  by_cases h0 : 0 ≤ i
  rotate_left
  · go_enter Tryz.func54, Tryz.ntmps54
    go_wp2_with fail
    go_ret
    exact ⟨ret_b (by have := RH.out; rw [Bool.eq_iff_iff, this]; simp; omega), (Below.refl _ w).alloc (Nat.le_refl _) _⟩
  by_cases h1 : i ≤ 549755813888
  rotate_left
  · go_enter Tryz.func54, Tryz.ntmps54
    go_wp2_with fail
    go_ret
    exact ⟨ret_b (by have := RH.out; rw [Bool.eq_iff_iff, this]; simp; omega), (Below.refl _ w).alloc (Nat.le_refl _) _⟩
  by_cases h2 : 0 ≤ t
  rotate_left
  · go_enter Tryz.func54, Tryz.ntmps54
    go_wp2_with fail
    go_ret
    exact ⟨ret_b (by have := RH.out; rw [Bool.eq_iff_iff, this]; simp; omega), (Below.refl _ w).alloc (Nat.le_refl _) _⟩
  by_cases h3 : t ≤ 549755813888
  rotate_left
  · go_enter Tryz.func54, Tryz.ntmps54
    go_wp2_with fail
    go_ret
    exact ⟨ret_b (by have := RH.out; rw [Bool.eq_iff_iff, this]; simp; omega), (Below.refl _ w).alloc (Nat.le_refl _) _⟩
  by_cases h4 : 0 ≤ m
  rotate_left
  · go_enter Tryz.func54, Tryz.ntmps54
    go_wp2_with fail
    go_ret
    exact ⟨ret_b (by have := RH.out; rw [Bool.eq_iff_iff, this]; simp; omega), (Below.refl _ w).alloc (Nat.le_refl _) _⟩
  by_cases h5 : m ≤ 127
  rotate_left
  · go_enter Tryz.func54, Tryz.ntmps54
    go_wp2_with fail
    go_ret
    exact ⟨ret_b (by have := RH.out; rw [Bool.eq_iff_iff, this]; simp; omega), (Below.refl _ w).alloc (Nat.le_refl _) _⟩
  · go_enter Tryz.func54, Tryz.ntmps54
    go_wp2_with fail
    go_ret
    exact ⟨ret_b (by have := RH.out; rw [Bool.eq_iff_iff, this]; simp; omega), (Below.refl _ w).alloc (Nat.le_refl _) _⟩
end Go.Proofs.YthnnenhpcceckaaGreat
/-
  THE DOCUMENT'S OWN TAPE: a number at the front.
-/
namespace Go.Proofs.YthnnenhpcceckaaGreat.Bt
open Go.RowKit Go.Sort
theorem mixed : Tryz.prog.follows .mixedOrders = true := by kernel_rfl
theorem numS_len (n : Int) : (numS n).size = if n ≤ 247 then 1 else wid n + 1 := by
  unfold numS numI
  rw [strOfNums_size]
  split
  · simp
  · rw [List.length_cons, be_len]
theorem wid_small {n k : Nat} (h1 : 1 ≤ k) (h2 : k ≤ 8) (h : n < leastN k) (h3 : 247 < n) : wid (n : Int) < k := by
  have hk : k = 1 ∨ k = 2 ∨ k = 3 ∨ k = 4 ∨ k = 5 ∨ k = 6 ∨ k = 7 ∨ k = 8 := by omega
  rcases hk with rfl | rfl | rfl | rfl | rfl | rfl | rfl | rfl
  all_goals
    simp [leastN] at h
    unfold wid
    repeat' split
    all_goals omega
theorem num_form (s : ByteArray) (k : Nat) (h0 : 0 < s.size) (hk : s[0].toNat = 247 + k) (h1 : 1 ≤ k) (hs : k + 1 ≤ s.size) :
    numS (joinN ((s.data.toList.drop 1).take k) : Nat) = s.extract 0 (k + 1) ↔ ¬ joinN ((s.data.toList.drop 1).take k) < leastN k := by
  have hb := s[0].toNat_lt
  have hd := head_drop s h0
  have hlen : (s.data.toList.drop 1).length = s.size - 1 := by rw [List.length_drop, ← Lib.size_eq]
  have hrd : rdNum s.data.toList = if joinN ((s.data.toList.drop 1).take k) < leastN k then (0, 0, 3) else (joinN ((s.data.toList.drop 1).take k), k + 1, 0) := by
    rw [hd]
    simp only [rdNum]
    rw [if_neg (by omega), show s[0].toNat - 247 = k by omega]
    simp only [List.drop_succ_cons, List.drop_zero]
    rw [if_neg (by omega)]
  constructor
  · intro he hlt
    have e1 := congrArg ByteArray.size he
    rw [numS_len] at e1
    have e3 : (s.extract 0 (k + 1)).size = k + 1 := by rw [ByteArray.size_extract]; omega
    rw [e3] at e1
    split at e1
    · omega
    · have := wid_small h1 (by omega) hlt (by omega)
      omega
  · intro hlt
    rw [if_neg hlt] at hrd
    have := num_one s.data.toList (by rw [hrd])
    rw [hrd] at this
    apply bytes_ext
    rw [Lib.extract_data, List.drop_zero, Nat.sub_zero]
    exact this
theorem join_next (s : ByteArray) (j : Nat) (h : j + 1 < s.size) : joinN ((s.data.toList.drop 1).take (j + 1)) = joinN ((s.data.toList.drop 1).take j) * 256 + s[j + 1].toNat := by
  have hl : j < (s.data.toList.drop 1).length := by rw [List.length_drop, ← Lib.size_eq]; omega
  rw [List.take_succ_eq_append_getElem hl, joinN_snoc, List.getElem_drop]
  simp only [Nat.add_comm 1 j]
  rfl
def aheadV (x : Nat × Nat × Int) : Value := .tuple #[.int .u64 (x.1 : Int), .int .i64 (x.2.1 : Int), .int .i64 x.2.2]
set_option maxRecDepth 10000 in
set_option maxHeartbeats 1000000 in
theorem ahead_any (s : ByteArray) (hs : s.size ≤ 281474976710656) (w : World) :
    Calls Tryz.prog 69 #[.string s] w fun e w' => e = .returned (aheadV (rdNum s.data.toList)) ∧ Below w.heap.size w w' := by
  by_cases h0 : s.size = 0
  · have e0 : s = ⟨#[]⟩ := by
      apply ByteArray.ext
      exact Array.eq_empty_of_size_eq_zero h0
    subst e0
    go_enter Tryz.func69, Tryz.ntmps69
    go_wp2_with fail
    go_ret3
    exact ⟨rfl, Below.refl _ _⟩
  have h1 : 0 < s.size := by omega
  have he := head_drop s h1
  have hne : s.toList.isEmpty = false := by
    rw [Lib.toList_data, he]; rfl
  have hb := s[0].toNat_lt
  have hbi : (s[0].toNat : Int) ≤ 255 := by omega
  have He := Lib.hid he
  clear he
  by_cases h2 : s[0].toNat ≤ 247
  · go_enter Tryz.func69, Tryz.ntmps69
    go_wp2_with fail
    go_ret3
    refine ⟨?_, Below.refl _ _⟩
    rw [He.out]; simp only [rdNum, if_pos h2]; rfl
  by_cases h3 : s.size < s[0].toNat - 247 + 1
  · go_enter Tryz.func69, Tryz.ntmps69
    go_wp2_with fail
    go_ret3
    refine ⟨?_, Below.refl _ _⟩
    rw [He.out]; simp only [rdNum, if_neg h2]; rw [if_pos (by simp; omega)]; rfl
  · obtain ⟨k, hk⟩ : ∃ k, s[0].toNat = 247 + k := ⟨s[0].toNat - 247, by omega⟩
    have hform := Lib.hid (num_form s k h1 hk (by omega) (by omega))
    go_enter Tryz.func69, Tryz.ntmps69
    go_wp2_with fail
    go_loop [6, 7] (fun n i => ∃ j : Nat, i = .int .i64 ((j : Int) + 1) ∧ j ≤ k ∧ n = .int .u64 (joinN ((s.data.toList.drop 1).take j) : Nat)) (fun _ i => k + 1 - (intOf i).toNat)
    case atStart => exact ⟨0, by simp, by omega, rfl⟩
    case round =>
      obtain ⟨j, rfl, hj, rfl⟩ := hrel
      by_cases hlt : j < k
      · have hix : j + 1 < s.size := by omega
        have hnx := Lib.hid (join_next s j hix)
        have hJ2 := joinN_u64 ((s.data.toList.drop 1).take (j + 1)) (by rw [List.length_take]; omega)
        rw [join_next s j hix] at hJ2
        have hbj := s[j + 1].toNat_lt
        generalize joinN ((s.data.toList.drop 1).take j) = J at *
        have hki : (j : Int) + 1 ≤ (s[0].toNat : Int) - 247 := by omega
        go_wp2_with fail
        exact ⟨⟨j + 1, by go_num, by omega, by rw [hnx.out]; exact congrArg (Value.int .u64) (by omega)⟩, by simp [intOf]; omega⟩
      · obtain rfl : j = k := by omega
        have hjl := joinN_u64 ((s.data.toList.drop 1).take j) (by rw [List.length_take]; omega)
        have hrd : Hid (rdNum s.data.toList = if joinN ((s.data.toList.drop 1).take j) < leastN j then (0, 0, 3) else (joinN ((s.data.toList.drop 1).take j), j + 1, 0)) := by
          unfold Hid
          rw [He.out]
          simp only [rdNum]
          rw [if_neg (by omega), show s[0].toNat - 247 = j by omega]
          simp only [List.drop_succ_cons, List.drop_zero]
          rw [if_neg (by simp; omega)]
        generalize joinN ((s.data.toList.drop 1).take j) = J at *
        have hki : ¬ (j : Int) + 1 ≤ (s[0].toNat : Int) - 247 := by omega
        go_wp2_with fail
        have cF : ∀ d os, Calls Tryz.prog 89 #[.int .u64 (J : Int)] (grow (redrawn w d) os) fun e w'' => e = .returned (.string (numS (J : Int))) ∧ ∃ p : Regrown, w'' = grow (redrawn w p.d) p.os := fun d os => Calls.regrown_of (rnum_any (J : Int) (by omega) (by omega) _)
        have CF := Lib.hid cF
        clear cF
        have l1 : IntKind.i64.wrap (247 + (j : Int) - 247 + 1) = 247 + (j : Int) - 247 + 1 := IntWalk.i64_in _ ⟨by omega, by omega⟩
        have l2 : (0 : Int) ≤ 247 + (j : Int) - 247 + 1 := by omega
        have l3 : (247 + (j : Int) - 247 + 1).toNat = j + 1 := by omega
        have l7 : 247 + (j : Int) - 247 + 1 ≤ (s.size : Int) := by omega
        have l8 : j + 1 ≤ s.size := by omega
        refine wp_region_quiet_below mixed (by kernel_rfl) ?_
        repeat (quiet_step (exact CF.out _ _))
        refine wpQuiet_nil ?_
        intro _ hw'
        obtain ⟨⟨dq, osq⟩, hw''⟩ := hw'
        subst hw''
        have b2 : Below w.heap.size w (grow (redrawn w dq) osq) := below_regrown w dq osq
        generalize grow (redrawn w dq) osq = w2 at *
        have hf := hform.out
        by_cases hlj : J < leastN j
        · have hq : (numS (J : Int)).toList ≠ (s.extract 0 (j + 1)).toList := fun e => by
            rw [ByteArray.toList_eq, ByteArray.toList_eq] at e
            exact hf.1 (bytes_ext e) hlj
          have hq2 : (!(numS (J : Int)).toList == (s.extract 0 (j + 1)).toList) = true := by simpa using hq
          rw [hq2]
          have hr := hrd.out
          rw [if_pos hlj] at hr
          have HR := Lib.hid hr
          clear hr hrd hq hq2 hf
          go_wp2_with fail
          go_ret3
          exact ⟨by rw [HR.out]; rfl, b2⟩
        · have hq2 : (!(numS (J : Int)).toList == (s.extract 0 (j + 1)).toList) = false := by rw [hf.2 hlj]; simp
          rw [hq2]
          have hr := hrd.out
          rw [if_neg hlj] at hr
          have HR := Lib.hid hr
          clear hr hrd hq2 hf
          go_wp2_with fail
          go_ret3
          refine ⟨?_, b2⟩
          rw [HR.out]
          exact ret_num rfl (by show (247 + (j : Int) - 247 + 1) = ((j + 1 : Nat) : Int); omega)
end Go.Proofs.YthnnenhpcceckaaGreat.Bt
