/-
  WHAT THE ROWS REST ON, part 17: Tsh Tvw Tsm Taw Tak Cln Get.
-/
import Derived.Lib.Strings
import Derived.Lib.UnsafeStr
import Derived.Lib.BufferWrite
import Derived.Laws.MakeOwn
import Derived.Test.YtkajadkmdcalmaaGreatDoorPart16
/-
  Check AND Show.
-/
namespace Go.Proofs.YtkajadkmdcalmaaGreatDoor
open Go.RowKit
theorem Nods.mono {w : World} {B B' : Nat} {a : Option Addr} {L : List Nd} (h : Nods w B a L) (hb : B ≤ B') : Nods w B' a L := fun p hp => by
  obtain ⟨g, o, ca, cc, ka, kc, e, hl, c0, c1, c2, c3, c4, c5, hc, hk⟩ := h p hp
  exact ⟨g, o, ca, cc, ka, kc, e, by omega, c0, c1, c2, c3, c4, c5, ⟨hc.1, fun g o h1 h2 => by have := hc.2 g o h1 h2; omega⟩, hk.mono hb⟩
theorem rule_conds {l : List Nd} {n : Nd} (h : ruleB l n = true) : n.conds.length ≤ 100 ∧ (∀ c ∈ n.conds, condB c = true) ∧ (n.op = 5 → 0 < n.kids.length) := by
  have bare : bareB n = true → n.conds = [] := fun h => by unfold bareB at h; rw [Bool.and_eq_true] at h; simpa using h.2
  rcases ruleB_op l n with ⟨e, r⟩ | ⟨e, r⟩ | ⟨e, r⟩ | ⟨e, r⟩ | ⟨e, r⟩ | ⟨e, r⟩
  · rw [r] at h
    unfold atomB at h
    simp only [Bool.and_eq_true, decide_eq_true_iff] at h
    exact ⟨by omega, fun c hc => List.all_eq_true.1 h.1.2 c hc, fun h5 => by omega⟩
  · rw [r] at h
    unfold seqB at h
    simp only [Bool.and_eq_true] at h
    have hb := bare h.1.1.1.1
    rw [hb]; exact ⟨by simp, by simp, fun h5 => by omega⟩
  · rw [r] at h
    unfold altB at h
    simp only [Bool.and_eq_true] at h
    have hb := bare h.1.1.1
    rw [hb]; exact ⟨by simp, by simp, fun h5 => by omega⟩
  · rw [r] at h
    unfold loopB at h
    simp only [Bool.and_eq_true] at h
    have hb := bare h.1.1.1.1
    rw [hb]; exact ⟨by simp, by simp, fun h5 => by omega⟩
  · rw [r] at h
    unfold guardB at h
    simp only [Bool.and_eq_true, decide_eq_true_iff] at h
    have hb := bare h.1.1.1
    rw [hb]; exact ⟨by simp, by simp, fun _ => by omega⟩
  · rw [r] at h; exact absurd h (by decide)
theorem condB_op {c : Cnd} (h : condB c = true) : 1 ≤ c.op ∧ c.op ≤ 6 := by
  unfold condB at h
  simp only [Bool.and_eq_true, decide_eq_true_iff] at h
  exact h.1.1
/-- how the values, the times and the numbers of a pattern are written, at any world -/
structure Wrs (l : List Nd) (within : Int) : Prop where
  val : ∀ n ∈ l, ∀ c ∈ n.conds, ∀ w', Calls Tryz.prog 90 #[c.v.val] w' fun e w'' => e = .returned (.string ⟨(valT c.v).toArray⟩) ∧ Below w'.heap.size w' w''
  tim : ∀ n ∈ l, n.op = 4 → ∀ w', Calls Tryz.prog 63 #[.int .i64 n.lo, .int .i64 n.hi] w' fun e w'' => e = .returned (.string ⟨(timesT n.lo n.hi).toArray⟩) ∧ Below w'.heap.size w' w''
  num : within ≠ 0 → ∀ w', Calls Tryz.prog 42 #[.int .i64 within] w' fun e w'' => e = .returned (.string ⟨(Lib.itoa within).toArray⟩) ∧ Below w'.heap.size w' w''
  len : (wholeT l within).length ≤ 140737488355328
def showS (l : List Nd) (within : Int) : List UInt8 := if chkI l within = 0 then (if 4096 < (wholeT l within).length then [] else wholeT l within) else []
def showI (l : List Nd) (within : Int) : Int := if chkI l within = 0 then (if 4096 < (wholeT l within).length then 2 else 0) else chkI l within
set_option maxHeartbeats 4000000 in
set_option maxRecDepth 100000 in
theorem chk_any {w : World} {l : List Nd} {na : Option Addr} (nc : Nat) (within : Int) (hl : l.length ≤ 200) (hN : Nods w w.heap.size na l) (hok : ∀ n ∈ l, n.Ok) :
    Calls Tryz.prog 13 #[.agg #[.slice na l.length nc, .int .i64 within]] w fun e w' => e = .returned (.int .i64 (chkI l within)) ∧ Below w.heap.size w w' := by
  obtain ⟨W0, hW0, BW0⟩ : ∃ W0, W0 = w.alloc (.cells #[.slice na l.length nc, .int .i64 within] 24) ∧ Below w.heap.size w W0 := ⟨_, rfl, (Below.refl _ _).alloc (Nat.le_refl _) _⟩
  have hle : w.heap.size ≤ W0.heap.size := BW0.size
  have GA := Lib.hid (grow_any nc within hl ((hN.below BW0).mono hle) hok)
  have HW0 := Lib.hid hW0
  have HB0 := Lib.hid BW0
  clear hW0 BW0 hN hok
  generalize l.length = n at *
  go_enter Tryz.func13, Tryz.ntmps13
  go_wp2_with fail
  rw [← HW0.out]
  (with_reducible refine GA.out.mono ?_)
  rintro e w1 ⟨b1, ⟨c0, Bs, hp, h1, h2, h3, rfl⟩ | ⟨c0, rfl⟩⟩
  · have F := Lib.hid (HB0.out.trans (b1.mono hle))
    have C0 := Lib.hid c0
    clear b1 c0 h1 h2 h3
    unfold ptr
    go_wp2_with fail
    go_ret
    exact ⟨ret_int C0.out.symm, F.out⟩
  · have F := Lib.hid (HB0.out.trans (b1.mono hle))
    clear b1 c0
    go_wp2_with fail
    go_ret
    exact ⟨rfl, F.out⟩
set_option maxHeartbeats 4000000 in
set_option maxRecDepth 100000 in
theorem show_any {w : World} {l : List Nd} {na : Option Addr} (nc : Nat) (within : Int) (hl : l.length ≤ 200) (hN : Nods w w.heap.size na l) (hok : ∀ n ∈ l, n.Ok) (R : chkI l within = 0 → Wrs l within) :
    Calls Tryz.prog 10 #[.agg #[.slice na l.length nc, .int .i64 within]] w fun e w' => e = .returned (.tuple #[.string ⟨(showS l within).toArray⟩, .int .i64 (showI l within)]) ∧ Below w.heap.size w w' := by
  obtain ⟨W0, hW0, BW0, K0⟩ : ∃ W0, W0 = w.alloc (.cells #[.slice na l.length nc, .int .i64 within] 24) ∧ Below w.heap.size w W0 ∧ Blk W0 w.heap.size 24 #[.slice na l.length nc, .int .i64 within] := ⟨_, rfl, (Below.refl _ _).alloc (Nat.le_refl _) _, heap_alloc_new w _⟩
  have hle : w.heap.size ≤ W0.heap.size := BW0.size
  have GA := Lib.hid (grow_any nc within hl ((hN.below BW0).mono hle) hok)
  have FEW := Lib.hid (fun i (h : i < l.length) => (hok _ (List.getElem_mem h)).kids)
  have HW0 := Lib.hid hW0
  have HB0 := Lib.hid BW0
  have HK0 := Lib.hid K0
  have RH := Lib.hid R
  clear hW0 BW0 hN hok K0 R
  obtain ⟨n, hn⟩ : ∃ n, n = l.length := ⟨_, rfl⟩
  have HN := Lib.hid hn
  rw [← hn] at GA HW0 HK0 hl ⊢
  clear hn
  go_enter Tryz.func10, Tryz.ntmps10
  go_wp2_with fail
  rw [← HW0.out]
  (with_reducible refine GA.out.mono ?_)
  rintro e w1 ⟨b1, ⟨c0, Bs, hp, h1, h2, h3, rfl⟩ | ⟨c0, rfl⟩⟩
  · have RR := RH.out c0
    have hB1 : Bs.length = l.length := h1
    have GG : Good l Bs.length := good_of (by rw [hB1]; exact h2) (by omega) FEW.out
    have AA : Wra w1 w1.heap.size l Bs.length := by
      have RC : ∀ i (h : i < l.length), ruleB l l[i] = true := fun i h => (growTo_true h2 h (Nat.le_refl _)).2
      exact ⟨fun i h _ => ⟨(rule_conds (RC i h)).1, fun c hc => condB_op ((rule_conds (RC i h)).2.1 c hc)⟩, fun i h _ c hc w' _ => RR.val _ (List.getElem_mem h) c hc w', fun i h _ ho w' _ => RR.tim _ (List.getElem_mem h) ho w', fun i h _ ho => (rule_conds (RC i h)).2.2 ho⟩
    have TX := Lib.hid (text_any h3 GG hB1 hp AA within (fun hw w' _ => RR.num hw w') RR.len)
    have K1 := HK0.out.below b1
    have y1 : w1.cell? ⟨w.heap.size, 1, none⟩ = some (.int .i64 within) := K1.cell 1
    have F := Lib.hid (HB0.out.trans (b1.mono hle))
    have Z := Lib.hid (show w.heap.size ≤ w1.heap.size from Nat.le_trans hle b1.size)
    have ES := Lib.hid (show showS l within = if 4096 < (wholeT l within).length then [] else wholeT l within from if_pos c0)
    have EI := Lib.hid (show showI l within = if 4096 < (wholeT l within).length then 2 else 0 from if_pos c0)
    generalize Bs[Bs.length - 1] = g at *
    clear b1 c0 h2 h3 RR hB1 GG AA K1 h1 RH
    generalize wholeT l within = tx at *
    unfold ptr at TX
    rw [show ptr g = .pointer (some ⟨g, 0, none⟩) from rfl]
    have hts : (⟨tx.toArray⟩ : ByteArray).size = tx.length := by show tx.toArray.size = _; simp
    have HTS := Lib.hid hts
    clear hts
    by_cases h4 : 4096 < tx.length
    · have ES := Lib.hid (ES.out.trans (if_pos h4))
      have EI := Lib.hid (EI.out.trans (if_pos h4))
      have h4b : decide ((4096 : Int) < (((⟨tx.toArray⟩ : ByteArray).size : Nat) : Int)) = true := decide_eq_true (by rw [HTS.out]; omega)
      have h4I : (4096 : Int) < (((⟨tx.toArray⟩ : ByteArray).size : Nat) : Int) := by rw [HTS.out]; omega
      go_wp2_with fail
      (with_reducible refine TX.out.mono ?_)
      rintro e w2 ⟨rfl, b2⟩
      have F2 := Lib.hid (F.out.trans (b2.mono Z.out))
      clear b2
      generalize (⟨tx.toArray⟩ : ByteArray) = tb at *
      go_wp2_with fail
      go_ret2
      exact ⟨by rw [ES.out, EI.out]; rfl, F2.out⟩
    · have ES := Lib.hid (ES.out.trans (if_neg h4))
      have EI := Lib.hid (EI.out.trans (if_neg h4))
      have h4I : ¬ (4096 : Int) < (((⟨tx.toArray⟩ : ByteArray).size : Nat) : Int) := by rw [HTS.out]; omega
      have h4b : decide ((4096 : Int) < (((⟨tx.toArray⟩ : ByteArray).size : Nat) : Int)) = false := decide_eq_false h4I
      go_wp2_with fail
      (with_reducible refine TX.out.mono ?_)
      rintro e w2 ⟨rfl, b2⟩
      have F2 := Lib.hid (F.out.trans (b2.mono Z.out))
      clear b2 h4I
      go_wp2_with fail
      go_ret2
      exact ⟨by rw [ES.out, EI.out]; rfl, F2.out⟩
  · have F := Lib.hid (HB0.out.trans (b1.mono hle))
    have ES := Lib.hid (show showS l within = [] from if_neg c0)
    have EI := Lib.hid (show showI l within = chkI l within from if_neg c0)
    have cb : (chkI l within == 0) = false := by simpa using c0
    have cb2 : (chkI l within != 0) = true := by simpa using c0
    clear b1 c0
    go_wp2_with fail
    go_ret2
    exact ⟨by rw [ES.out, EI.out]; rfl, F.out⟩
end Go.Proofs.YtkajadkmdcalmaaGreatDoor
/-
  value 90 OF A SMALL NUMBER.
-/
namespace Go.Proofs.YtkajadkmdcalmaaGreatDoor
open Go.RowKit
set_option maxHeartbeats 1000000 in
theorem value_small (n f : Nat) (s : ByteArray) (hn : n < 100) (w : World) :
    Calls Tryz.prog 90 #[(⟨1, n, f, s⟩ : Val).val] w fun e w' => e = .returned (.string ⟨(valT ⟨1, n, f, s⟩).toArray⟩) ∧ Below w.heap.size w w' := by
  obtain ⟨W0, hW0, BW0, K0⟩ : ∃ W0, W0 = w.alloc (.cells #[.int .i64 1, .int .i64 n, .float .f64 f, .string s] 72) ∧ Below w.heap.size w W0 ∧ Blk W0 w.heap.size 72 #[.int .i64 1, .int .i64 n, .float .f64 f, .string s] := ⟨_, rfl, (Below.refl _ _).alloc (Nat.le_refl _) _, heap_alloc_new w _⟩
  have HW0 := Lib.hid hW0
  have c0 : W0.cell? ⟨w.heap.size, 0, none⟩ = some (.int .i64 1) := K0.cell 0
  have c1 : W0.cell? ⟨w.heap.size, 1, none⟩ = some (.int .i64 n) := K0.cell 1
  have HB := Lib.hid BW0
  have VT : valT ⟨1, n, f, s⟩ = Lib.decDigits n := by unfold valT; rw [if_pos rfl, Lib.itoa_nonneg]
  have HV := Lib.hid VT
  clear hW0 K0 BW0 VT
  unfold Val.val
  go_enter Tryz.func90, Tryz.ntmps90
  go_wp2_with fail
  rw [← HW0.out]
  go_wp2_with fail
  (with_reducible refine (Tryz.strconv_Itoa_small n hn W0).mono ?_)
  rintro e w' ⟨rfl, rfl⟩
  go_wp2_with fail
  go_ret
  exact ⟨by rw [HV.out]; rfl, HB.out⟩
end Go.Proofs.YtkajadkmdcalmaaGreatDoor
/-
  small 24: THE EXAMPLE'S PATTERN.
-/
namespace Go.Proofs.YtkajadkmdcalmaaGreatDoor
open Go.RowKit
def smallL : List Nd := [⟨1, ⟨#[97]⟩, [], 0, 0, []⟩, ⟨1, ⟨#[99]⟩, [], 0, 0, []⟩, ⟨5, ⟨#[]⟩, [], 0, 0, [1]⟩, ⟨1, ⟨#[98]⟩, [⟨⟨#[120]⟩, 5, ⟨1, 3, 0, ⟨#[]⟩⟩⟩], 0, 0, []⟩, ⟨2, ⟨#[]⟩, [], 0, 0, [0, 2, 3]⟩]
def smallK (Y : Nat) : Array Value := #[.int .i64 1, .string ⟨#[97]⟩, .slice none 0 0, .int .i64 0, .int .i64 0, .slice none 0 0, .int .i64 1, .string ⟨#[99]⟩, .slice none 0 0, .int .i64 0, .int .i64 0, .slice none 0 0,
  .int .i64 5, .string ⟨#[]⟩, .slice none 0 0, .int .i64 0, .int .i64 0, .slice (some ⟨Y + 1, 0, none⟩) 1 1, .int .i64 1, .string ⟨#[98]⟩, .slice (some ⟨Y + 1 + 1, 0, none⟩) 1 1, .int .i64 0, .int .i64 0, .slice none 0 0,
  .int .i64 2, .string ⟨#[]⟩, .slice none 0 0, .int .i64 0, .int .i64 0, .slice (some ⟨Y + 1 + 1 + 1, 0, none⟩) 3 3]
def smallC : Array Value := #[.string ⟨#[120]⟩, .int .i64 5, .int .i64 1, .int .i64 3, .float .f64 0, .string ⟨#[]⟩]
theorem small_nods {W : World} {Y : Nat} (h1 : Blk W (Y + 1) 3 #[.int .i64 1]) (h2 : Blk W (Y + 1 + 1) 74 smallC) (h3 : Blk W (Y + 1 + 1 + 1) 3 #[.int .i64 0, .int .i64 2, .int .i64 3]) (h4 : Blk W (Y + 1 + 1 + 1 + 1) 43 (smallK Y)) :
    Nods W W.heap.size (some ⟨Y + 1 + 1 + 1 + 1, 0, none⟩) smallL := by
  have n0 : ∀ {B : Nat} {a : Option Addr}, CndsB W B a [] := ⟨fun p hp => absurd hp (Nat.not_lt_zero p), fun _ _ h => absurd h (Nat.not_lt_zero 0)⟩
  have m0 : ∀ {B : Nat} {a : Option Addr}, Nums W B a [] := fun p hp => absurd hp (Nat.not_lt_zero p)
  have N1 : Nums W W.heap.size (some ⟨Y + 1, 0, none⟩) [1] := fun p hp => by
    obtain rfl : p = 0 := by simp only [List.length_cons, List.length_nil] at hp; omega
    exact ⟨Y + 1, 0, rfl, h1.lt, h1.cell 0⟩
  have N3 : Nums W W.heap.size (some ⟨Y + 1 + 1 + 1, 0, none⟩) [0, 2, 3] := fun p hp => by
    obtain rfl | rfl | rfl : p = 0 ∨ p = 1 ∨ p = 2 := by simp only [List.length_cons, List.length_nil] at hp; omega
    · exact ⟨_, 0, rfl, h3.lt, h3.cell 0⟩
    · exact ⟨_, 0, rfl, h3.lt, h3.cell 1⟩
    · exact ⟨_, 0, rfl, h3.lt, h3.cell 2⟩
  have C2 : CndsB W W.heap.size (some ⟨Y + 1 + 1, 0, none⟩) [⟨⟨#[120]⟩, 5, ⟨1, 3, 0, ⟨#[]⟩⟩⟩] := ⟨fun p hp => by
    obtain rfl : p = 0 := by simp only [List.length_cons, List.length_nil] at hp; omega
    exact ⟨_, 0, rfl, h2.lt, h2.cell 0, h2.cell 1, h2.cell 2, h2.cell 3, h2.cell 4, h2.cell 5⟩, fun g o _ e => by injection e with e; injection e with e; rw [← e]; exact h2.lt⟩
  intro p hp
  obtain rfl | rfl | rfl | rfl | rfl : p = 0 ∨ p = 1 ∨ p = 2 ∨ p = 3 ∨ p = 4 := by simp only [smallL, List.length_cons, List.length_nil] at hp; omega
  · exact ⟨_, 0, none, 0, none, 0, rfl, h4.lt, h4.cell 0, h4.cell 1, h4.cell 2, h4.cell 3, h4.cell 4, h4.cell 5, n0, m0⟩
  · exact ⟨_, 0, none, 0, none, 0, rfl, h4.lt, h4.cell 6, h4.cell 7, h4.cell 8, h4.cell 9, h4.cell 10, h4.cell 11, n0, m0⟩
  · exact ⟨_, 0, none, 0, _, 1, rfl, h4.lt, h4.cell 12, h4.cell 13, h4.cell 14, h4.cell 15, h4.cell 16, h4.cell 17, n0, N1⟩
  · exact ⟨_, 0, _, 1, none, 0, rfl, h4.lt, h4.cell 18, h4.cell 19, h4.cell 20, h4.cell 21, h4.cell 22, h4.cell 23, C2, m0⟩
  · exact ⟨_, 0, none, 0, _, 3, rfl, h4.lt, h4.cell 24, h4.cell 25, h4.cell 26, h4.cell 27, h4.cell 28, h4.cell 29, n0, N3⟩
theorem alloc_blk {w W : World} {B : Nat} (hB : Below B w W) (hl : B ≤ W.heap.size) (cs : Array Value) (t : TypeId) : Blk (W.alloc (.cells cs t)) W.heap.size t cs ∧ Below B w (W.alloc (.cells cs t)) ∧ (W.alloc (.cells cs t)).heap.size = W.heap.size + 1 ∧ (∀ g t' cs', Blk W g t' cs' → Blk (W.alloc (.cells cs t)) g t' cs') :=
  ⟨heap_alloc_new W _, hB.alloc hl _, by simp, fun _ _ _ h => h.below ((Below.refl _ W).alloc (Nat.le_refl _) _)⟩
set_option maxHeartbeats 1000000 in
set_option maxRecDepth 100000 in
theorem small_any (w : World) :
    Calls Tryz.prog 24 #[] w fun e w' => ∃ a c, e = .returned (.agg #[.slice a 5 c, .int .i64 9]) ∧ Nods w' w'.heap.size a smallL ∧ Below w.heap.size w w' := by
  have ex : ∃ W, W = ((((w.alloc (.cells #[.slice (some ⟨w.heap.size + 1 + 1 + 1 + 1, 0, none⟩) 5 5, .int .i64 9] 24)).alloc (.cells #[.int .i64 1] 3)).alloc (.cells smallC 74)).alloc (.cells #[.int .i64 0, .int .i64 2, .int .i64 3] 3)).alloc (.cells (smallK w.heap.size) 43) ∧
      Blk W w.heap.size 24 #[.slice (some ⟨w.heap.size + 1 + 1 + 1 + 1, 0, none⟩) 5 5, .int .i64 9] ∧ Nods W W.heap.size (some ⟨w.heap.size + 1 + 1 + 1 + 1, 0, none⟩) smallL ∧ Below w.heap.size w W := by
    obtain ⟨k0, b0, s0, -⟩ := alloc_blk (Below.refl w.heap.size w) (Nat.le_refl _) #[.slice (some ⟨w.heap.size + 1 + 1 + 1 + 1, 0, none⟩) 5 5, .int .i64 9] 24
    generalize w.alloc (.cells #[.slice (some ⟨w.heap.size + 1 + 1 + 1 + 1, 0, none⟩) 5 5, .int .i64 9] 24) = W0 at *
    obtain ⟨k1, b1, s1, f1⟩ := alloc_blk b0 (by omega) #[.int .i64 1] 3
    have k0 := f1 _ _ _ k0
    clear f1
    generalize W0.alloc (.cells #[.int .i64 1] 3) = W1 at *
    obtain ⟨k2, b2, s2, f2⟩ := alloc_blk b1 (by omega) smallC 74
    have k0 := f2 _ _ _ k0
    have k1 := f2 _ _ _ k1
    clear f2
    generalize W1.alloc (.cells smallC 74) = W2 at *
    obtain ⟨k3, b3, s3, f3⟩ := alloc_blk b2 (by omega) #[.int .i64 0, .int .i64 2, .int .i64 3] 3
    have k0 := f3 _ _ _ k0
    have k1 := f3 _ _ _ k1
    have k2 := f3 _ _ _ k2
    clear f3
    generalize W2.alloc (.cells #[.int .i64 0, .int .i64 2, .int .i64 3] 3) = W3 at *
    obtain ⟨k4, b4, s4, f4⟩ := alloc_blk b3 (by omega) (smallK w.heap.size) 43
    have k0 := f4 _ _ _ k0
    have k1 := f4 _ _ _ k1
    have k2 := f4 _ _ _ k2
    have k3 := f4 _ _ _ k3
    clear f4
    rw [s0] at k1 s1
    rw [s1] at k2 s2
    rw [s2] at k3 s3
    rw [s3] at k4 s4
    exact ⟨_, rfl, k0, small_nods k1 k2 k3 k4, b4⟩
  obtain ⟨W, hW, K0, NN, BB⟩ := ex
  have HW := Lib.hid hW
  have HN := Lib.hid NN
  have HB := Lib.hid BB
  have c0 : W.cell? ⟨w.heap.size, 0, none⟩ = some (.slice (some ⟨w.heap.size + 1 + 1 + 1 + 1, 0, none⟩) 5 5) := K0.cell 0
  have c1 : W.cell? ⟨w.heap.size, 1, none⟩ = some (.int .i64 9) := K0.cell 1
  clear hW K0 NN BB
  unfold smallK smallC at HW
  go_enter Tryz.func24, Tryz.ntmps24
  go_wp2_with fail
  rw [← HW.out]
  exact bodyPost_ret (v := .agg #[.slice (some ⟨w.heap.size + 1 + 1 + 1 + 1, 0, none⟩) 5 5, .int .i64 9]) (by simp [results, Tryz.results24, go_sem, c0, c1]) rfl ⟨_, _, rfl, HN.out, HB.out⟩
end Go.Proofs.YtkajadkmdcalmaaGreatDoor
/-
  awake 9.
-/
namespace Go.Proofs.YtkajadkmdcalmaaGreatDoor
open Go.RowKit
theorem cany_nil : CAny ⟨#[]⟩ := fun _ w => by
  have h := Tryz.strings_ContainsAny_laid ⟨#[]⟩ ⟨#[39, 10, 13]⟩ w (by decide) (by decide) (fun j b h => by simp at h) (fun j b h => by
    have : ∀ b ∈ [39, 10, 13], (b : UInt8).toNat < 128 := by decide
    exact this b (List.mem_of_getElem? h))
  rw [show (!noQ ⟨#[]⟩) = Lib.containsAny (ByteArray.mk #[]).data.toList (ByteArray.mk #[39, 10, 13]).data.toList by decide +kernel]
  exact h
theorem small_ok : ∀ n ∈ smallL, n.Ok := by
  have e : ∀ n ∈ smallL, n.kind.size ≤ 281474976710656 ∧ n.conds.length ≤ 100 ∧ n.kids.length ≤ 200 := by decide
  intro n hn
  obtain ⟨h1, h2, h3⟩ := e n hn
  refine ⟨h1, h2, h3, ?_⟩
  intro c hc
  have hc' : c = ⟨⟨#[120]⟩, 5, ⟨1, 3, 0, ⟨#[]⟩⟩⟩ := by
    simp only [smallL, List.mem_cons, List.not_mem_nil, or_false] at hn
    obtain rfl | rfl | rfl | rfl | rfl := hn <;> simp at hc
    exact hc
  subst hc'
  exact ⟨⟨by decide, by decide, by decide, by decide⟩, cany_nil⟩
theorem chk_small : chkI smallL 9 = 0 := by decide +kernel
theorem whole_small : wholeT smallL 9 = [97, 32, 59, 32, 33, 99, 32, 59, 32, 98, 91, 120, 62, 51, 93, 32, 119, 105, 116, 104, 105, 110, 32, 57] := by decide +kernel
theorem chk_none : chkI [] 0 = 100 := by decide +kernel
theorem small_wrs : Wrs smallL 9 where
  val := fun n hn c hc w' => by
    have hc' : c = ⟨⟨#[120]⟩, 5, ⟨1, 3, 0, ⟨#[]⟩⟩⟩ := by
      simp only [smallL, List.mem_cons, List.not_mem_nil, or_false] at hn
      obtain rfl | rfl | rfl | rfl | rfl := hn <;> simp at hc
      exact hc
    subst hc'
    exact value_small 3 0 ⟨#[]⟩ (by decide) w'
  tim := fun n hn h4 => absurd h4 (by revert n; decide)
  num := fun _ w' => (Tryz.strconv_Itoa_small 9 (by decide) w').mono fun e w'' ⟨he, hw⟩ => ⟨by rw [he]; rw [show (9 : Int) = ((9 : Nat) : Int) from rfl, Lib.itoa_nonneg], by rw [hw]; exact Below.refl _ _⟩
  len := by rw [whole_small]; decide
theorem show_small : showS smallL 9 = [97, 32, 59, 32, 33, 99, 32, 59, 32, 98, 91, 120, 62, 51, 93, 32, 119, 105, 116, 104, 105, 110, 32, 57] := by
  unfold showS; rw [if_pos chk_small, whole_small]; rfl
theorem shows_small : showI smallL 9 = 0 := by unfold showI; rw [if_pos chk_small, whole_small]; rfl
end Go.Proofs.YtkajadkmdcalmaaGreatDoor
/-
  awake 9, the walk.
-/
namespace Go.Proofs.YtkajadkmdcalmaaGreatDoor
open Go.RowKit
theorem show24 {w : World} {a : Option Addr} (c : Nat) (hN : Nods w w.heap.size a smallL) :
    Calls Tryz.prog 10 #[.agg #[.slice a 5 c, .int .i64 9]] w fun e w' => e = .returned (.tuple #[.string ⟨#[97, 32, 59, 32, 33, 99, 32, 59, 32, 98, 91, 120, 62, 51, 93, 32, 119, 105, 116, 104, 105, 110, 32, 57]⟩, .int .i64 0]) ∧ Below w.heap.size w w' := by
  have h := show_any (w := w) (l := smallL) (na := a) c 9 (by decide) hN small_ok (fun _ => small_wrs)
  rw [show_small, shows_small] at h
  exact h
theorem chk24 {w : World} {a : Option Addr} (c : Nat) (hN : Nods w w.heap.size a smallL) :
    Calls Tryz.prog 13 #[.agg #[.slice a 5 c, .int .i64 9]] w fun e w' => e = .returned (.int .i64 0) ∧ Below w.heap.size w w' := by
  have h := chk_any (w := w) (l := smallL) (na := a) c 9 (by decide) hN small_ok
  rw [chk_small] at h
  exact h
theorem chk_nil (w : World) :
    Calls Tryz.prog 13 #[.agg #[.slice none 0 0, .int .i64 0]] w fun e w' => e = .returned (.int .i64 100) ∧ Below w.heap.size w w' := by
  have h := chk_any (w := w) (l := []) (na := none) 0 0 (by decide) (fun p hp => absurd hp (Nat.not_lt_zero p)) (fun n hn => absurd hn List.not_mem_nil)
  rw [chk_none] at h
  exact h
set_option maxHeartbeats 1000000 in
set_option maxRecDepth 100000 in
theorem awake_any (w : World) : Calls Tryz.prog 9 #[] w fun e w' => e = .returned (.bool true) ∧ Below w.heap.size w w' := by
  go_enter Tryz.func9, Tryz.ntmps9
  go_wp2_with fail
  (with_reducible refine (small_any w).mono ?_)
  rintro e w1 ⟨a, c, rfl, N1, B1⟩
  go_wp2_with fail
  (with_reducible refine (show24 c N1).mono ?_)
  rintro e w2 ⟨rfl, B2⟩
  go_wp2_with fail
  (with_reducible refine (small_any w2).mono ?_)
  rintro e w3 ⟨a3, c3, rfl, N3, B3⟩
  go_wp2_with fail
  (with_reducible refine (chk24 c3 N3).mono ?_)
  rintro e w4 ⟨rfl, B4⟩
  go_wp2_with fail
  (with_reducible refine (chk_nil w4).mono ?_)
  rintro e w5 ⟨rfl, B5⟩
  go_wp2_with fail
  go_ret
  refine ⟨rfl, ?_⟩
  have h2 := B1.trans (B2.mono B1.size)
  have h3 := h2.trans (B3.mono h2.size)
  have h4 := h3.trans (B4.mono h3.size)
  exact h4.trans (B5.mono h4.size)
end Go.Proofs.YtkajadkmdcalmaaGreatDoor
/-
  A STRING IS COPIED: strings.Clone.
-/
namespace Go.Proofs.YtkajadkmdcalmaaGreatDoor
open Go.RowKit
theorem info5 : (Tryz.prog.info? 5).map (fun i => (i.zero, i.size, i.bytes)) = some (some (.int .u8 0), 1, 1) := by kernel_rfl
set_option maxHeartbeats 4000000 in
set_option maxRecDepth 100000 in
theorem lite_clone (s : ByteArray) (w : World) (hlim : s.size ≤ 281474976710656) : Calls Tryz.prog 71 #[.string s] w fun e w' => e = .returned (.string s) ∧ Below w.heap.size w w' := by
  by_cases h0 : s.size = 0
  · have hs : s = ⟨#[]⟩ := ByteArray.ext (Array.eq_empty_of_size_eq_zero h0)
    subst hs
    go_enter Tryz.func71, Tryz.ntmps71
    go_wp2_with fail
    go_ret
    exact ⟨rfl, Below.refl _ _⟩
  · obtain ⟨i0, hi, hz0, hz1, hz2⟩ := info_parts info5
    have hinfo : (Tryz.prog.info? 5).map (·.size) = some 1 := by rw [hi]; simp [hz1]
    have hco : Tryz.prog.cellsOf 5 = 1 := by simp [Program.cellsOf, hi, hz1]
    obtain ⟨M, hM⟩ : ∃ M, M = madeCells (Value.int .u8 0).cells (((s.size : Nat) : Int).toNat * i0.size) := ⟨_, rfl⟩
    have hMs : M.size = s.size := by rw [hM, size_madeCells, hz1]; simp
    have hmk : ∀ W : World, (Instr.makeSlice 97 (.int .i64 (s.size : Int)) (.int .i64 (s.size : Int))).run Tryz.prog W = .ok (.slice (some ⟨W.heap.size, 0, none⟩) s.size s.size) (W.alloc (.cells M 5)) := fun W => by
      have h := run_make (P := Tryz.prog) W 97 5 i0 (.int .u8 0) Tryz.underlying97 hi hz0 .i64 .i64 (s.size : Int) (s.size : Int) (by omega) (by omega) (by rw [hz2]; omega) (by omega)
      rw [← hM] at h
      simpa using h
    clear hM
    have hcp := Lib.run_copy_row_string (P := Tryz.prog) (w.alloc (.cells M 5)) 97 9 3 5 w.heap.size 0 s.size s.size s M 5 Tryz.underlying97 hinfo (heap_alloc_new w _) (Nat.le_refl _) (by omega)
    obtain ⟨Y, hY⟩ : ∃ Y, Y = (M.toList.take 0 ++ Lib.byteCells s.data.toList ++ M.toList.drop (0 + s.size)).toArray := ⟨_, rfl⟩
    rw [← hY] at hcp
    have hYl : Y.toList = Lib.byteCells s.data.toList := by
      rw [hY, List.toList_toArray, List.take_zero, List.nil_append, List.drop_of_length_le (by rw [Array.length_toList]; omega), List.append_nil]
    have hYs : Y.size = s.size := by rw [← Array.length_toList, hYl, Lib.byteCells_length, ← Lib.size_eq]
    have hgY : ((w.alloc (.cells M 5)).setRow w.heap.size Y).heap[w.heap.size]? = some (.cells Y 5 (0, 0)) := setRow_heap _ _ M _ 5 (0, 0) (heap_alloc_new w _)
    have hne : s.data.toList ≠ [] := fun e => h0 (by rw [Lib.size_eq, e]; rfl)
    have hUS := Lib.run_unsafeString_row (P := Tryz.prog) ((w.alloc (.cells M 5)).setRow w.heap.size Y) 120 3 9 5 Tryz.underlying120 hco w.heap.size Y.size (by unfold World.shape?; rw [hgY]) s.data.toList hne (by rw [← Lib.size_eq]; omega) (by
      rw [← Lib.size_eq]; omega) (fun j x hx => Lib.cells_of_row hgY Y.size j _ (by rw [List.take_of_length_le (by rw [Array.length_toList]; exact Nat.le_refl _), hYl]; simp [Lib.byteCells, hx]))
    rw [← Lib.size_eq] at hUS
    clear hY
    go_enter Tryz.func71, Tryz.ntmps71
    go_wp2_with fail
    go_ret
    have hb1 : Below w.heap.size w (w.alloc (.cells M 5)) := (Below.refl _ w).alloc (Nat.le_refl _) _
    have hb2 : Below w.heap.size (w.alloc (.cells M 5)) ((w.alloc (.cells M 5)).setRow w.heap.size Y) := ⟨rfl, rfl, rfl, by simp, fun k hk => setRow_other _ _ _ _ (by omega)⟩
    exact ⟨rfl, Lib.below_freeze (hb1.trans hb2) (p := ⟨w.heap.size, 0, none⟩) (Nat.le_refl _) _⟩
theorem str_clone (s : ByteArray) (w : World) (hlim : s.size ≤ 281474976710656) : Calls Tryz.prog 48 #[.string s] w fun e w' => e = .returned (.string s) ∧ Below w.heap.size w w' := by
  go_enter Tryz.func48, Tryz.ntmps48
  go_wp2_with fail
  refine (lite_clone s w hlim).mono ?_
  rintro e w1 ⟨rfl, b1⟩
  go_wp2_with fail
  go_ret
  exact ⟨rfl, b1⟩
end Go.Proofs.YtkajadkmdcalmaaGreatDoor
/-
  THE WALK OF event.Get.
-/
namespace Go.Proofs.YtkajadkmdcalmaaGreatDoor
open Go.RowKit
set_option maxHeartbeats 1000000 in
set_option maxRecDepth 100000 in
theorem get_any (a b c : Int) (k s : ByteArray) (p : Option Addr) (cp : Nat) (L : List Fld) (w : World) (hl : L.length ≤ 100) (hx : Flds w p L) (hS : ∀ x ∈ L, x.v.s.size ≤ 281474976710656) :
    Calls Tryz.prog 31 #[evV a b c k (.slice p L.length cp), .string s] w fun e w' => e = .returned (.tuple #[(optV (findF L s)).val, .bool (findF L s).isSome]) ∧ Below w.heap.size w w' := by
  obtain ⟨w2, hw2, K0, K1, B2, hs2⟩ : ∃ w2, w2 = (w.alloc (.cells #[.int .i64 a, .int .i64 b, .int .i64 c, .string k, .slice p L.length cp] 46)).alloc (.cells #[.int .i64 0, .int .i64 0, .float .f64 0, .string ⟨#[]⟩] 72) ∧
      Blk w2 w.heap.size 46 #[.int .i64 a, .int .i64 b, .int .i64 c, .string k, .slice p L.length cp] ∧ Blk w2 (w.heap.size + 1) 72 #[.int .i64 0, .int .i64 0, .float .f64 0, .string ⟨#[]⟩] ∧ Below w.heap.size w w2 ∧ w2.heap.size = w.heap.size + 2 := by
    have B1 := (Below.refl w.heap.size w).alloc (Nat.le_refl _) (.cells #[.int .i64 a, .int .i64 b, .int .i64 c, .string k, .slice p L.length cp] 46)
    have e1 : Blk (w.alloc (.cells #[.int .i64 a, .int .i64 b, .int .i64 c, .string k, .slice p L.length cp] 46)) w.heap.size 46 #[.int .i64 a, .int .i64 b, .int .i64 c, .string k, .slice p L.length cp] := heap_alloc_new w _
    have h1 : (w.alloc (.cells #[.int .i64 a, .int .i64 b, .int .i64 c, .string k, .slice p L.length cp] 46)).heap.size = w.heap.size + 1 := by simp
    generalize w.alloc (.cells #[.int .i64 a, .int .i64 b, .int .i64 c, .string k, .slice p L.length cp] 46) = w1 at *
    have b2 := (Below.refl w1.heap.size w1).alloc (Nat.le_refl _) (.cells #[.int .i64 0, .int .i64 0, .float .f64 0, .string ⟨#[]⟩] 72)
    have e2 : Blk (w1.alloc (.cells #[.int .i64 0, .int .i64 0, .float .f64 0, .string ⟨#[]⟩] 72)) w1.heap.size 72 #[.int .i64 0, .int .i64 0, .float .f64 0, .string ⟨#[]⟩] := heap_alloc_new w1 _
    rw [h1] at e2
    exact ⟨_, rfl, e1.below b2, e2, B1.trans (b2.mono (by omega)), by simp; omega⟩
  have X2h := Lib.hid hx
  have HS := Lib.hid hS
  generalize hn : L.length = n at *
  have HN := Lib.hid hn
  have W2 := Lib.hid hw2
  have B2h := Lib.hid B2
  have K1h := Lib.hid K1
  have e4 : w2.cell? ⟨w.heap.size, 4, none⟩ = some (.slice p n cp) := K0.cell 4
  clear hn hw2 B2 K0 K1 hx hS
  generalize hy : w.heap.size = Y at *
  unfold evV
  go_enter Tryz.func31, Tryz.ntmps31
  go_wp2_with fail
  rw [← W2.out]
  go_wp2_with fail
  go_loopw [11] (fun i wq => ∃ j : Nat, i = .int .i64 j ∧ j ≤ n ∧ Hid (findF (L.take j) s = none) ∧ Blk wq (Y + 1) 72 #[.int .i64 0, .int .i64 0, .float .f64 0, .string ⟨#[]⟩] ∧ Below Y w wq) (fun i _ => n - (intOf i).toNat)
  case atStart => exact ⟨0, rfl, Nat.zero_le _, Lib.hid rfl, K1h.out, B2h.out⟩
  case round =>
    obtain ⟨j, rfl, hj, hf, hK, hB⟩ := hrel
    have HK := Lib.hid hK
    have HB := Lib.hid hB
    clear hK hB
    by_cases hjn : j < n
    · have hjL : j < L.length := by rw [HN.out]; exact hjn
      obtain ⟨g0, o, rfl, hg0, c0, c1, c2, c3, c4⟩ := X2h.out j hjL
      have hgY : g0 < Y := by rw [← hy]; exact hg0
      rw [← HB.out.cell (p := ⟨g0, _, none⟩) hgY] at c0 c1 c2 c3 c4
      have FT := Lib.hid (findF_take hjL hf.out)
      have FA := Lib.hid (findF_at hjL hf.out)
      have SZ := HS.out L[j] (List.getElem_mem hjL)
      generalize L[j] = x at *
      obtain ⟨xn, xk, xm, xf, xs⟩ := x
      simp only at c0 c1 c2 c3 c4 FT FA SZ
      obtain ⟨w3, hw3, N3, B3, K3⟩ : ∃ w3, w3 = wr.alloc (.cells #[.string xn, .int .i64 xk, .int .i64 xm, .float .f64 xf, .string xs] 85) ∧ Blk w3 wr.heap.size 85 #[.string xn, .int .i64 xk, .int .i64 xm, .float .f64 xf, .string xs] ∧ Below wr.heap.size wr w3 ∧ Blk w3 (Y + 1) 72 #[.int .i64 0, .int .i64 0, .float .f64 0, .string ⟨#[]⟩] :=
        ⟨_, rfl, heap_alloc_new wr _, (Below.refl _ wr).alloc (Nat.le_refl _) _, HK.out.below ((Below.refl _ wr).alloc (Nat.le_refl _) _)⟩
      have W3 := Lib.hid hw3
      have B3h : Hid (Below Y w w3) := Lib.hid (HB.out.trans (B3.mono (by have := HB.out.size; omega)))
      have K3h := Lib.hid K3
      have N3h := Lib.hid N3
      clear hw3 N3 B3 K3
      by_cases he : xn = s
      · have E1 : (xn.toList == s.toList) = true := by rw [str_eq]; exact decide_eq_true he
        have F5 := Lib.hid (FA.out he)
        have CL := Lib.hid (fun w => str_clone xs w SZ)
        clear he FT FA SZ
        have hYl : Y + 1 < wr.heap.size := HK.out.lt
        go_wp2_with fail
        rw [← W3.out]
        refine (CL.out _).mono ?_
        rintro e w4 ⟨rfl, b4⟩
        have N4 := N3h.out.below b4
        have K4 := K3h.out.below b4
        have B4 : Below Y w w4 := B3h.out.trans (b4.mono (by have := B3h.out.size; omega))
        have n4 : w4.cell? ⟨wr.heap.size, 4, none⟩ = some (.string xs) := N4.cell 4
        have nf := N4.free 4
        obtain ⟨w5, hw5, N5, K5, B5⟩ : ∃ w5, w5 = w4.setCell ⟨wr.heap.size, 4, none⟩ (.string xs) ∧ Blk w5 wr.heap.size 85 #[.string xn, .int .i64 xk, .int .i64 xm, .float .f64 xf, .string xs] ∧ Blk w5 (Y + 1) 72 #[.int .i64 0, .int .i64 0, .float .f64 0, .string ⟨#[]⟩] ∧ Below Y w w5 :=
          ⟨_, rfl, heap_setCell_same w4 wr.heap.size 4 _ 85 (.string xs) N4, (Below.heap_setCell _ _ _ _ (by show Y + 1 ≠ wr.heap.size; omega)).trans K4, B4.setCell (p := ⟨wr.heap.size, 4, none⟩) (by show Y ≤ wr.heap.size; omega) _⟩
        have W5 := Lib.hid hw5
        obtain ⟨W6, hW6, R6, B6⟩ := val_stored (w := w) (show Y ≤ Y + 1 from Nat.le_succ Y) ⟨xk, xm, xf, xs⟩ K5 rfl B5
        have W6h := Lib.hid hW6
        have R6h := Lib.hid R6
        have B6h := Lib.hid B6
        have m1 : w4.cell? ⟨wr.heap.size, 1, none⟩ = some (.int .i64 xk) := N4.cell 1
        have m2 : w4.cell? ⟨wr.heap.size, 2, none⟩ = some (.int .i64 xm) := N4.cell 2
        have m3 : w4.cell? ⟨wr.heap.size, 3, none⟩ = some (.float .f64 xf) := N4.cell 3
        have z0 : w4.cell? ⟨Y + 1, 0, none⟩ = some (.int .i64 0) := K4.cell 0
        have z1 : w4.cell? ⟨Y + 1, 1, none⟩ = some (.int .i64 0) := K4.cell 1
        have z2 : w4.cell? ⟨Y + 1, 2, none⟩ = some (.float .f64 0) := K4.cell 2
        have z3 : w4.cell? ⟨Y + 1, 3, none⟩ = some (.string ⟨#[]⟩) := K4.cell 3
        have f0 := K4.free 0
        have f1 := K4.free 1
        have f2 := K4.free 2
        have f3 := K4.free 3
        have hne : ¬ (Y + 1 = wr.heap.size) := by omega
        have hne2 : ¬ (wr.heap.size = Y + 1) := by omega
        clear hw5 N4 K4 B4 N5 K5 B5 b4 hW6 R6 B6 c0 c1 c2 c3 c4
        go_wp2_with fail
        rw [← W5.out, ← W6h.out]
        have q0 : W6.cell? ⟨Y + 1, 0, none⟩ = some (.int .i64 xk) := R6h.out.cell 0
        have q1 : W6.cell? ⟨Y + 1, 1, none⟩ = some (.int .i64 xm) := R6h.out.cell 1
        have q2 : W6.cell? ⟨Y + 1, 2, none⟩ = some (.float .f64 xf) := R6h.out.cell 2
        have q3 : W6.cell? ⟨Y + 1, 3, none⟩ = some (.string xs) := R6h.out.cell 3
        refine bodyPost_ret (by simp [results, Tryz.results31, go_sem, q0, q1, q2, q3]; try rfl) rfl ?_
        exact ⟨by rw [F5.out]; rfl, hy ▸ B6h.out⟩
      · have E1 : (xn.toList == s.toList) = false := by rw [str_eq]; exact decide_eq_false he
        have F5 := Lib.hid (FT.out.trans (if_neg he))
        clear he FT FA SZ
        go_wp2_with fail
        rw [← W3.out]
        go_roundw
        case rel => exact ⟨j + 1, by go_num, by omega, F5, K3h.out, B3h.out⟩
        case measure => simp [intOf]; omega
    · obtain rfl : j = n := by omega
      have F5 : Hid (findF L s = none) := Lib.hid (by
        have := hf.out
        rw [← HN.out, List.take_of_length_le (Nat.le_refl _)] at this
        exact this)
      obtain ⟨W5, hW5, R5, B5⟩ := val_stored (w := w) (Nat.le_succ Y) v0 HK.out rfl HB.out
      unfold v0 at hW5 R5
      simp only at hW5 R5
      have W5h := Lib.hid hW5
      have R5h := Lib.hid R5
      have B5h := Lib.hid B5
      have z0 : wr.cell? ⟨Y + 1, 0, none⟩ = some (.int .i64 0) := HK.out.cell 0
      have z1 : wr.cell? ⟨Y + 1, 1, none⟩ = some (.int .i64 0) := HK.out.cell 1
      have z2 : wr.cell? ⟨Y + 1, 2, none⟩ = some (.float .f64 0) := HK.out.cell 2
      have z3 : wr.cell? ⟨Y + 1, 3, none⟩ = some (.string ⟨#[]⟩) := HK.out.cell 3
      have f0 := HK.out.free 0
      have f1 := HK.out.free 1
      have f2 := HK.out.free 2
      have f3 := HK.out.free 3
      clear hW5 R5 B5 hf
      go_wp2_with fail
      rw [← W5h.out]
      have q0 : W5.cell? ⟨Y + 1, 0, none⟩ = some (.int .i64 0) := R5h.out.cell 0
      have q1 : W5.cell? ⟨Y + 1, 1, none⟩ = some (.int .i64 0) := R5h.out.cell 1
      have q2 : W5.cell? ⟨Y + 1, 2, none⟩ = some (.float .f64 0) := R5h.out.cell 2
      have q3 : W5.cell? ⟨Y + 1, 3, none⟩ = some (.string ⟨#[]⟩) := R5h.out.cell 3
      refine bodyPost_ret (by simp [results, Tryz.results31, go_sem, q0, q1, q2, q3]; try rfl) rfl ?_
      exact ⟨by rw [F5.out]; rfl, hy ▸ B5h.out⟩
end Go.Proofs.YtkajadkmdcalmaaGreatDoor
