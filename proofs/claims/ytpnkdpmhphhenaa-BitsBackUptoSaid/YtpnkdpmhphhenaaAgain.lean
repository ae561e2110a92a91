/-
  THE WALK OF again: a thing that was written is read.
-/
import Derived.Test.YtpnkdpmhphhenaaOneLaw
import Derived.Test.YtpnkdpmhphhenaaMeths
import Derived.Test.YtpnkdpmhphhenaaWas
import Derived.Deep.RegionHeld3
namespace Go.Proofs.Ytpnkdpmhphhenaa
open Go.RowKit Go.Sort
section
variable {w w' : World} {X b : Nat} {k n m : Int} {f : Nat} {s : ByteArray} {c : Bool}
theorem ThingAt.d1 (h : ThingAt w X k n m f s c) : w.cell? ⟨X, 1, none⟩ = some (.int .u64 n) := by unfold ThingAt at h; simp [World.cell?, h]
theorem ThingAt.d2 (h : ThingAt w X k n m f s c) : w.cell? ⟨X, 2, none⟩ = some (.int .i64 m) := by unfold ThingAt at h; simp [World.cell?, h]
theorem ThingAt.d3 (h : ThingAt w X k n m f s c) : w.cell? ⟨X, 3, none⟩ = some (.float .f64 f) := by unfold ThingAt at h; simp [World.cell?, h]
theorem ThingAt.d4 (h : ThingAt w X k n m f s c) : w.cell? ⟨X, 4, none⟩ = some (.string s) := by unfold ThingAt at h; simp [World.cell?, h]
theorem ThingAt.d5 (h : ThingAt w X k n m f s c) : w.cell? ⟨X, 5, none⟩ = some (.bool c) := by unfold ThingAt at h; simp [World.cell?, h]
/-- what again reads -/
def Th (w : World) (b X : Nat) (k n m : Int) (f : Nat) (s : ByteArray) (c : Bool) : Prop := ThingAt w X k n m f s c ∧ X ≠ b
abbrev TT (b X : Nat) (k n m : Int) (f : Nat) (s : ByteArray) (c : Bool) (w : World) : Prop := w.cell? ⟨X, 1, none⟩ = some (.int .u64 n) ∧ w.cell? ⟨X, 2, none⟩ = some (.int .i64 m) ∧ w.cell? ⟨X, 3, none⟩ = some (.float .f64 f) ∧ w.cell? ⟨X, 4, none⟩ = some (.string s) ∧ w.cell? ⟨X, 5, none⟩ = some (.bool c) ∧ Th w b X k n m f s c
theorem Th.all (h : Th w b X k n m f s c) : TT b X k n m f s c w := ⟨h.1.d1, h.1.d2, h.1.d3, h.1.d4, h.1.d5, h⟩
theorem keepG (hg : w.grownBy w' (some b)) (h : Th w b X k n m f s c) : TT b X k n m f s c w' := by
  refine Th.all ⟨?_, h.2⟩
  have hl := h.1.lt
  have h1 := h.1
  unfold ThingAt at *
  rw [hg.block X hl (by simpa using h.2)]; exact h1
theorem keepG2 (hg : w.grownBy w' (some b)) (h : TT b X k n m f s c w) : TT b X k n m f s c w' := keepG hg h.2.2.2.2.2
theorem keepW (h : Th w b X k n m f s c) : TT b X k n m f s c w.drew := by
  have h2 : Th w.drew b X k n m f s c := h
  exact h2.all
end
set_option maxHeartbeats 4000000 in
theorem again_num {w : World} {b : Nat} {r rest : ByteArray} {k n m : Int} {f : Nat} {s : ByteArray} {c : Bool} (h : TapeAt w b r 0) (hr : r.size ≤ 281474976710656) (k0 : 0 ≤ k) (k1 : k < 256) (hk : k % 5 = 0) (N : Nat) (hN : n = (N : Int)) (ht : tNum r 0 = (N, rest, 0)) :
    Calls Try.prog 28 #[.pointer (some ⟨b, 0, none⟩), .agg #[.int .u8 k, .int .u64 n, .int .i64 m, .float .f64 f, .string s, .bool c]] w fun e w' => e = .returned (.bool true) ∧ w.grownBy w' (some b) ∧ TapeAt w' b rest 0 := by
  subst hN
  have hb := h.lt
  have HB := Lib.hid (fun (w : World) (h : TapeAt w b r 0) => tapeNum_any h hr)
  rw [ht] at HB
  unfold vNum at HB
  simp only at HB
  clear ht
  go_enter Try.func28, Try.ntmps28
  go_wp2_with fail
  obtain ⟨W, hW, hX, hTW, bW⟩ : ∃ W, W = w.alloc (.cells #[.int .u8 k, .int .u64 (N : Int), .int .i64 m, .float .f64 f, .string s, .bool c] 48) ∧ Th W b w.heap.size k (N : Int) m f s c ∧ TapeAt W b r 0 ∧ Below w.heap.size w W := by
    refine ⟨_, rfl, ⟨?_, by omega⟩, h.next ((Below.refl _ w).alloc (Nat.le_refl _) _), (Below.refl _ w).alloc (Nat.le_refl _) _⟩
    unfold ThingAt; simp [World.alloc, -World.alloc_eq]
  rw [← hW]
  clear hW
  have hTd : TapeAt W.drew b r 0 := hTW
  go_region_held3 (fun w' => w'.cell? ⟨w.heap.size, 1, none⟩ = some (.int .u64 (N : Int)) ∧ w'.cell? ⟨w.heap.size, 2, none⟩ = some (.int .i64 m) ∧ w'.cell? ⟨w.heap.size, 3, none⟩ = some (.float .f64 f) ∧ w'.cell? ⟨w.heap.size, 4, none⟩ = some (.string s) ∧ w'.cell? ⟨w.heap.size, 5, none⟩ = some (.bool c) ∧ Th w' b w.heap.size k (N : Int) m f s c)
    (first | assumption | exact keepW (by assumption) | exact keepG (by assumption) (by assumption) | exact keepG2 (by assumption) (by assumption))
    (first | ((go_at_call 30; refine (HB.out _ (by assumption)).mono ?_; rintro r w4 ⟨rfl, g4, t4⟩)))
  go_wp2_with fail
  go_ret
  exact ⟨rfl, ((grownBy_below bW (some b)).trans (grownBy_below ((Below.refl _ W).drew) (some b))).trans g4, t4⟩
set_option maxHeartbeats 4000000 in
theorem again_int {w : World} {b : Nat} {r rest : ByteArray} {k n m : Int} {f : Nat} {s : ByteArray} {c : Bool} (h : TapeAt w b r 0) (hr : r.size ≤ 281474976710656) (k0 : 0 ≤ k) (k1 : k < 256) (hk : k % 5 = 1) (ht : tInt r 0 = (m, rest, 0)) :
    Calls Try.prog 28 #[.pointer (some ⟨b, 0, none⟩), .agg #[.int .u8 k, .int .u64 n, .int .i64 m, .float .f64 f, .string s, .bool c]] w fun e w' => e = .returned (.bool true) ∧ w.grownBy w' (some b) ∧ TapeAt w' b rest 0 := by
  have hb := h.lt
  have HB := Lib.hid (fun (w : World) (h : TapeAt w b r 0) => tapeInt_any h hr)
  rw [ht] at HB
  unfold vInt at HB
  simp only at HB
  clear ht
  go_enter Try.func28, Try.ntmps28
  go_wp2_with fail
  obtain ⟨W, hW, hX, hTW, bW⟩ : ∃ W, W = w.alloc (.cells #[.int .u8 k, .int .u64 n, .int .i64 m, .float .f64 f, .string s, .bool c] 48) ∧ Th W b w.heap.size k n m f s c ∧ TapeAt W b r 0 ∧ Below w.heap.size w W := by
    refine ⟨_, rfl, ⟨?_, by omega⟩, h.next ((Below.refl _ w).alloc (Nat.le_refl _) _), (Below.refl _ w).alloc (Nat.le_refl _) _⟩
    unfold ThingAt; simp [World.alloc, -World.alloc_eq]
  rw [← hW]
  clear hW
  have hTd : TapeAt W.drew b r 0 := hTW
  go_region_held3 (fun w' => w'.cell? ⟨w.heap.size, 1, none⟩ = some (.int .u64 n) ∧ w'.cell? ⟨w.heap.size, 2, none⟩ = some (.int .i64 m) ∧ w'.cell? ⟨w.heap.size, 3, none⟩ = some (.float .f64 f) ∧ w'.cell? ⟨w.heap.size, 4, none⟩ = some (.string s) ∧ w'.cell? ⟨w.heap.size, 5, none⟩ = some (.bool c) ∧ Th w' b w.heap.size k n m f s c)
    (first | assumption | exact keepW (by assumption) | exact keepG (by assumption) (by assumption) | exact keepG2 (by assumption) (by assumption))
    (first | ((go_at_call 31; refine (HB.out _ (by assumption)).mono ?_; rintro r w4 ⟨rfl, g4, t4⟩)))
  go_wp2_with fail
  go_ret
  exact ⟨rfl, ((grownBy_below bW (some b)).trans (grownBy_below ((Below.refl _ W).drew) (some b))).trans g4, t4⟩
set_option maxHeartbeats 4000000 in
theorem again_flag {w : World} {b : Nat} {r rest : ByteArray} {k n m : Int} {f : Nat} {s : ByteArray} {c : Bool} (h : TapeAt w b r 0) (hr : r.size ≤ 281474976710656) (k0 : 0 ≤ k) (k1 : k < 256) (hk : k % 5 = 4) (ht : tFlag r 0 = (c, rest, 0)) :
    Calls Try.prog 28 #[.pointer (some ⟨b, 0, none⟩), .agg #[.int .u8 k, .int .u64 n, .int .i64 m, .float .f64 f, .string s, .bool c]] w fun e w' => e = .returned (.bool true) ∧ w.grownBy w' (some b) ∧ TapeAt w' b rest 0 := by
  have hb := h.lt
  have HB := Lib.hid (fun (w : World) (h : TapeAt w b r 0) => tapeFlag_any h hr)
  rw [ht] at HB
  unfold vFlag at HB
  simp only at HB
  clear ht
  go_enter Try.func28, Try.ntmps28
  go_wp2_with fail
  obtain ⟨W, hW, hX, hTW, bW⟩ : ∃ W, W = w.alloc (.cells #[.int .u8 k, .int .u64 n, .int .i64 m, .float .f64 f, .string s, .bool c] 48) ∧ Th W b w.heap.size k n m f s c ∧ TapeAt W b r 0 ∧ Below w.heap.size w W := by
    refine ⟨_, rfl, ⟨?_, by omega⟩, h.next ((Below.refl _ w).alloc (Nat.le_refl _) _), (Below.refl _ w).alloc (Nat.le_refl _) _⟩
    unfold ThingAt; simp [World.alloc, -World.alloc_eq]
  rw [← hW]
  clear hW
  have hTd : TapeAt W.drew b r 0 := hTW
  go_region_held3 (fun w' => w'.cell? ⟨w.heap.size, 1, none⟩ = some (.int .u64 n) ∧ w'.cell? ⟨w.heap.size, 2, none⟩ = some (.int .i64 m) ∧ w'.cell? ⟨w.heap.size, 3, none⟩ = some (.float .f64 f) ∧ w'.cell? ⟨w.heap.size, 4, none⟩ = some (.string s) ∧ w'.cell? ⟨w.heap.size, 5, none⟩ = some (.bool c) ∧ Th w' b w.heap.size k n m f s c)
    (first | assumption | exact keepW (by assumption) | exact keepG (by assumption) (by assumption) | exact keepG2 (by assumption) (by assumption))
    (first | ((go_at_call 34; refine (HB.out _ (by assumption)).mono ?_; rintro r w4 ⟨rfl, g4, t4⟩)))
  go_wp2_with fail
  go_ret
  exact ⟨rfl, ((grownBy_below bW (some b)).trans (grownBy_below ((Below.refl _ W).drew) (some b))).trans g4, t4⟩
set_option maxHeartbeats 4000000 in
theorem again_text {w : World} {b : Nat} {r rest : ByteArray} {k n m : Int} {f : Nat} {s : ByteArray} {c : Bool} (h : TapeAt w b r 0) (hr : r.size ≤ 281474976710656) (k0 : 0 ≤ k) (k1 : k < 256) (hk : k % 5 = 3) (hs : s.size ≤ 9223372036854775807) (ht : tText r 0 s.size = (s, rest, 0)) :
    Calls Try.prog 28 #[.pointer (some ⟨b, 0, none⟩), .agg #[.int .u8 k, .int .u64 n, .int .i64 m, .float .f64 f, .string s, .bool c]] w fun e w' => e = .returned (.bool true) ∧ w.grownBy w' (some b) ∧ TapeAt w' b rest 0 := by
  have hb := h.lt
  have HB := Lib.hid (fun (w : World) (h : TapeAt w b r 0) => tapeText_any (most := (s.size : Int)) h hr (by omega) (by omega))
  rw [ht] at HB
  unfold vText at HB
  simp only at HB
  clear ht
  go_enter Try.func28, Try.ntmps28
  go_wp2_with fail
  obtain ⟨W, hW, hX, hTW, bW⟩ : ∃ W, W = w.alloc (.cells #[.int .u8 k, .int .u64 n, .int .i64 m, .float .f64 f, .string s, .bool c] 48) ∧ Th W b w.heap.size k n m f s c ∧ TapeAt W b r 0 ∧ Below w.heap.size w W := by
    refine ⟨_, rfl, ⟨?_, by omega⟩, h.next ((Below.refl _ w).alloc (Nat.le_refl _) _), (Below.refl _ w).alloc (Nat.le_refl _) _⟩
    unfold ThingAt; simp [World.alloc, -World.alloc_eq]
  rw [← hW]
  clear hW
  have hTd : TapeAt W.drew b r 0 := hTW
  go_region_held3 (fun w' => w'.cell? ⟨w.heap.size, 1, none⟩ = some (.int .u64 n) ∧ w'.cell? ⟨w.heap.size, 2, none⟩ = some (.int .i64 m) ∧ w'.cell? ⟨w.heap.size, 3, none⟩ = some (.float .f64 f) ∧ w'.cell? ⟨w.heap.size, 4, none⟩ = some (.string s) ∧ w'.cell? ⟨w.heap.size, 5, none⟩ = some (.bool c) ∧ Th w' b w.heap.size k n m f s c)
    (first | assumption | exact keepW (by assumption) | exact keepG (by assumption) (by assumption) | exact keepG2 (by assumption) (by assumption))
    (first | ((go_at_call 33; refine (HB.out _ (by assumption)).mono ?_; rintro r w4 ⟨rfl, g4, t4⟩)))
  go_wp2_with fail
  go_ret
  exact ⟨rfl, ((grownBy_below bW (some b)).trans (grownBy_below ((Below.refl _ W).drew) (some b))).trans g4, t4⟩
set_option maxHeartbeats 4000000 in
theorem again_real {w : World} {b : Nat} {r rest : ByteArray} {k n m : Int} {f : Nat} {s : ByteArray} {c : Bool} (h : TapeAt w b r 0) (hr : r.size ≤ 281474976710656) (k0 : 0 ≤ k) (k1 : k < 256) (hk : k % 5 = 2) (ht : tReal r 0 = (codeN f, rest, 0)) :
    Calls Try.prog 28 #[.pointer (some ⟨b, 0, none⟩), .agg #[.int .u8 k, .int .u64 n, .int .i64 m, .float .f64 f, .string s, .bool c]] w fun e w' => e = .returned (.bool true) ∧ w.grownBy w' (some b) ∧ TapeAt w' b rest 0 := by
  have hb := h.lt
  have HB := Lib.hid (fun (w : World) (h : TapeAt w b r 0) => tapeReal_any h hr)
  rw [ht] at HB
  unfold vReal at HB
  simp only at HB
  clear ht
  go_enter Try.func28, Try.ntmps28
  go_wp2_with fail
  obtain ⟨W, hW, hX, hTW, bW⟩ : ∃ W, W = w.alloc (.cells #[.int .u8 k, .int .u64 n, .int .i64 m, .float .f64 f, .string s, .bool c] 48) ∧ Th W b w.heap.size k n m f s c ∧ TapeAt W b r 0 ∧ Below w.heap.size w W := by
    refine ⟨_, rfl, ⟨?_, by omega⟩, h.next ((Below.refl _ w).alloc (Nat.le_refl _) _), (Below.refl _ w).alloc (Nat.le_refl _) _⟩
    unfold ThingAt; simp [World.alloc, -World.alloc_eq]
  rw [← hW]
  clear hW
  have hTd : TapeAt W.drew b r 0 := hTW
  have hid : (((codeN (codeN f) : Nat) : Int) == ((codeN f : Nat) : Int)) = true := by rw [codeN_idem]; simp
  go_region_held3 (fun w' => w'.cell? ⟨w.heap.size, 1, none⟩ = some (.int .u64 n) ∧ w'.cell? ⟨w.heap.size, 2, none⟩ = some (.int .i64 m) ∧ w'.cell? ⟨w.heap.size, 3, none⟩ = some (.float .f64 f) ∧ w'.cell? ⟨w.heap.size, 4, none⟩ = some (.string s) ∧ w'.cell? ⟨w.heap.size, 5, none⟩ = some (.bool c) ∧ Th w' b w.heap.size k n m f s c)
    (first | assumption | exact keepW (by assumption) | exact keepG (by assumption) (by assumption) | exact keepG2 (by assumption) (by assumption))
    (first | ((go_at_call 32; refine (HB.out _ (by assumption)).mono ?_; rintro r w4 ⟨rfl, g4, t4⟩)) | ((go_at_call 39; refine (rbits_any _ _).mono ?_; rintro r w5 ⟨rfl, rfl⟩)))
  go_wp2_with fail
  go_ret
  exact ⟨rfl, ((grownBy_below bW (some b)).trans (grownBy_below ((Below.refl _ W).drew) (some b))).trans g4, t4⟩
end Go.Proofs.Ytpnkdpmhphhenaa
