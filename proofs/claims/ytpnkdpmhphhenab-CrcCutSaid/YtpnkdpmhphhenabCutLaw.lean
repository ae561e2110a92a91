/-
  THE LAW CrcCut AS A WALK.
-/
import Derived.Test.YtpnkdpmhphhenabCutp
namespace Go.Proofs.Ytpnkdpmhphhenab
open Go.RowKit Go.Sort
theorem info3 : (Try.prog.info? 3).map (fun i => (i.zero, i.size, i.bytes)) = some (some (.int .i64 0), 1, 8) := by kernel_rfl
/-- a slice of whole numbers that the call owns, from block B on -/
def OwnI (w : World) (B : Nat) (v : Value) (xs : List Int) : Prop := w.ownsRow B 3 1 v xs.length (xs.map (Value.int .i64))
theorem append_int {ops : Array Oper} {rest : List Oper} {o : Oper} {a : Act} {Q : Exit → Act → World → Prop} (W : World) (hgd : o.guard = none) (s x : Operand)
    (ho : o.op = .call { callee := .builtin .append, args := #[s, x], argTypes := #[42, 42] })
    (B : Nat) (v : Value) (xs : List Int) (hs : a.eval s = v) (hown : OwnI W B v xs) (c : Int)
    (hx : a.eval x = .slice (some ⟨W.heap.size, 0, none⟩) 1 1) (hlen : (xs.length + 1) * 8 ≤ 140737488355328) (hB : B ≤ W.heap.size)
    (h : ∀ v' w', OwnI w' B v' (xs ++ [c]) → Below B W w' → wpList Try.prog ops Q rest (a.put o.dst v') w') :
    wpList Try.prog ops Q (o :: rest) a (W.alloc (.cells #[.int .i64 c] 3)) := by
  obtain ⟨i, hi, hz0, hz1, hz2⟩ := info_parts info3
  refine wpList_append_own _ hgd s x 42 ho B 3 i (.int .i64 0) 1 8 Try.underlying42 hi hz0 hz1 hz2 rfl (by decide) v xs.length (xs.map (Value.int .i64)) hs (hown.alloc _) ⟨W.heap.size, 0, none⟩ 1 1 [.int .i64 c] hx rfl ?_ ?_ ?_ ?_ ?_ ?_
  · exact cell_one_new _ _ _
  · intro u hu; simp at hu; subst hu; rfl
  · unfold maxLen; omega
  · omega
  · simp; omega
  · intro v' w' ho' hg _
    refine h v' w' ?_ ?_
    · simpa [OwnI] using ho'
    · refine (((Below.refl B W).alloc hB _).grown hg (by simp; omega) ?_)
      intro k hk
      obtain ⟨_, h2⟩ := hown
      rcases h2 with ⟨rfl, _⟩ | ⟨g, cap, cur, rfl, hg', _⟩
      · simp [Value.ownBlock] at hk
      · simp [Value.ownBlock] at hk; omega
theorem OwnI.below {w w' : World} {B : Nat} {v : Value} {xs : List Int} (h : OwnI w B v xs) (hb : Below w.heap.size w w') : OwnI w' B v xs := by
  refine World.ownsRow.kept (row := none) h ⟨hb.os, hb.tape, hb.output, hb.size, fun k hk _ => hb.block k hk⟩ ?_
  cases v.ownBlock <;> simp
/-- the numbers of a slice that is read -/
def Ints (w : World) (a : Option Addr) (xs : List Int) : Prop := ∀ i (h : i < xs.length), ∃ b o, a = some ⟨b, o, none⟩ ∧ b < w.heap.size ∧ w.cell? ⟨b, o + i, none⟩ = some (.int .i64 xs[i])
theorem OwnI.ints {w : World} {B : Nat} {v : Value} {xs : List Int} (h : OwnI w B v xs) : ∃ a c, v = .slice a xs.length c ∧ Ints w a xs := by
  rcases Joins.ownsRow_forms h with ⟨rfl, hn⟩ | ⟨g, cap, rfl⟩
  · exact ⟨none, 0, by rw [hn], fun i hi => by omega⟩
  · refine ⟨some ⟨g, 0, none⟩, cap, rfl, fun i hi => ?_⟩
    have e := World.ownsRow.cellAt h i (by omega)
    have hc : w.cell? ⟨g, 0 + i, none⟩ = some (.int .i64 xs[i]) := by
      rw [Nat.zero_add, e]; simp [List.getElem?_eq_getElem hi]
    exact ⟨g, 0, rfl, World.block_lt_of_cell? _ _ hc, hc⟩
/-- the ends of the first k packs -/
def endsI (xs : List ByteArray) (k : Nat) : List Int := (List.range k).map fun i => (psz xs (i + 1) : Int)
theorem endsI_len (xs : List ByteArray) (k : Nat) : (endsI xs k).length = k := by simp [endsI]
theorem endsI_succ (xs : List ByteArray) (k : Nat) : endsI xs (k + 1) = endsI xs k ++ [(psz xs (k + 1) : Int)] := by simp [endsI, List.range_succ]
theorem endsI_get (xs : List ByteArray) (k i : Nat) (h : i < (endsI xs k).length) : (endsI xs k)[i] = (psz xs (i + 1) : Int) := by simp [endsI]
/-- how many packs end at 'at' or ahead of it, by the first k -/
def Whole (xs : List ByteArray) (at_ k m : Nat) : Prop := m ≤ k ∧ psz xs m ≤ at_ ∧ ∀ j, m < j → j ≤ k → at_ < psz xs j
theorem Whole.start (xs : List ByteArray) (at_ : Nat) : Whole xs at_ 0 0 := ⟨Nat.le_refl _, by rw [psz_zero]; exact Nat.zero_le _, fun j h1 h2 => by omega⟩
theorem Whole.yes {xs : List ByteArray} {at_ k m : Nat} (_h : Whole xs at_ k m) (hp : psz xs (k + 1) ≤ at_) : Whole xs at_ (k + 1) (k + 1) := ⟨Nat.le_refl _, hp, fun j h1 h2 => by omega⟩
theorem Whole.no {xs : List ByteArray} {at_ k m : Nat} (h : Whole xs at_ k m) (hp : at_ < psz xs (k + 1)) : Whole xs at_ (k + 1) m :=
  ⟨by have := h.1; omega, h.2.1, fun j h1 h2 => by
    by_cases e : j = k + 1
    · subst e; exact hp
    · exact h.2.2 j h1 (by omega)⟩
theorem Strs.part {w : World} {a : Option Addr} {xs : List ByteArray} (h : Strs w a xs) (m : Nat) : Strs w a (xs.take m) := by
  rw [← List.take_append_drop m xs] at h
  exact h.take
theorem extract_all (s : ByteArray) : s.extract 0 s.size = s := bytes_ext (by rw [Lib.extract_data, List.drop_zero, Nat.sub_zero, List.take_of_length_le (by rw [← Lib.size_eq]; exact Nat.le_refl _)])
set_option maxHeartbeats 2000000 in
theorem cut_in (xs : List ByteArray) (a : Option Addr) (c : Nat) (at_ : Int) (a0 : -9223372036854775808 ≤ at_) (a1 : at_ ≤ 9223372036854775807) (w : World) (n : Nat) (e0 : at_ = n) (e1 : n ≤ (packs xs).size) (hl : xs.length ≤ 140737488355328) (hz : ∀ x ∈ xs, x.size ≤ 9223372036854775807) (hcap : xs.length ≤ c) (h : Strs w a xs) :
    Calls Try.prog 6 #[.slice a xs.length c, .int .i64 at_] w fun e w' => e = .returned (.bool true) ∧ Below w.heap.size w w' := by
  have hfew := Lib.hid (few_any xs a c w hl hz h)
  go_enter Try.func6, Try.ntmps6
  go_wp2_with fail
  refine hfew.out.mono ?_
  rintro r w1 ⟨rfl, ⟨v, rfl⟩ | ⟨rfl, ht, hn⟩⟩
  · go_wp2_with fail
    refine (awake_any _).mono ?_
    rintro r w2 ⟨rfl, b2⟩
    go_wp2_with fail
    go_ret
    exact ⟨rfl, b2⟩
  go_wp2_with fail
  have H := Lib.hid h
  clear h
  have HT := Lib.hid ht
  have HN2 := Lib.hid hn
  clear ht hn
  generalize hN : xs.length = N at *
  have HN := Lib.hid hN
  clear hN
  go_loopw [7, 8, 9] (fun s v i wr => Below w.heap.size w wr ∧ ∃ (k : Nat) (u : ByteArray), i = .int .i64 k ∧ s = .string u ∧ Packed xs k u ∧ OwnI wr w.heap.size v (endsI xs k)) (fun _ _ i _ => N - (intOf i).toNat)
  case atStart => exact ⟨Below.refl _ _, 0, ⟨#[]⟩, rfl, rfl, Packed.start xs, World.ownsRow_nil _ _ _ _⟩
  case round =>
    obtain ⟨hb, k, u, rfl, rfl, hp, hown⟩ := hrel
    have hk : k ≤ N := by have := hp.1; rw [HN.out] at this; exact this
    by_cases hlt : k < N
    · have hlx : k < xs.length := by rw [HN.out]; exact hlt
      obtain ⟨b, o, ea, l1, c1⟩ := H.out k hlx
      subst ea
      rw [← hb.cell (p := ⟨b, o + k, none⟩) l1] at c1
      have hnp := hp.next HT.out (by rw [HN.out]; exact HN2.out) hlx
      have hes : Hid (((u ++ packS xs[k]).size : Int) = (psz xs (k + 1) : Int)) := by unfold Hid psz; rw [← hnp.2.1]
      have hnx := Lib.hid hnp
      clear hnp
      have hxs : xs[k].size ≤ 40000 := Nat.le_trans (total_le (List.getElem_mem hlx)) HT.out
      have hus := hp.2.2
      have hown2 := Lib.hid (endsI_succ xs k)
      have hlen : ((endsI xs k).length + 1) * 8 ≤ 140737488355328 := by have := HN2.out; rw [endsI_len]; omega
      generalize xs[k] = x at *
      have hps := pack_size x
      have hpx := pack_any x (by omega)
      have hki : (k : Int) < (N : Int) := by omega
      have hsum : u.size + (packS x).size ≤ 9223372036854775807 := by omega
      have h7 : ¬ ((packS x).size : Int) < 7 := by omega
      have HP := Lib.hid hpx
      clear hps hpx
      generalize packS x = p at *
      go_wp2_with fail
      refine (HP.out _).mono ?_
      rintro r w1 ⟨rfl, b1⟩
      have o1 := hown.below b1
      have c2 := hb.trans (b1.mono hb.size)
      have z2 := c2.size
      go_wp2_with (at_builtin; refine append_int _ rfl _ _ rfl w.heap.size _ _ rfl o1 _ rfl hlen z2 ?_; intro v3 w3 o3 b3)
      go_roundw
      case rel => exact ⟨c2.trans b3, k + 1, u ++ p, by go_num, rfl, hnx.out, by rw [hown2.out, ← hes.out, ByteArray.size_append]; exact o3⟩
      case measure => simp [intOf]; omega
    · obtain rfl : k = N := by omega
      have hu : Hid (u = packs xs) := by
        have := hp.2.1
        rw [List.take_of_length_le (by rw [HN.out]; exact Nat.le_refl _)] at this
        exact this
      have hus := hp.2.2
      clear hp
      obtain ⟨pe, ce, rfl, hie⟩ := hown.ints
      rw [endsI_len]
      have hi := Lib.hid hie
      clear hie
      subst e0
      have g3 : n ≤ u.size := by rw [hu.out]; exact e1
      clear e1
      go_wp2_with fail
      go_loop [12, 13] (fun m i => ∃ (j q : Nat), j ≤ k ∧ i = .int .i64 j ∧ m = .int .i64 q ∧ Whole xs n j q) (fun _ i => k - (intOf i).toNat)
      case atStart => exact ⟨0, 0, Nat.zero_le _, rfl, rfl, Whole.start _ _⟩
      case round =>
        obtain ⟨j, q, hj, rfl, rfl, hw⟩ := hrel
        by_cases hlj : j < k
        · obtain ⟨b, o, ea, l1, c1⟩ := hi.out j (by rw [endsI_len]; exact hlj)
          subst ea
          rw [endsI_get] at c1
          have hjk : (j : Int) < (k : Int) := by omega
          by_cases hle : psz xs (j + 1) ≤ n
          · have hy := Lib.hid (hw.yes hle)
            have hle2 : ((psz xs (j + 1) : Nat) : Int) ≤ (n : Int) := by omega
            clear hw
            generalize psz xs (j + 1) = P at *
            go_wp2_with fail
            go_round
            case rel => exact ⟨j + 1, j + 1, by omega, by go_num, by go_num, hy.out⟩
            case measure => simp [intOf]; omega
          · have hy := Lib.hid (hw.no (by omega))
            have hle2 : ¬ ((psz xs (j + 1) : Nat) : Int) ≤ (n : Int) := by omega
            clear hw
            generalize psz xs (j + 1) = P at *
            go_wp2_with fail
            go_round
            case rel => exact ⟨j + 1, q, by omega, by go_num, rfl, hy.out⟩
            case measure => simp [intOf]; omega
        · obtain rfl : j = k := by omega
          have hq := hw.1
          have hpq := hw.2.1
          have hcut := all_cut xs HT.out (n) q (by rw [HN.out]; exact hq) hpq (fun hm => hw.2.2 _ (by omega) (by rw [HN.out] at hm; omega))
          rw [← hu.out] at hcut
          clear hw
          have hall := Lib.hid (fun W => all_any (u.extract 0 n) (by simp; omega) W)
          rw [hcut] at hall
          clear hcut
          have hlt : (xs.take q).length = q := by rw [List.length_take, HN.out]; omega
          have hqi : (q : Int) ≤ (j : Int) := by omega
          have hqc : (q : Int) ≤ (c : Int) := by omega
          have hqc2 : q ≤ c := by omega
          by_cases hq0 : q = 0
          · subst hq0
            rw [psz_zero] at hall
            clear hpq
            go_wp2_with fail
            refine (hall.out _).mono ?_
            rintro r w1 ⟨v, rfl, o2, b1⟩
            obtain ⟨p, cp, rfl, t2⟩ := o2.strs
            have c2 := hb.trans (b1.mono hb.size)
            simp only [List.take_zero, List.length_nil]
            go_wp2_with fail
            refine (awake_any _).mono ?_
            rintro r w3 ⟨rfl, b3⟩
            have c3 := c2.trans (b3.mono c2.size)
            go_wp2_with fail
            refine (same_nil _ _ _ _ _).mono ?_
            rintro r w4 ⟨rfl, rfl⟩
            go_wp2_with fail
            go_ret
            exact ⟨rfl, c3⟩
          · obtain ⟨b, o, ea, l1, c1⟩ := hi.out (q - 1) (by rw [endsI_len]; omega)
            subst ea
            rw [endsI_get, show q - 1 + 1 = q from by omega] at c1
            generalize psz xs q = P at *
            have g1 : (P : Int) ≤ (n : Int) := by omega
            have hq2 : 1 ≤ q := by omega
            go_wp2_with fail
            refine (hall.out _).mono ?_
            rintro r w1 ⟨v, rfl, o2, b1⟩
            obtain ⟨p, cp, rfl, t2⟩ := o2.strs
            have c2 := hb.trans (b1.mono hb.size)
            have d1 : w1.cell? ⟨b, o + (q - 1), none⟩ = some (.int .i64 (P : Int)) := by rw [b1.cell (p := ⟨b, o + (q - 1), none⟩) l1]; exact c1
            clear c1
            go_wp2_with fail
            refine (awake_any _).mono ?_
            rintro r w3 ⟨rfl, b3⟩
            have c3 := c2.trans (b3.mono c2.size)
            have hsame := Lib.hid (same_any (xs.take q) p a cp c w3 (by rw [hlt]; omega) (t2.below b3) ((H.out.below c3).part q))
            simp only [hlt] at hsame ⊢
            go_wp2_with fail
            refine hsame.out.mono ?_
            rintro r w4 ⟨rfl, b4⟩
            go_wp2_with fail
            go_ret
            exact ⟨rfl, c3.trans (b4.mono c3.size)⟩
set_option maxHeartbeats 2000000 in
theorem cut_neg (xs : List ByteArray) (a : Option Addr) (c : Nat) (at_ : Int) (_a0 : -9223372036854775808 ≤ at_) (_a1 : at_ ≤ 9223372036854775807) (w : World) (g1 : at_ < 0) (hl : xs.length ≤ 140737488355328) (hz : ∀ x ∈ xs, x.size ≤ 9223372036854775807) (hcap : xs.length ≤ c) (h : Strs w a xs) :
    Calls Try.prog 6 #[.slice a xs.length c, .int .i64 at_] w fun e w' => e = .returned (.bool true) ∧ Below w.heap.size w w' := by
  have hfew := Lib.hid (few_any xs a c w hl hz h)
  go_enter Try.func6, Try.ntmps6
  go_wp2_with fail
  refine hfew.out.mono ?_
  rintro r w1 ⟨rfl, ⟨v, rfl⟩ | ⟨rfl, ht, hn⟩⟩
  · go_wp2_with fail
    refine (awake_any _).mono ?_
    rintro r w2 ⟨rfl, b2⟩
    go_wp2_with fail
    go_ret
    exact ⟨rfl, b2⟩
  go_wp2_with fail
  have H := Lib.hid h
  clear h
  have HT := Lib.hid ht
  have HN2 := Lib.hid hn
  clear ht hn
  generalize hN : xs.length = N at *
  have HN := Lib.hid hN
  clear hN
  go_loopw [7, 8, 9] (fun s v i wr => Below w.heap.size w wr ∧ ∃ (k : Nat) (u : ByteArray), i = .int .i64 k ∧ s = .string u ∧ Packed xs k u ∧ OwnI wr w.heap.size v (endsI xs k)) (fun _ _ i _ => N - (intOf i).toNat)
  case atStart => exact ⟨Below.refl _ _, 0, ⟨#[]⟩, rfl, rfl, Packed.start xs, World.ownsRow_nil _ _ _ _⟩
  case round =>
    obtain ⟨hb, k, u, rfl, rfl, hp, hown⟩ := hrel
    have hk : k ≤ N := by have := hp.1; rw [HN.out] at this; exact this
    by_cases hlt : k < N
    · have hlx : k < xs.length := by rw [HN.out]; exact hlt
      obtain ⟨b, o, ea, l1, c1⟩ := H.out k hlx
      subst ea
      rw [← hb.cell (p := ⟨b, o + k, none⟩) l1] at c1
      have hnp := hp.next HT.out (by rw [HN.out]; exact HN2.out) hlx
      have hes : Hid (((u ++ packS xs[k]).size : Int) = (psz xs (k + 1) : Int)) := by unfold Hid psz; rw [← hnp.2.1]
      have hnx := Lib.hid hnp
      clear hnp
      have hxs : xs[k].size ≤ 40000 := Nat.le_trans (total_le (List.getElem_mem hlx)) HT.out
      have hus := hp.2.2
      have hown2 := Lib.hid (endsI_succ xs k)
      have hlen : ((endsI xs k).length + 1) * 8 ≤ 140737488355328 := by have := HN2.out; rw [endsI_len]; omega
      generalize xs[k] = x at *
      have hps := pack_size x
      have hpx := pack_any x (by omega)
      have hki : (k : Int) < (N : Int) := by omega
      have hsum : u.size + (packS x).size ≤ 9223372036854775807 := by omega
      have h7 : ¬ ((packS x).size : Int) < 7 := by omega
      have HP := Lib.hid hpx
      clear hps hpx
      generalize packS x = p at *
      go_wp2_with fail
      refine (HP.out _).mono ?_
      rintro r w1 ⟨rfl, b1⟩
      have o1 := hown.below b1
      have c2 := hb.trans (b1.mono hb.size)
      have z2 := c2.size
      go_wp2_with (at_builtin; refine append_int _ rfl _ _ rfl w.heap.size _ _ rfl o1 _ rfl hlen z2 ?_; intro v3 w3 o3 b3)
      go_roundw
      case rel => exact ⟨c2.trans b3, k + 1, u ++ p, by go_num, rfl, hnx.out, by rw [hown2.out, ← hes.out, ByteArray.size_append]; exact o3⟩
      case measure => simp [intOf]; omega
    · obtain rfl : k = N := by omega
      have hu : Hid (u = packs xs) := by
        have := hp.2.1
        rw [List.take_of_length_le (by rw [HN.out]; exact Nat.le_refl _)] at this
        exact this
      have hus := hp.2.2
      clear hp
      obtain ⟨pe, ce, rfl, hie⟩ := hown.ints
      rw [endsI_len]
      have hi := Lib.hid hie
      clear hie
      go_wp2_with fail
      go_loop [12, 13] (fun m i => ∃ (j q : Nat), j ≤ k ∧ i = .int .i64 j ∧ m = .int .i64 q ∧ Whole xs u.size j q) (fun _ i => k - (intOf i).toNat)
      case atStart => exact ⟨0, 0, Nat.zero_le _, rfl, rfl, Whole.start _ _⟩
      case round =>
        obtain ⟨j, q, hj, rfl, rfl, hw⟩ := hrel
        by_cases hlj : j < k
        · obtain ⟨b, o, ea, l1, c1⟩ := hi.out j (by rw [endsI_len]; exact hlj)
          subst ea
          rw [endsI_get] at c1
          have hjk : (j : Int) < (k : Int) := by omega
          by_cases hle : psz xs (j + 1) ≤ u.size
          · have hy := Lib.hid (hw.yes hle)
            have hle2 : ((psz xs (j + 1) : Nat) : Int) ≤ (u.size : Int) := by omega
            clear hw
            generalize psz xs (j + 1) = P at *
            go_wp2_with fail
            go_round
            case rel => exact ⟨j + 1, j + 1, by omega, by go_num, by go_num, hy.out⟩
            case measure => simp [intOf]; omega
          · have hy := Lib.hid (hw.no (by omega))
            have hle2 : ¬ ((psz xs (j + 1) : Nat) : Int) ≤ (u.size : Int) := by omega
            clear hw
            generalize psz xs (j + 1) = P at *
            go_wp2_with fail
            go_round
            case rel => exact ⟨j + 1, q, by omega, by go_num, rfl, hy.out⟩
            case measure => simp [intOf]; omega
        · obtain rfl : j = k := by omega
          have hq := hw.1
          have hpq := hw.2.1
          have hcut := all_cut xs HT.out u.size q (by rw [HN.out]; exact hq) hpq (fun hm => hw.2.2 _ (by omega) (by rw [HN.out] at hm; omega))
          rw [← hu.out, extract_all] at hcut
          clear hw
          have hall := Lib.hid (fun W => all_any u (by omega) W)
          rw [hcut] at hall
          clear hcut
          have hlt : (xs.take q).length = q := by rw [List.length_take, HN.out]; omega
          have hqi : (q : Int) ≤ (j : Int) := by omega
          have hqc : (q : Int) ≤ (c : Int) := by omega
          have hqc2 : q ≤ c := by omega
          by_cases hq0 : q = 0
          · subst hq0
            rw [psz_zero, extract_all] at hall
            clear hpq
            go_wp2_with fail
            refine (hall.out _).mono ?_
            rintro r w1 ⟨v, rfl, o2, b1⟩
            obtain ⟨p, cp, rfl, t2⟩ := o2.strs
            have c2 := hb.trans (b1.mono hb.size)
            simp only [List.take_zero, List.length_nil]
            go_wp2_with fail
            refine (awake_any _).mono ?_
            rintro r w3 ⟨rfl, b3⟩
            have c3 := c2.trans (b3.mono c2.size)
            go_wp2_with fail
            refine (same_nil _ _ _ _ _).mono ?_
            rintro r w4 ⟨rfl, rfl⟩
            go_wp2_with fail
            go_ret
            exact ⟨rfl, c3⟩
          · obtain ⟨b, o, ea, l1, c1⟩ := hi.out (q - 1) (by rw [endsI_len]; omega)
            subst ea
            rw [endsI_get, show q - 1 + 1 = q from by omega] at c1
            generalize psz xs q = P at *
            have g1 : (P : Int) ≤ (u.size : Int) := by omega
            have hq2 : 1 ≤ q := by omega
            go_wp2_with fail
            refine (hall.out _).mono ?_
            rintro r w1 ⟨v, rfl, o2, b1⟩
            obtain ⟨p, cp, rfl, t2⟩ := o2.strs
            have c2 := hb.trans (b1.mono hb.size)
            have d1 : w1.cell? ⟨b, o + (q - 1), none⟩ = some (.int .i64 (P : Int)) := by rw [b1.cell (p := ⟨b, o + (q - 1), none⟩) l1]; exact c1
            clear c1
            go_wp2_with fail
            refine (awake_any _).mono ?_
            rintro r w3 ⟨rfl, b3⟩
            have c3 := c2.trans (b3.mono c2.size)
            have hsame := Lib.hid (same_any (xs.take q) p a cp c w3 (by rw [hlt]; omega) (t2.below b3) ((H.out.below c3).part q))
            simp only [hlt] at hsame ⊢
            go_wp2_with fail
            refine hsame.out.mono ?_
            rintro r w4 ⟨rfl, b4⟩
            go_wp2_with fail
            go_ret
            exact ⟨rfl, c3.trans (b4.mono c3.size)⟩
set_option maxHeartbeats 2000000 in
theorem cut_big (xs : List ByteArray) (a : Option Addr) (c : Nat) (at_ : Int) (a0 : -9223372036854775808 ≤ at_) (a1 : at_ ≤ 9223372036854775807) (w : World) (e1 : ((packs xs).size : Int) < at_) (hl : xs.length ≤ 140737488355328) (hz : ∀ x ∈ xs, x.size ≤ 9223372036854775807) (hcap : xs.length ≤ c) (h : Strs w a xs) :
    Calls Try.prog 6 #[.slice a xs.length c, .int .i64 at_] w fun e w' => e = .returned (.bool true) ∧ Below w.heap.size w w' := by
  have hfew := Lib.hid (few_any xs a c w hl hz h)
  go_enter Try.func6, Try.ntmps6
  go_wp2_with fail
  refine hfew.out.mono ?_
  rintro r w1 ⟨rfl, ⟨v, rfl⟩ | ⟨rfl, ht, hn⟩⟩
  · go_wp2_with fail
    refine (awake_any _).mono ?_
    rintro r w2 ⟨rfl, b2⟩
    go_wp2_with fail
    go_ret
    exact ⟨rfl, b2⟩
  go_wp2_with fail
  have H := Lib.hid h
  clear h
  have HT := Lib.hid ht
  have HN2 := Lib.hid hn
  clear ht hn
  generalize hN : xs.length = N at *
  have HN := Lib.hid hN
  clear hN
  go_loopw [7, 8, 9] (fun s v i wr => Below w.heap.size w wr ∧ ∃ (k : Nat) (u : ByteArray), i = .int .i64 k ∧ s = .string u ∧ Packed xs k u ∧ OwnI wr w.heap.size v (endsI xs k)) (fun _ _ i _ => N - (intOf i).toNat)
  case atStart => exact ⟨Below.refl _ _, 0, ⟨#[]⟩, rfl, rfl, Packed.start xs, World.ownsRow_nil _ _ _ _⟩
  case round =>
    obtain ⟨hb, k, u, rfl, rfl, hp, hown⟩ := hrel
    have hk : k ≤ N := by have := hp.1; rw [HN.out] at this; exact this
    by_cases hlt : k < N
    · have hlx : k < xs.length := by rw [HN.out]; exact hlt
      obtain ⟨b, o, ea, l1, c1⟩ := H.out k hlx
      subst ea
      rw [← hb.cell (p := ⟨b, o + k, none⟩) l1] at c1
      have hnp := hp.next HT.out (by rw [HN.out]; exact HN2.out) hlx
      have hes : Hid (((u ++ packS xs[k]).size : Int) = (psz xs (k + 1) : Int)) := by unfold Hid psz; rw [← hnp.2.1]
      have hnx := Lib.hid hnp
      clear hnp
      have hxs : xs[k].size ≤ 40000 := Nat.le_trans (total_le (List.getElem_mem hlx)) HT.out
      have hus := hp.2.2
      have hown2 := Lib.hid (endsI_succ xs k)
      have hlen : ((endsI xs k).length + 1) * 8 ≤ 140737488355328 := by have := HN2.out; rw [endsI_len]; omega
      generalize xs[k] = x at *
      have hps := pack_size x
      have hpx := pack_any x (by omega)
      have hki : (k : Int) < (N : Int) := by omega
      have hsum : u.size + (packS x).size ≤ 9223372036854775807 := by omega
      have h7 : ¬ ((packS x).size : Int) < 7 := by omega
      have HP := Lib.hid hpx
      clear hps hpx
      generalize packS x = p at *
      go_wp2_with fail
      refine (HP.out _).mono ?_
      rintro r w1 ⟨rfl, b1⟩
      have o1 := hown.below b1
      have c2 := hb.trans (b1.mono hb.size)
      have z2 := c2.size
      go_wp2_with (at_builtin; refine append_int _ rfl _ _ rfl w.heap.size _ _ rfl o1 _ rfl hlen z2 ?_; intro v3 w3 o3 b3)
      go_roundw
      case rel => exact ⟨c2.trans b3, k + 1, u ++ p, by go_num, rfl, hnx.out, by rw [hown2.out, ← hes.out, ByteArray.size_append]; exact o3⟩
      case measure => simp [intOf]; omega
    · obtain rfl : k = N := by omega
      have hu : Hid (u = packs xs) := by
        have := hp.2.1
        rw [List.take_of_length_le (by rw [HN.out]; exact Nat.le_refl _)] at this
        exact this
      have hus := hp.2.2
      clear hp
      obtain ⟨pe, ce, rfl, hie⟩ := hown.ints
      rw [endsI_len]
      have hi := Lib.hid hie
      clear hie
      have g1 : (u.size : Int) < at_ := by rw [hu.out]; exact e1
      clear e1
      go_wp2_with fail
      go_loop [12, 13] (fun m i => ∃ (j q : Nat), j ≤ k ∧ i = .int .i64 j ∧ m = .int .i64 q ∧ Whole xs u.size j q) (fun _ i => k - (intOf i).toNat)
      case atStart => exact ⟨0, 0, Nat.zero_le _, rfl, rfl, Whole.start _ _⟩
      case round =>
        obtain ⟨j, q, hj, rfl, rfl, hw⟩ := hrel
        by_cases hlj : j < k
        · obtain ⟨b, o, ea, l1, c1⟩ := hi.out j (by rw [endsI_len]; exact hlj)
          subst ea
          rw [endsI_get] at c1
          have hjk : (j : Int) < (k : Int) := by omega
          by_cases hle : psz xs (j + 1) ≤ u.size
          · have hy := Lib.hid (hw.yes hle)
            have hle2 : ((psz xs (j + 1) : Nat) : Int) ≤ (u.size : Int) := by omega
            clear hw
            generalize psz xs (j + 1) = P at *
            go_wp2_with fail
            go_round
            case rel => exact ⟨j + 1, j + 1, by omega, by go_num, by go_num, hy.out⟩
            case measure => simp [intOf]; omega
          · have hy := Lib.hid (hw.no (by omega))
            have hle2 : ¬ ((psz xs (j + 1) : Nat) : Int) ≤ (u.size : Int) := by omega
            clear hw
            generalize psz xs (j + 1) = P at *
            go_wp2_with fail
            go_round
            case rel => exact ⟨j + 1, q, by omega, by go_num, rfl, hy.out⟩
            case measure => simp [intOf]; omega
        · obtain rfl : j = k := by omega
          have hq := hw.1
          have hpq := hw.2.1
          have hcut := all_cut xs HT.out u.size q (by rw [HN.out]; exact hq) hpq (fun hm => hw.2.2 _ (by omega) (by rw [HN.out] at hm; omega))
          rw [← hu.out, extract_all] at hcut
          clear hw
          have hall := Lib.hid (fun W => all_any u (by omega) W)
          rw [hcut] at hall
          clear hcut
          have hlt : (xs.take q).length = q := by rw [List.length_take, HN.out]; omega
          have hqi : (q : Int) ≤ (j : Int) := by omega
          have hqc : (q : Int) ≤ (c : Int) := by omega
          have hqc2 : q ≤ c := by omega
          by_cases hq0 : q = 0
          · subst hq0
            rw [psz_zero, extract_all] at hall
            clear hpq
            go_wp2_with fail
            refine (hall.out _).mono ?_
            rintro r w1 ⟨v, rfl, o2, b1⟩
            obtain ⟨p, cp, rfl, t2⟩ := o2.strs
            have c2 := hb.trans (b1.mono hb.size)
            simp only [List.take_zero, List.length_nil]
            go_wp2_with fail
            refine (awake_any _).mono ?_
            rintro r w3 ⟨rfl, b3⟩
            have c3 := c2.trans (b3.mono c2.size)
            go_wp2_with fail
            refine (same_nil _ _ _ _ _).mono ?_
            rintro r w4 ⟨rfl, rfl⟩
            go_wp2_with fail
            go_ret
            exact ⟨rfl, c3⟩
          · obtain ⟨b, o, ea, l1, c1⟩ := hi.out (q - 1) (by rw [endsI_len]; omega)
            subst ea
            rw [endsI_get, show q - 1 + 1 = q from by omega] at c1
            generalize psz xs q = P at *
            have g1 : (P : Int) ≤ (u.size : Int) := by omega
            have hq2 : 1 ≤ q := by omega
            go_wp2_with fail
            refine (hall.out _).mono ?_
            rintro r w1 ⟨v, rfl, o2, b1⟩
            obtain ⟨p, cp, rfl, t2⟩ := o2.strs
            have c2 := hb.trans (b1.mono hb.size)
            have d1 : w1.cell? ⟨b, o + (q - 1), none⟩ = some (.int .i64 (P : Int)) := by rw [b1.cell (p := ⟨b, o + (q - 1), none⟩) l1]; exact c1
            clear c1
            go_wp2_with fail
            refine (awake_any _).mono ?_
            rintro r w3 ⟨rfl, b3⟩
            have c3 := c2.trans (b3.mono c2.size)
            have hsame := Lib.hid (same_any (xs.take q) p a cp c w3 (by rw [hlt]; omega) (t2.below b3) ((H.out.below c3).part q))
            simp only [hlt] at hsame ⊢
            go_wp2_with fail
            refine hsame.out.mono ?_
            rintro r w4 ⟨rfl, b4⟩
            go_wp2_with fail
            go_ret
            exact ⟨rfl, c3.trans (b4.mono c3.size)⟩
theorem cut_law (xs : List ByteArray) (a : Option Addr) (c : Nat) (at_ : Int) (a0 : -9223372036854775808 ≤ at_) (a1 : at_ ≤ 9223372036854775807) (w : World) (hl : xs.length ≤ 140737488355328) (hz : ∀ x ∈ xs, x.size ≤ 9223372036854775807) (hcap : xs.length ≤ c) (h : Strs w a xs) :
    Calls Try.prog 6 #[.slice a xs.length c, .int .i64 at_] w fun e w' => e = .returned (.bool true) ∧ Below w.heap.size w w' := by
  by_cases g1 : at_ < 0
  · exact cut_neg xs a c at_ a0 a1 w g1 hl hz hcap h
  by_cases g2 : ((packs xs).size : Int) < at_
  · exact cut_big xs a c at_ a0 a1 w g2 hl hz hcap h
  · obtain ⟨n, rfl⟩ := Int.eq_ofNat_of_zero_le (show 0 ≤ at_ by omega)
    exact cut_in xs a c n a0 a1 w n rfl (by omega) hl hz hcap h
end Go.Proofs.Ytpnkdpmhphhenab
