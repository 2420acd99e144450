/-
  strconv.FormatUint at base 10, and decimal of the reference: a number's digits. Conditions: it is one of 64 bits; the table of powers lies where it lies.
-/
import Derived.Test.YtacniohflhpgaaaDoorPSpl
import Derived.Lib.AppendIntMem
import Derived.Lib.ItoaMem
namespace Go.Proofs.YtacniohflhpgaaaDoor
open Go.RowKit Go.Lib Go.Sort

theorem ndig_any (u : Nat) (h1 : 1 ≤ u) (h2 : u < 18446744073709551616) (w : World) (htab : Lib.TabIs Tryd.prog w powName .u64 Lib.pow10Tab) :
    Calls Tryd.prog 73 #[.int .u64 u] w fun e w' => e = .returned (.int .i64 (Lib.nDigits u)) ∧ w' = w :=
  Any.internal_strconv_numDigits Tryd.laysM284 u h1 h2 w htab
theorem tab_al {w : World} (h : Lib.TabIs Tryd.prog w powName .u64 Lib.pow10Tab) (o : Obj) : Lib.TabIs Tryd.prog (w.alloc o) powName .u64 Lib.pow10Tab := var_old h (old_alloc _ _)

theorem grow_old (w : World) (k : Nat) (os : Array Obj) : Old w (grow (w.drewN k) os) := by
  refine ⟨rfl, rfl, rfl, ?_, fun g hg => Lib.heap_grow_old w k os g hg⟩
  have : (grow (w.drewN k) os).heap = w.heap ++ os := rfl
  rw [this, Array.size_append]
  omega
set_option maxHeartbeats 4000000 in
theorem ifmt_any (u : Nat) (hu64 : u < 18446744073709551616) (w : World) (hv : Env w) :
    Calls Tryd.prog 60 #[.int .u64 u, .int .i64 10] w fun e w' => e = .returned (.string (B (Lib.decDigits u))) ∧ Old w w' := by
  by_cases hs : u < 100
  · have hI : (u : Int) < 100 := by omega
    go_enter Tryd.func60, Tryd.ntmps60
    go_wp2_with (go_at_call 72; refine (Tryd.internal_strconv_small u hs _).mono ?_; rintro e w' ⟨rfl, rfl⟩)
    go_ret
    exact ⟨rfl, Old.re _⟩
  · have hu1 : 1 ≤ u := by omega
    have hI : (100 : Int) ≤ (u : Int) := by omega
    have hnd20 : Lib.nDigits u ≤ 20 := by have := Lib.numDigits_eq u hu1 hu64; split at this <;> omega
    have hal : Tryd.prog.arrayLen 92 = 24 := by kernel_rfl
    have hsl : ∀ W, (Instr.sliceAt 92 (.pointer (some ⟨w.heap.size, 0, none⟩)) none (some (.int .i64 (Lib.nDigits u : Int))) none).run Tryd.prog W = .ok (.slice (some ⟨w.heap.size, 0, none⟩) (Lib.nDigits u) 24) W := fun W => by
      rw [run_sliceAt_array_h W 92 ⟨w.heap.size, 0, none⟩ (by kernel_rfl) .i64 (Lib.nDigits u : Int) (by omega) (by rw [hal]; omega), hal]
      go_simp
    have hH0 := Lib.holds_zero0 w 92 (Lib.nDigits u) (by omega)
    have hfmt := Tryd.internal_strconv_formatBase10 w.heap.size 0 24 u (Array.replicate (Lib.nDigits u) 0) (w.alloc (.cells Lib.zeros24 92)) hH0 (by rw [Array.size_replicate]; exact Lib.lt_pow_nDigits u) hu64 (by rw [Array.size_replicate]; omega)
    rw [Array.size_replicate] at hfmt
    have HH0 := Lib.hid hH0
    clear hH0 hal
    go_enter Tryd.func60, Tryd.ntmps60
    go_wp2_with (go_at_call 73; refine (ndig_any u hu1 hu64 _ (tab_al hv.tab _)).mono ?_; rintro e w' ⟨rfl, rfl⟩)
    go_at_call 74
    refine hfmt.mono ?_
    rintro e w' ⟨rfl, k, v', dk, rfl, hF⟩
    have hcv : (convert 37 9 (.slice (some ⟨w.heap.size, 0, none⟩) (Lib.nDigits u) 24)).run Tryd.prog ((putRow (fun (b : UInt8) => Value.int .u8 (b.toNat : Int)) (w.alloc (.cells Lib.zeros24 92)) w.heap.size 0 dk).drewN k) = .ok (.string (B (Lib.decDigits u))) ((putRow (fun (b : UInt8) => Value.int .u8 (b.toNat : Int)) (w.alloc (.cells Lib.zeros24 92)) w.heap.size 0 dk).drewN k) := by
      have h := run_convert_bytes_back (P := Tryd.prog) ((putRow (fun (b : UInt8) => Value.int .u8 (b.toNat : Int)) (w.alloc (.cells Lib.zeros24 92)) w.heap.size 0 dk).drewN k) 37 9 5 ⟨w.heap.size, 0, none⟩ 24 (Lib.decDigits u) Tryd.underlying37 Tryd.underlying5 Tryd.underlying9 (fun j hj => by
        rw [Lib.row_is_numeral hF j hj, Lib.add_plain, World.cell?_drewN]
        exact cell?_putRow (fun (b : UInt8) => Value.int .u8 (b.toNat : Int)) _ w.heap.size 0 _ dk HH0.out (by rw [hF.size, Array.size_replicate]) j (by rw [hF.size]; rw [Lib.decDigits_length] at hj; exact hj))
      rw [Lib.decDigits_length] at h
      exact h
    have hO : Old w ((putRow (fun (b : UInt8) => Value.int .u8 (b.toNat : Int)) (w.alloc (.cells Lib.zeros24 92)) w.heap.size 0 dk).drewN k) := by
      obtain ⟨os, eo⟩ := Lib.fin_at w (.cells Lib.zeros24 92) dk k 0
      rw [eo]
      exact grow_old w k os
    clear HH0 hF hfmt
    generalize (putRow (fun (b : UInt8) => Value.int .u8 (b.toNat : Int)) (w.alloc (.cells Lib.zeros24 92)) w.heap.size 0 dk).drewN k = w2 at *
    go_wp2
    go_ret
    exact ⟨rfl, hO⟩
set_option maxHeartbeats 1000000 in
theorem fmt_any (u : Nat) (hu : u < 18446744073709551616) (w : World) (hv : Env w) :
    Calls Tryd.prog 37 #[.int .u64 u] w fun e w' => e = .returned (.string (B (Lib.decDigits u))) ∧ Old w w' := by
  go_enter Tryd.func37, Tryd.ntmps37
  go_wp2_with (first
    | (go_at_call 60; refine (ifmt_any u hu _ hv).mono ?_; rintro e w1 ⟨rfl, o1⟩)
    | go_in)
  go_ret
  exact ⟨rfl, o1⟩

abbrev tenS : List UInt8 := [48, 49, 50, 51, 52, 53, 54, 55, 56, 57]
theorem ten_at (n : Nat) (h : n < 10) : (B tenS).extract n (n + 1) = B [UInt8.ofNat (48 + n)] := by
  have : ∀ n, n < 10 → (tenS.drop n).take (n + 1 - n) = [UInt8.ofNat (48 + n)] := by decide
  rw [ext_B, this n h]
theorem dec_big {u : Nat} (h : ¬ u < 10) : Lib.decDigits u = Lib.decDigits (u / 10) ++ [UInt8.ofNat (48 + u % 10)] := by
  rw [Lib.decDigits, dif_neg h]
theorem dec_len (u : Nat) (h : u < 18446744073709551616) : (Lib.decDigits u).length ≤ 20 := by
  rw [Lib.decDigits_length]
  rcases Nat.eq_zero_or_pos u with rfl | h1
  · rw [Lib.nDigits]; simp
  · have := Lib.numDigits_eq u h1 h; split at this <;> omega
set_option maxHeartbeats 2000000 in
theorem rdec_any : ∀ (u : Nat), u < 18446744073709551616 → ∀ w : World, Calls Tryd.prog 28 #[.int .u64 u] w fun e w' => e = .returned (.string (B (Lib.decDigits u))) ∧ ∃ m, w' = w.drewN m := by
  intro u
  induction u using Nat.strongRecOn with
  | _ u ih =>
    intro hu w
    by_cases hs : u < 10
    · have hI : (u : Int) < 10 := by omega
      have hx := ten_at u hs
      rw [Lib.decDigits_one hs]
      generalize UInt8.ofNat (48 + u) = y at *
      go_enter Tryd.func28, Tryd.ntmps28
      go_wp2
      go_ret
      exact ⟨rfl, 0, by simp [World.drewN_zero]⟩
    · have hI : ¬ (u : Int) < 10 := by omega
      have C := ih (u / 10) (by omega) (by omega)
      have hx := ten_at (u % 10) (by omega)
      have HD := Lib.hid (dec_big hs)
      have hl := dec_len (u / 10) (by omega)
      have hr10 : u % 10 < 10 := by omega
      have hq : u / 10 < 18446744073709551616 := by omega
      have ht : (u : Int).tmod 10 = ((u % 10 : Nat) : Int) := by rw [Int.tmod_eq_emod_of_nonneg (by omega)]; omega
      have hd : (u : Int).tdiv 10 = ((u / 10 : Nat) : Int) := by rw [Int.tdiv_eq_ediv_of_nonneg (by omega)]; omega
      generalize UInt8.ofNat (48 + u % 10) = y at *
      generalize u % 10 = r at *
      generalize u / 10 = q at *
      have hw1 : IntKind.u64.wrap ((r : Int) + 1) = (r : Int) + 1 := by rw [IntKind.wrap_u64]; omega
      have hw2 : IntKind.u64.wrap (r : Int) = (r : Int) := by rw [IntKind.wrap_u64]; omega
      have hw3 : IntKind.u64.wrap (q : Int) = (q : Int) := by rw [IntKind.wrap_u64]; omega
      have hr1 : (r : Int) + 1 ≤ 10 := by omega
      clear ih
      go_enter Tryd.func28, Tryd.ntmps28
      go_wp2_with fail
      go_quiet ((go_at_call 28; refine Calls.quiet_of (C _)))
      go_wp2
      go_ret
      exact ⟨by rw [HD.out]; exact congrArg (fun x => Ending.returned (.string x)) (add_B _ _), _, rfl⟩
end Go.Proofs.YtacniohflhpgaaaDoor
