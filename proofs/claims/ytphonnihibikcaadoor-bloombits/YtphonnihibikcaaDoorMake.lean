/-
  Make of the code. Conditions: the table is laid; lengths as written.
-/
import Derived.Test.YtphonnihibikcaaDoorBits
namespace Go.Proofs.YtphonnihibikcaaDoor
open Go.RowKit

set_option maxHeartbeats 1000000 in
theorem bytesFor_any (n : Nat) (hn : n ≤ 1000000) (w : World) :
    Calls Tryd.prog 20 #[.int .i64 (n : Int)] w fun e w' => e = .returned (.int .i64 (max 8 ((n + 7) / 8) : Nat)) ∧ w = w' := by
  go_enter Tryd.func20, Tryd.ntmps20
  go_wp2
  all_goals (go_ret; refine ⟨ret_int ?_, rfl⟩; omega)

theorem or_bit (b : UInt8) (k : Nat) (hk : k < 8) : bits BinOp.or IntKind.u8 (b.toNat : Int) (2 ^ k % 256) = ((orBit b k).toNat : Int) := by
  have h1 : (2 : Nat) ^ k < 256 := Nat.pow_lt_pow_right (m := k) (n := 8) (by omega) hk
  have e : ((2 : Int) ^ k % 256) = ((2 ^ k : Nat) : Int) := by
    rw [Int.natCast_pow, show ((2 : Nat) : Int) = 2 from rfl]
    apply Int.emod_eq_of_lt
    · exact Int.pow_nonneg (by decide)
    · rw [show (2 : Int) ^ k = ((2 ^ k : Nat) : Int) by rw [Int.natCast_pow]; rfl]; omega
  have hb := b.toNat_lt
  have ho := or_lt b k hk
  rw [e, orBit_toNat _ _ hk]
  show IntKind.u8.wrap ((BitVec.ofInt 8 (b.toNat : Int) ||| BitVec.ofInt 8 ((2 ^ k : Nat) : Int)).toNat : Int) = _
  rw [BitVec.toNat_or, BitVec.ofInt_natCast, BitVec.ofInt_natCast, BitVec.toNat_ofNat, BitVec.toNat_ofNat, Nat.mod_eq_of_lt (by omega), Nat.mod_eq_of_lt (by omega), IntKind.wrap_u8]
  omega

set_option maxHeartbeats 1000000 in
theorem make1_any (f : List UInt8) (hf : f.length ≤ 100000) (p : Nat) (hp : p < 8 * f.length) (F G : Nat) (w : World) (hG : w.heap[G]? = some (.cells #[.slice (some ⟨F, 0, none⟩) f.length f.length] 38 (0, 0))) (hF : Row w F f) (hFG : G ≠ F) :
    Calls Tryd.prog 21 #[.int .i64 p, .pointer (some ⟨G, 0, none⟩)] w fun e w' => e = .returned (.bool true) ∧ w'.heap[G]? = some (.cells #[.slice (some ⟨F, 0, none⟩) f.length f.length] 38 (0, 0)) ∧ Row w' F (setBit f p) ∧ Below F w w' := by
  have hq : p / 8 < f.length := by omega
  have c1 := cell_of_one hG
  have c2 := hF.cell (p / 8) hq
  have c3 := hF.free (p / 8)
  have HO := Lib.hid (or_bit f[p / 8] (p % 8) (by omega))
  have HE := Lib.hid (show setBit f p = f.set (p / 8) (orBit f[p / 8] (p % 8)) by unfold setBit; rw [List.getD_eq_getElem?_getD, List.getElem?_eq_getElem hq, Option.getD_some])
  go_enter Tryd.func21, Tryd.ntmps21
  go_wp2
  go_region
  go_wp2
  go_ret
  rw [HO.out, HE.out]
  refine ⟨rfl, ?_, hF.set _ _, ((Below.refl F w).setCell (Nat.le_refl _) _).drew⟩
  show (w.setCell _ _).heap[G]? = _
  rw [heap_setCell_other _ _ _ _ hFG]
  exact hG

theorem tell_set (f l : List UInt8) (hf : f.length ≤ 100000) (hl : l.length ≤ 100000) (w : World) (F G : Nat) (h : Tab w) (hFG : G ≠ F) (hf0 : 0 < f.length) (hG : w.heap[G]? = some (.cells #[.slice (some ⟨F, 0, none⟩) f.length f.length] 38 (0, 0))) (hF : Row w F f) :
    Calls Tryd.prog 22 #[.string (B l), .int .i64 (8 * (f.length : Int)), .func (.func 21) #[] #[.pointer (some ⟨G, 0, none⟩)]] w fun e w' => e = .returned (.tuple #[]) ∧ (w'.heap[G]? = some (.cells #[.slice (some ⟨F, 0, none⟩) f.length f.length] 38 (0, 0)) ∧ Row w' F (setAll f (places l (8 * f.length))) ∧ Below F w w') := by
  have e8 : (8 * (f.length : Int)) = ((8 * f.length : Nat) : Int) := by omega
  rw [e8]
  unfold places
  rw [if_neg (by omega)]
  refine tell_any l (by omega) (8 * f.length) (by omega) (by omega) 21 (enters_of Tryd.func21 (by kernel_rfl) rfl) _
    (fun i w' => w'.heap[G]? = some (.cells #[.slice (some ⟨F, 0, none⟩) f.length f.length] 38 (0, 0)) ∧ Row w' F (setAll f (((List.range 4).map (place l (8 * f.length))).take i)) ∧ Below F w w')
    (fun w' => w'.heap[G]? = some (.cells #[.slice (some ⟨F, 0, none⟩) f.length f.length] 38 (0, 0)) ∧ Row w' F (setAll f ((List.range 4).map (place l (8 * f.length)))) ∧ Below F w w') w h ⟨hG, hF, Below.refl _ _⟩ ?_ ?_
  · rintro w' ⟨h1, h2, h3⟩
    rw [List.take_of_length_le (by simp)] at h2
    exact ⟨h1, h2, h3⟩
  · rintro i hi w' ⟨h1, h2, h3⟩
    have hln := setAll_length (((List.range 4).map (place l (8 * f.length))).take i) f
    have := make1_any (setAll f (((List.range 4).map (place l (8 * f.length))).take i)) (by omega) (place l (8 * f.length) i) (by rw [hln]; exact place_lt _ _ _ (by omega)) F G w' (by rw [hln]; exact h1) h2 hFG
    refine this.mono ?_
    rintro e w2 ⟨rfl, h4, h5, h6⟩
    refine ⟨true, rfl, fun _ => ?_, fun hb => by cases hb⟩
    rw [hln] at h4
    rw [← setAll_snoc, ← places_take l _ i hi] at h5
    exact ⟨h4, h5, h3.trans h6⟩

/-- How many bytes a filter of so many names has. -/
def sizeL (k b : Nat) : Nat := max 8 ((k * b + 7) / 8)
/-- All places of all names. -/
def allP (names : List (List UInt8)) (many : Nat) : List Nat := names.flatMap fun l => places l many
/-- The filter of these names. -/
def makeL (names : List (List UInt8)) (b : Nat) : List UInt8 := setAll (List.replicate (sizeL names.length b) 0) (allP names (8 * sizeL names.length b))
theorem allP_snoc (names : List (List UInt8)) (k : Nat) (hk : k < names.length) (many : Nat) : allP (names.take (k + 1)) many = allP (names.take k) many ++ places names[k] many := by
  unfold allP
  rw [List.take_succ_eq_append_getElem hk, List.flatMap_append]
  simp
theorem sizeL_le (k b : Nat) (hk : k ≤ 2000) (hb : b ≤ 64) : 8 ≤ sizeL k b ∧ sizeL k b ≤ 16000 := by
  have : k * b ≤ 2000 * 64 := Nat.mul_le_mul hk hb
  unfold sizeL
  omega

set_option maxHeartbeats 1000000 in
theorem make_arg (v : Value) (b : Int) (hb : b < 1 ∨ 64 < b) (w : World) :
    Calls Tryd.prog 11 #[v, .int .i64 b] w fun e w' => e = .returned (.tuple #[.string (B []), .int .i64 1]) ∧ w = w' := by
  go_enter Tryd.func11, Tryd.ntmps11
  rcases hb with hb | hb
  · go_wp2
    go_ret2
    exact ⟨rfl, rfl⟩
  · go_wp2
    go_ret2
    exact ⟨rfl, rfl⟩

set_option maxHeartbeats 2000000 in
theorem make_any (names : List (List UInt8)) (A : Option Addr) (cap : Nat) (b : Nat) (hb : 1 ≤ b) (hb2 : b ≤ 64) (hn : names.length ≤ 2000) (hls : ∀ l ∈ names, l.length ≤ 100000) (w : World) (hS : Strs w A cap names) (h : Tab w) :
    Calls Tryd.prog 11 #[.slice A names.length cap, .int .i64 (b : Int)] w fun e w' => e = .returned (.tuple #[.string (B (makeL names b)), .int .i64 0]) ∧ Old w w' := by
  have hmf : ∀ (fn : Fn) (first cap : Array Value) (w : World), (Instr.makeFunc fn first cap).run Tryd.prog w = .ok (.func fn first cap) w := fun _ _ _ _ => rfl
  obtain ⟨m, hm⟩ : ∃ m, m = names.length * b := ⟨_, rfl⟩
  have hmI : (names.length : Int) * (b : Int) = (m : Int) := by rw [hm, Int.natCast_mul]
  have hm2 : m ≤ 128000 := by rw [hm]; exact Nat.mul_le_mul hn hb2
  obtain ⟨N, hN⟩ : ∃ N, N = sizeL names.length b := ⟨_, rfl⟩
  have hNm : max 8 ((m + 7) / 8) = N := by rw [hN, hm]; rfl
  have hN2 := sizeL_le names.length b hn hb2
  rw [← hN] at hN2
  have HM := Lib.hid (show makeL names b = setAll (List.replicate N 0) (allP names (8 * N)) by rw [hN]; rfl)
  have hmk := made N (by omega) w
  clear hN hm
  go_enter Tryd.func11, Tryd.ntmps11
  go_wp2_with fail
  refine (bytesFor_any m (by omega) _).mono ?_
  rintro e w1 ⟨rfl, rfl⟩
  rw [hNm]
  clear hNm
  go_wp2_with fail
  clear hmk
  go_loopw [28] (fun i wr => ∃ k : Nat, k ≤ names.length ∧ i = .int .i64 k ∧ wr.heap[w.heap.size + 1]? = some (.cells #[.slice (some ⟨w.heap.size, 0, none⟩) N N] 38 (0, 0)) ∧ Row wr w.heap.size (setAll (List.replicate N 0) (allP (names.take k) (8 * N))) ∧ Old w wr) (fun i _ => names.length - (intOf i).toNat)
  case atStart =>
    refine ⟨0, Nat.zero_le _, rfl, ?_, ?_, (old_alloc _ _).al _⟩
    · simpa using heap_alloc_new (w.alloc (.cells (bs (List.replicate N 0)).toArray 5)) (.cells #[.slice (some ⟨w.heap.size, 0, none⟩) N N] 38)
    · unfold Row
      rw [Below.heap_alloc _ _ _ (by simp)]
      exact heap_alloc_new w _
  case round =>
    obtain ⟨k, hk, rfl, h1, h2, h3⟩ := hrel
    have hfl := setAll_length (allP (names.take k) (8 * N)) (List.replicate N 0)
    rw [List.length_replicate] at hfl
    have c1 := cell_of_one h1
    have ht := h.old h3
    by_cases hlt : k < names.length
    · obtain ⟨hm1, bb, off, rfl, hcl⟩ := hS.at_ k hlt
      have hcl2 := cell_old hcl h3
      have hnl := hls _ (List.getElem_mem hlt)
      have HA := Lib.hid (allP_snoc names k hlt (8 * N))
      have HT := Lib.hid (tell_set (setAll (List.replicate N 0) (allP (names.take k) (8 * N))) names[k] (by omega) (by omega) wr w.heap.size (w.heap.size + 1) ht (by omega) (by omega) (by rw [hfl]; exact h1) h2)
      rw [hfl, ← setAll_append, ← HA.out] at HT
      clear h2 hfl hcl HA
      go_wp2_with fail
      refine HT.out.mono ?_
      rintro e w2 ⟨rfl, h4, h5, h6⟩
      go_wp2
      go_roundw
      case rel => exact ⟨k + 1, by omega, by go_num, h4, h5, Below.trans h3 h6⟩
      case measure => simp [intOf]; omega
    · have hcv := h2.str (cap := N)
      rw [hfl] at hcv
      rw [List.take_of_length_le (by omega), ← HM.out] at hcv
      go_wp2
      go_ret2
      exact ⟨rfl, h3⟩
end Go.Proofs.YtphonnihibikcaaDoor
