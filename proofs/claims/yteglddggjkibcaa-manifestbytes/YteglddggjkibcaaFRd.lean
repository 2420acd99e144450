/-
  The code's reader: take, number, text, file. Conditions: lengths as written.
-/
import Derived.Test.YteglddggjkibcaaFEn2
namespace Go.Proofs.Yteglddggjkibcaa
open Go.RowKit Go.Shelf

theorem ext_B (l : List UInt8) (a b : Nat) : (B l).extract a b = B ((l.drop a).take (b - a)) := by
  apply ByteArray.ext
  simp [B, ByteArray.data_extract]
theorem ext_take (l : List UInt8) (n : Nat) : (B l).extract 0 n = B (l.take n) := by rw [ext_B]; simp
theorem ext_drop (l : List UInt8) (n m : Nat) (h : l.length ≤ m) : (B l).extract n m = B (l.drop n) := by
  rw [ext_B, List.take_of_length_le (by simp; omega)]
theorem ret_str {a b : ByteArray} (h : a = b) : Ending.returned (.string a) = .returned (.string b) := by rw [h]

/-- All that was stays, but for block g. -/
def But (g : Nat) (w w' : World) : Prop := w.grownBy w' (some g)
theorem But.re (g : Nat) (w : World) : But g w w := World.grownBy.refl w _
theorem But.st {g : Nat} {w w' : World} (h : But g w w') (o : Nat) (u : Value) : But g w (w'.setCell ⟨g, o, none⟩ u) :=
  ⟨h.os, h.tape, h.output, by simpa [World.setCell] using h.size, fun i hi hne => (Below.heap_setCell w' ⟨g, o, none⟩ u i (by rintro rfl; exact hne rfl)).trans (h.block i hi hne)⟩
theorem But.tr {g : Nat} {w w1 w2 : World} (h : But g w w1) (k : But g w1 w2) : But g w w2 :=
  ⟨k.os.trans h.os, k.tape.trans h.tape, k.output.trans h.output, Nat.le_trans h.size k.size, fun i hi hne => (k.block i (Nat.lt_of_lt_of_le hi h.size) hne).trans (h.block i hi hne)⟩
theorem But.old {g : Nat} {w w1 w2 : World} (h : But g w w1) (k : Old w1 w2) : But g w w2 :=
  ⟨k.os.trans h.os, k.tape.trans h.tape, k.output.trans h.output, Nat.le_trans h.size k.size, fun i hi hne => (k.block i (Nat.lt_of_lt_of_le hi h.size)).trans (h.block i hi hne)⟩
theorem But.al {g : Nat} {w w1 : World} (h : But g w w1) (o : Obj) : But g w (w1.alloc o) := h.old (old_alloc _ _)
theorem But.fst {g : Nat} {w w' : World} (h : But g w w') {p : Addr} (hp : w.heap.size ≤ p.block) (u : Value) : But g w (w'.setCell p u) :=
  ⟨h.os, h.tape, h.output, by simpa [World.setCell] using h.size, fun i hi hne => (Below.heap_setCell w' p u i (by omega)).trans (h.block i hi hne)⟩
theorem Bk.but {w w1 : World} {b g : Nat} {u : TypeId} {cs : Array Value} (h : Bk w b u cs) (k : But g w w1) (hne : b ≠ g) : Bk w1 b u cs :=
  h.grown k (by intro e; injection e with e; exact hne e)

/-- The number whose bytes these are, the lowest one first. -/
def lowV (l : List UInt8) : Nat := l.foldr (fun b n => b.toNat + 256 * n) 0
theorem lowV_lt (l : List UInt8) : lowV l < 256 ^ l.length := by
  induction l with
  | nil => simp [lowV]
  | cons b l ih =>
    have hb := b.toNat_lt
    simp only [lowV, List.foldr_cons, List.length_cons, Nat.pow_succ] at *
    omega
theorem lowV_snoc (l : List UInt8) (b : UInt8) : lowV (l ++ [b]) = lowV l + 256 ^ l.length * b.toNat := by
  induction l with
  | nil => simp [lowV]
  | cons c l ih =>
    simp only [lowV, List.cons_append, List.foldr_cons, List.length_cons, Nat.pow_succ] at *
    rw [ih, Nat.mul_add, ← Nat.add_assoc]
    congr 1
    rw [Nat.mul_comm (256 ^ l.length) 256, Nat.mul_assoc]
theorem lowV_take1 (s : List UInt8) : lowV (s.take 1) ≤ 255 := by
  have h := lowV_lt (s.take 1)
  have h2 : (s.take 1).length ≤ 1 := by simp; omega
  have h3 : 256 ^ (s.take 1).length ≤ 256 ^ 1 := Nat.pow_le_pow_right (by omega) h2
  omega
theorem lowV_take2 (s : List UInt8) : lowV (s.take 2) ≤ 65535 := by
  have h := lowV_lt (s.take 2)
  have h2 : (s.take 2).length ≤ 2 := by simp; omega
  have h3 : 256 ^ (s.take 2).length ≤ 256 ^ 2 := Nat.pow_le_pow_right (by omega) h2
  omega
theorem lowV_take8 (s : List UInt8) : lowV (s.take 8) < 18446744073709551616 := by
  have h := lowV_lt (s.take 8)
  have h2 : (s.take 8).length ≤ 8 := by simp; omega
  have h3 : 256 ^ (s.take 8).length ≤ 256 ^ 8 := Nat.pow_le_pow_right (by omega) h2
  omega

theorem wrap_u64_id (x : Nat) (h : x < 18446744073709551616) : IntKind.u64.wrap (x : Int) = (x : Int) := by
  rw [IntKind.wrap_u64]; omega
theorem or_u64 (a b : Nat) (ha : a < 18446744073709551616) (hb : b < 18446744073709551616) : bits BinOp.or IntKind.u64 (a : Int) (b : Int) = ((a ||| b : Nat) : Int) := by
  show IntKind.u64.wrap ((BitVec.ofInt 64 (a : Int) ||| BitVec.ofInt 64 (b : Int)).toNat : Int) = _
  rw [BitVec.toNat_or, BitVec.ofInt_natCast, BitVec.ofInt_natCast, BitVec.toNat_ofNat, BitVec.toNat_ofNat, Nat.mod_eq_of_lt (by omega), Nat.mod_eq_of_lt (by omega)]
  exact wrap_u64_id _ (by have : a ||| b < 2 ^ 64 := Nat.or_lt_two_pow (by omega) (by omega); omega)
theorem or_low (a b k : Nat) (ha : a < 256 ^ k) (hb : b < 256) (hk : k < 8) :
    bits BinOp.or IntKind.u64 (a : Int) (IntKind.u64.wrap (IntKind.u64.wrap (b : Int) * 2 ^ (8 * k))) = ((a + 256 ^ k * b : Nat) : Int) := by
  have h7 : 256 ^ k ≤ 256 ^ 7 := Nat.pow_le_pow_right (by omega) (by omega)
  have h1 : b * 256 ^ k ≤ 255 * 256 ^ 7 := Nat.mul_le_mul (by omega) h7
  rw [wrap_u64_id b (by omega)]
  have e : ((b : Int) * 2 ^ (8 * k)) = ((b * 256 ^ k : Nat) : Int) := by
    rw [← pow8]; simp
  rw [e, wrap_u64_id _ (by omega), or_u64 _ _ (by omega) (by omega)]
  congr 1
  rw [Nat.or_comm, Nat.mul_comm b, ← pow8, ← Nat.two_pow_add_eq_or_of_lt (by rw [pow8]; exact ha), Nat.add_comm]

/-- []byte(s): where its bytes lie. -/
def RowB (W : World) (g : Nat) (l : List UInt8) : Prop := ∀ j (hj : j < l.length), W.cell? ⟨g, j, none⟩ = some (.int .u8 (l[j].toNat : Int))
theorem bytes_of (l : List UInt8) (w : World) : ∃ w1 cap, (convert 9 81 (.string (B l))).run Try.prog w = .ok (.slice (some ⟨w.heap.size, 0, none⟩) l.length cap) w1 ∧ RowB w1 w.heap.size l ∧ Old w w1 := by
  have hr := run_bytes_of_string (P := Try.prog) w 9 81 5 (B l) Try.underlying9 Try.underlying81 Try.underlying5
  have hsz : (B l).size = l.length := by simp [ByteArray.size]
  rw [hsz] at hr
  refine ⟨_, _, hr, ?_, (Old.re w).dr.al _⟩
  generalize grownCap w l.length 0 5 = cap
  intro j hj
  have h1 := heap_alloc_new w.drew (.cells (bytesRow (B l) cap) 5 ((bytesRow (B l) cap).size, (bytesRow (B l) cap).size + 1))
  rw [show w.drew.heap.size = w.heap.size from rfl] at h1
  have h2 : l.length ≤ (bytesRow (B l) cap).size := by simp [bytesRow]
  have h3 : (bytesRow (B l) cap)[j]? = some (.int .u8 (l[j].toNat : Int)) := by
    unfold bytesRow
    rw [Array.getElem?_append_left (by simpa using hj)]
    simp [hj]
  generalize w.drew.alloc (.cells (bytesRow (B l) cap) 5 ((bytesRow (B l) cap).size, (bytesRow (B l) cap).size + 1)) = W at h1 ⊢
  simp [World.cell?, h1, h3]

/-- Block g is a reader: what is left. -/
abbrev Rd (w : World) (g : Nat) (s : List UInt8) : Prop := Bk w g 91 #[.string (B s)]
set_option maxHeartbeats 2000000 in
theorem rtake_any (g : Nat) (s : List UInt8) (k : Nat) (w : World) (h : Rd w g s) (hl : s.length ≤ 10000000) (hk : k ≤ 10000000) :
    Calls Try.prog 70 #[.pointer (some ⟨g, 0, none⟩), .int .i64 k] w fun r w' => r = .returned (.string (B (s.take k))) ∧ Rd w' g (s.drop k) ∧ But g w w' := by
  have c0 : w.cell? ⟨g, 0, none⟩ = some (.string (B s)) := h.cell 0
  have fr := h.fr 0
  by_cases hks : k ≤ s.length
  · have hz : (k : Int) ≤ (s.length : Int) := by omega
    go_enter Try.func70, Try.ntmps70
    go_wp2
    all_goals try (exfalso; omega)
    all_goals
      go_ret
      refine ⟨ret_str (ext_take _ _), ?_, (But.re _ _).st 0 _⟩
      have := h.set_ 0 (.string (B (s.drop k)))
      rw [ext_drop _ _ _ (Nat.le_refl _)]
      exact this
  · have hz : (s.length : Int) < (k : Int) := by omega
    have HT := Lib.hid (show s.take k = s by rw [List.take_of_length_le (by omega)])
    have HD := Lib.hid (show s.drop k = [] by rw [List.drop_of_length_le (by omega)])
    go_enter Try.func70, Try.ntmps70
    go_wp2
    all_goals try (exfalso; omega)
    all_goals
      go_ret
      rw [HT.out, HD.out]
      refine ⟨ret_str (by rw [ext_take, List.take_length]), ?_, (But.re _ _).st 0 _⟩
      exact h.set_ 0 (.string ByteArray.empty)
set_option maxRecDepth 100000 in
set_option maxHeartbeats 2000000 in
theorem rnumber_any (g : Nat) (s : List UInt8) (k : Nat) (w : World) (h : Rd w g s) (hl : s.length ≤ 10000000) (hk : k ≤ 8) :
    Calls Try.prog 51 #[.pointer (some ⟨g, 0, none⟩), .int .i64 k] w fun r w' => r = .returned (.int .u64 (lowV (s.take k) : Nat)) ∧ Rd w' g (s.drop k) ∧ But g w w' := by
  have hg := h.lt
  go_enter Try.func51, Try.ntmps51
  go_wp2_with fail
  refine (rtake_any g s k _ h hl (by omega)).mono ?_
  rintro r w1 ⟨rfl, h1, hb⟩
  have hlen : (s.take k).length ≤ 8 := by simp; omega
  generalize ht : s.take k = t at *
  have HT := Lib.hid ht
  clear ht
  obtain ⟨w2, cp, hcv, hrow, o2⟩ := bytes_of t w1
  have hb := hb.old o2
  have h1 := h1.old o2
  have HRow := Lib.hid hrow
  clear hrow o2 h
  generalize w1.heap.size = gg at *
  go_wp2
  go_loop [5, 13] (fun n i => ∃ k : Nat, k ≤ t.length ∧ i = .int .i64 k ∧ n = .int .u64 (lowV (t.take k) : Nat)) (fun _ i => t.length - (intOf i).toNat)
  case atStart => exact ⟨0, Nat.zero_le _, rfl, rfl⟩
  case round =>
    obtain ⟨j, hj, rfl, rfl⟩ := hrel
    by_cases hlt : j < t.length
    · have hx : w2.cell? ⟨gg, j, none⟩ = some (.int .u8 (t[j].toNat : Int)) := HRow.out j hlt
      have hw8 : IntKind.i64.wrap (8 * (j : Int)) = 8 * (j : Int) := by rw [IntKind.wrap_i64]; omega
      have z0 : (0 : Int) ≤ 8 * (j : Int) := by omega
      have z1 : 8 * (j : Int) ≤ 64 := by omega
      have z2 : (8 * (j : Int)).toNat = 8 * j := by omega
      go_wp2
      go_round
      case rel =>
        refine ⟨j + 1, by omega, by go_num, ?_⟩
        congr 1
        have hl1 := lowV_lt (t.take j)
        have hl2 : (t.take j).length = j := by simp; omega
        rw [hl2] at hl1
        refine (or_low _ (t[j].toNat) j hl1 t[j].toNat_lt (by omega)).trans ?_
        rw [List.take_succ_eq_append_getElem hlt, lowV_snoc, hl2]
      case measure => simp [intOf]; omega
    · obtain rfl : j = t.length := by omega
      go_wp2
      go_ret
      refine ⟨ret_int ?_, h1, hb⟩
      rw [HT.out]
/-- A text with its length ahead, as the reader takes it: it, and what is left. -/
def rdT (s : List UInt8) : List UInt8 × List UInt8 := ((s.drop 1).take (lowV (s.take 1)), (s.drop 1).drop (lowV (s.take 1)))
theorem rdT_len (s : List UInt8) : (rdT s).2.length ≤ s.length := by
  simp only [rdT, List.length_drop]; omega
theorem rdT_got (s : List UInt8) : (rdT s).1.length ≤ 255 := by
  have := lowV_take1 s
  simp only [rdT, List.length_take]; omega
/-- A file, as the reader takes it. -/
def rdF (s : List UInt8) : Itm × List UInt8 :=
  (⟨(lowV (s.take 1) : Nat), (rdT (s.drop 1)).1, (rdT (rdT (s.drop 1)).2).1, (rdT (rdT (rdT (s.drop 1)).2).2).1, (lowV ((rdT (rdT (rdT (s.drop 1)).2).2).2.take 2) : Nat)⟩, (rdT (rdT (rdT (s.drop 1)).2).2).2.drop 2)
theorem rdF_len (s : List UInt8) : (rdF s).2.length ≤ s.length := by
  have h1 := rdT_len (s.drop 1)
  have h2 := rdT_len (rdT (s.drop 1)).2
  have h3 := rdT_len (rdT (rdT (s.drop 1)).2).2
  simp only [rdF, List.length_drop] at *
  omega
set_option maxHeartbeats 2000000 in
theorem rtext_any (g : Nat) (s : List UInt8) (w : World) (h : Rd w g s) (hl : s.length ≤ 10000000) :
    Calls Try.prog 53 #[.pointer (some ⟨g, 0, none⟩)] w fun r w' => r = .returned (.string (B (rdT s).1)) ∧ Rd w' g (rdT s).2 ∧ But g w w' := by
  have HL := Lib.hid (lowV_take1 s)
  go_enter Try.func53, Try.ntmps53
  go_wp2_with fail
  refine (rnumber_any g s 1 _ h hl (by omega)).mono ?_
  rintro r w1 ⟨rfl, h1, hb⟩
  obtain ⟨n, hn⟩ : ∃ n, n = lowV (s.take 1) := ⟨_, rfl⟩
  have HR := Lib.hid (show rdT s = ((s.drop 1).take n, (s.drop 1).drop n) by rw [hn]; rfl)
  have hn2 : n ≤ 255 := by have := HL.out; omega
  rw [← hn]
  have hw : IntKind.i64.wrap (n : Int) = (n : Int) := by rw [IntKind.wrap_i64]; omega
  clear hn
  have hs1 : (s.drop 1).length ≤ 10000000 := by rw [List.length_drop]; omega
  generalize s.drop 1 = s1 at *
  go_wp2_with fail
  refine (rtake_any g s1 n _ h1 hs1 (by omega)).mono ?_
  rintro r w2 ⟨rfl, h2, hb2⟩
  go_wp2
  go_ret
  rw [HR.out]
  exact ⟨rfl, h2, hb.tr hb2⟩
set_option maxRecDepth 10000 in
set_option maxHeartbeats 4000000 in
theorem rfile_any (g : Nat) (s : List UInt8) (w : World) (h : Rd w g s) (hl : s.length ≤ 10000000) :
    Calls Try.prog 52 #[.pointer (some ⟨g, 0, none⟩)] w fun r w' => r = .returned (iv (rdF s).1) ∧ Rd w' g (rdF s).2 ∧ But g w w' := by
  have hg : g < w.heap.size := h.lt
  go_enter Try.func52, Try.ntmps52
  go_wp2_with fail
  have hb := new_bk w 60 #[.int .i64 0, .string { data := #[] }, .string { data := #[] }, .string { data := #[] }, .int .i64 0]
  have h0 : Rd (w.alloc (.cells #[.int .i64 0, .string { data := #[] }, .string { data := #[] }, .string { data := #[] }, .int .i64 0] 60)) g s := h.alloc _
  have k0 : But g w (w.alloc (.cells #[.int .i64 0, .string { data := #[] }, .string { data := #[] }, .string { data := #[] }, .int .i64 0] 60)) := (But.re g w).al _
  generalize w.alloc (.cells #[.int .i64 0, .string { data := #[] }, .string { data := #[] }, .string { data := #[] }, .int .i64 0] 60) = w0 at *
  obtain ⟨gf, hgf⟩ : ∃ gf, gf = w.heap.size := ⟨_, rfl⟩
  have hne : gf ≠ g := by omega
  have hgf2 : w.heap.size ≤ gf := by omega
  rw [← hgf] at hb ⊢
  clear hg hgf h
  have HN := Lib.hid hgf2
  clear hgf2
  obtain ⟨s1, hs1⟩ : ∃ s1, s1 = s.drop 1 := ⟨_, rfl⟩
  obtain ⟨lv, hlv⟩ : ∃ lv, lv = lowV (s.take 1) := ⟨_, rfl⟩
  obtain ⟨nm, hnm⟩ : ∃ nm, nm = (rdT s1).1 := ⟨_, rfl⟩
  obtain ⟨s2, hs2⟩ : ∃ s2, s2 = (rdT s1).2 := ⟨_, rfl⟩
  obtain ⟨lo, hlo⟩ : ∃ lo, lo = (rdT s2).1 := ⟨_, rfl⟩
  obtain ⟨s3, hs3⟩ : ∃ s3, s3 = (rdT s2).2 := ⟨_, rfl⟩
  obtain ⟨hi, hhi⟩ : ∃ hi, hi = (rdT s3).1 := ⟨_, rfl⟩
  obtain ⟨s4, hs4⟩ : ∃ s4, s4 = (rdT s3).2 := ⟨_, rfl⟩
  obtain ⟨mn, hmn⟩ : ∃ mn, mn = lowV (s4.take 2) := ⟨_, rfl⟩
  obtain ⟨s5, hs5⟩ : ∃ s5, s5 = s4.drop 2 := ⟨_, rfl⟩
  have HF := Lib.hid (show rdF s = (⟨(lv : Int), nm, lo, hi, (mn : Int)⟩, s5) by rw [hs5, hmn, hs4, hhi, hs3, hlo, hs2, hnm, hlv, hs1]; rfl)
  have b1 : lv ≤ 255 := by have := lowV_take1 s; omega
  have b2 : mn ≤ 65535 := by have := lowV_take2 s4; omega
  have e1 : s1.length ≤ 10000000 := by rw [hs1, List.length_drop]; omega
  have e2 : s2.length ≤ 10000000 := by have := rdT_len s1; rw [← hs2] at this; omega
  have e3 : s3.length ≤ 10000000 := by have := rdT_len s2; rw [← hs3] at this; omega
  have e4 : s4.length ≤ 10000000 := by have := rdT_len s3; rw [← hs4] at this; omega
  have hw1 : IntKind.i64.wrap (lv : Int) = (lv : Int) := by rw [IntKind.wrap_i64]; omega
  have hw2 : IntKind.i64.wrap (mn : Int) = (mn : Int) := by rw [IntKind.wrap_i64]; omega
  have C1 := Lib.hid (rnumber_any g s 1 w0 h0 hl (by omega))
  rw [← hs1, ← hlv] at C1
  have C2 := Lib.hid fun (W : World) (h : Rd W g s1) => rtext_any g s1 W h e1
  have C3 := Lib.hid fun (W : World) (h : Rd W g s2) => rtext_any g s2 W h e2
  have C4 := Lib.hid fun (W : World) (h : Rd W g s3) => rtext_any g s3 W h e3
  have C5 := Lib.hid fun (W : World) (h : Rd W g s4) => rnumber_any g s4 2 W h e4 (by omega)
  rw [← hnm, ← hs2] at C2
  rw [← hlo, ← hs3] at C3
  rw [← hhi, ← hs4] at C4
  rw [← hmn, ← hs5] at C5
  clear hs1 hlv hnm hs2 hlo hs3 hhi hs4 hmn hs5 e1 e2 e3 e4 b1 b2 hl h0
  refine C1.out.mono ?_
  rintro r w1 ⟨rfl, h1, k1⟩
  have hb := hb.but k1 hne
  have k0 := k0.tr k1
  clear k1 C1
  go_wp2_with fail
  refine (C2.out w1 h1).mono ?_
  rintro r w2 ⟨rfl, h2, k1⟩
  have hb := hb.but k1 hne
  have k0 := k0.tr k1
  clear k1 C2 h1
  go_wp2_with fail
  refine (C3.out w2 h2).mono ?_
  rintro r w3 ⟨rfl, h3, k1⟩
  have hb := hb.but k1 hne
  have k0 := k0.tr k1
  clear k1 C3 h2
  go_wp2_with fail
  refine (C4.out w3 h3).mono ?_
  rintro r w4 ⟨rfl, h4, k1⟩
  have hb := hb.but k1 hne
  have k0 := k0.tr k1
  clear k1 C4 h3
  go_wp2_with fail
  refine (C5.out w4 h4).mono ?_
  rintro r w5 ⟨rfl, h5, k1⟩
  have hb := hb.but k1 hne
  have k0 := k0.tr k1
  clear k1 C5 h4
  have y0 := hb.cell 0
  have y1 := hb.cell 1
  have y2 := hb.cell 2
  have y3 := hb.cell 3
  have y4 := hb.cell 4
  have f0 := hb.fr 0
  have f1 := hb.fr 1
  have f2 := hb.fr 2
  have f3 := hb.fr 3
  have f4 := hb.fr 4
  go_wp2
  have hb5 := ((((hb.set_ 0 (.int .i64 (lv : Int))).set_ 1 (.string (B nm))).set_ 2 (.string (B lo))).set_ 3 (.string (B hi))).set_ 4 (.int .i64 (mn : Int))
  have hr5 : Rd _ g s5 := ((((h5.far (p := ⟨gf, 0, none⟩) hne.symm (.int .i64 (lv : Int))).far (p := ⟨gf, 1, none⟩) hne.symm (.string (B nm))).far (p := ⟨gf, 2, none⟩) hne.symm (.string (B lo))).far (p := ⟨gf, 3, none⟩) hne.symm (.string (B hi))).far (p := ⟨gf, 4, none⟩) hne.symm (.int .i64 (mn : Int))
  have k5 := ((((k0.fst (p := ⟨gf, 0, none⟩) HN.out (.int .i64 (lv : Int))).fst (p := ⟨gf, 1, none⟩) HN.out (.string (B nm))).fst (p := ⟨gf, 2, none⟩) HN.out (.string (B lo))).fst (p := ⟨gf, 3, none⟩) HN.out (.string (B hi))).fst (p := ⟨gf, 4, none⟩) HN.out (.int .i64 (mn : Int))
  have z0 := hb5.cell 0
  have z1 := hb5.cell 1
  have z2 := hb5.cell 2
  have z3 := hb5.cell 3
  have z4 := hb5.cell 4
  refine bodyPost_ret (v := iv ⟨(lv : Int), nm, lo, hi, (mn : Int)⟩) (by simp [results, Try.results52, go_sem, z0, z1, z2, z3, z4]) rfl ?_
  rw [HF.out]
  exact ⟨rfl, hr5, k5⟩
end Go.Proofs.Yteglddggjkibcaa
