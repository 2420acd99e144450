/-
  CrcTurned: whatever text comes in, and whichever bit is turned, the law answers true, and leaves all as it was. Condition: the table is laid as the program's text lays it.
-/
import Derived.Test.YtjnhggdkllhinaaDoorLift
import Derived.Laws.IdiomStrings
namespace Go.Proofs.YtjnhggdkllhinaaDoor
open Go.ChangeShapes Go.WideShapes Go.ChangeAt Go.RowKit Go.Joins Go.Deep

theorem set_parts (l : List UInt8) (j : Nat) (c : UInt8) (h : j < l.length) : l.set j c = l.take j ++ c :: l.drop (j + 1) := by
  rw [List.set_eq_take_append_cons_drop, if_pos h]
theorem get_parts (l : List UInt8) (j : Nat) (h : j < l.length) : l = l.take j ++ l[j] :: l.drop (j + 1) := by
  conv => lhs; rw [← List.take_append_drop j l, List.drop_eq_getElem_cons h]

/-- One byte behind the length that is another one is seen. -/
theorem getV_turned (s : List UInt8) (q : Nat) (c : UInt8) (hs : s.length ≤ 65535) (h2 : 2 ≤ q) (hq : q < (put s).length) (hc : c ≠ (put s)[q]) : getV ((put s).set q c) = ([], 0, 20) := by
  have hp := put_length s
  obtain ⟨a, ha, la⟩ : ∃ a, low2 s.length = a ∧ a.length = 2 := ⟨_, rfl, rfl⟩
  obtain ⟨n, hn, ln⟩ : ∃ n, sumL (a ++ s) = n ∧ n < 4294967296 := ⟨_, rfl, more_lt _ _⟩
  obtain ⟨d, hd, ld⟩ : ∃ d, low4 n = d ∧ d.length = 4 := ⟨_, rfl, rfl⟩
  have hput : put s = a ++ (d ++ s) := by
    unfold put; rw [ha, hn, hd, List.append_assoc]
  have hla : lowV a = s.length := by rw [← ha, lowV_low2 _ (by omega)]
  have hld : lowV d = n := by rw [← hd, lowV_low4 _ ln]
  have hset : (put s).set q c = a ++ (d ++ s).set (q - 2) c := by
    rw [hput, List.set_append_right _ _ (by omega), la]
  have hl : ((put s).set q c).length = 6 + s.length := by rw [List.length_set, hp]
  unfold getV
  rw [if_neg (by intro e; rw [e] at hl; simp at hl; omega), if_neg (by omega)]
  have e2 : ((put s).set q c).take 2 = a := by rw [hset, List.take_left' la]
  rw [e2, hla, if_neg (by omega)]
  have e3 : ((put s).set q c).drop 2 = (d ++ s).set (q - 2) c := by rw [hset, List.drop_left' la]
  have e6 : ((put s).set q c).drop 6 = ((d ++ s).set (q - 2) c).drop 4 := by rw [← e3, List.drop_drop]
  rw [e3, e6]
  by_cases h6 : q < 6
  · rw [List.set_append_left _ _ (by omega), List.take_left' (by simpa using ld), List.drop_left' (by simpa using ld), List.take_of_length_le (Nat.le_refl _), hn, ← hld]
    rw [if_neg ?_]
    intro e
    have e4 := lowV_inj (by simp) e
    apply hc
    have e5 : d[q - 2]? = (d.set (q - 2) c)[q - 2]? := by rw [← e4]
    rw [List.getElem?_set_self (by omega)] at e5
    have e7 : (put s)[q]? = d[q - 2]? := by
      rw [hput, List.getElem?_append_right (by omega), la, List.getElem?_append_left (by omega)]
    rw [List.getElem?_eq_getElem hq, e5] at e7
    exact (Option.some.inj e7).symm
  · rw [List.set_append_right _ _ (by omega), ld, List.take_left' ld, List.drop_left' ld, hld, ← hn]
    have hj : q - 2 - 4 < s.length := by omega
    generalize hjj : q - 2 - 4 = j at *
    rw [List.take_of_length_le (by simp)]
    rw [if_neg ?_]
    rw [set_parts s j c hj]
    intro e
    have e1 := get_parts s j hj
    have hcs : c ≠ s[j] := by
      intro e8
      apply hc
      have e7 : (put s)[q]? = s[j]? := by
        rw [hput, List.getElem?_append_right (by omega), la, List.getElem?_append_right (by omega), ld, hjj]
      rw [List.getElem?_eq_getElem hq, List.getElem?_eq_getElem hj] at e7
      rw [e8]
      exact (Option.some.inj e7).symm
    have e9 : sumL (a ++ s) = sumL ((a ++ s.take j) ++ s[j] :: s.drop (j + 1)) := by
      rw [List.append_assoc, ← e1]
    rw [e9, ← List.append_assoc] at e
    exact more_apart 0 (a ++ s.take j) (s.drop (j + 1)) hcs e

/-- Block g holds these bytes, and they may be written. -/
def Row (W : World) (g : Nat) (l : List UInt8) : Prop := ∀ j (hj : j < l.length), W.cell? ⟨g, j, none⟩ = some (.int .u8 (l[j].toNat : Int)) ∧ W.frozen? ⟨g, j, none⟩ = false

theorem Row.drew {W : World} {g : Nat} {l : List UInt8} (h : Row W g l) : Row W.drew g l := h
theorem Row.cells {W : World} {g : Nat} {l : List UInt8} (h : Row W g l) : ∀ j (hj : j < l.length), W.cell? (Addr.add ⟨g, 0, none⟩ j) = some (.int .u8 (l[j].toNat : Int)) := fun j hj => by
  rw [Addr.add_lit, Nat.zero_add]; exact (h j hj).1
theorem Row.set {W : World} {g : Nat} {l : List UInt8} (h : Row W g l) {q : Nat} (hq : q < l.length) (c : UInt8) : Row (W.setCell ⟨g, q, none⟩ (.int .u8 (c.toNat : Int))) g (l.set q c) := by
  intro j hj
  have hj2 : j < l.length := by simpa using hj
  rw [World.frozen?_setCell]
  refine ⟨?_, (h j hj2).2⟩
  by_cases e : q = j
  · subst e
    rw [World.cell?_setCell_same _ _ _ (h q hq).1, List.getElem_set_self]
  · rw [World.cell?_setCell_other _ _ _ _ (by intro e2; cases e2; exact e rfl), (h j hj2).1, List.getElem_set_ne e]

theorem xor_u8 (a b : Nat) (ha : a < 256) (hb : b < 256) : bits BinOp.xor IntKind.u8 (a : Int) (b : Int) = ((a ^^^ b : Nat) : Int) := by
  show IntKind.u8.wrap ((BitVec.ofInt 8 (a : Int) ^^^ BitVec.ofInt 8 (b : Int)).toNat : Int) = _
  rw [BitVec.toNat_xor, BitVec.ofInt_natCast, BitVec.ofInt_natCast, BitVec.toNat_ofNat, BitVec.toNat_ofNat, Nat.mod_eq_of_lt (by omega), Nat.mod_eq_of_lt (by omega)]
  have : a ^^^ b < 2 ^ 8 := Nat.xor_lt_two_pow (by omega) (by omega)
  rw [IntKind.wrap_u8]
  omega
/-- A byte with one bit turned is another one. -/
theorem turn_bit (b : UInt8) (r : Nat) (hr : r < 8) : ∃ c : UInt8, bits BinOp.xor IntKind.u8 (b.toNat : Int) (2 ^ r % 256) = (c.toNat : Int) ∧ c ≠ b := by
  have h1 : 2 ^ r < 256 := by
    have : 2 ^ r ≤ 2 ^ 7 := Nat.pow_le_pow_right (by omega) (by omega)
    omega
  have hx : b.toNat ^^^ 2 ^ r < 2 ^ 8 := Nat.xor_lt_two_pow b.toNat_lt (by omega)
  have e : (2 : Int) ^ r % 256 = ((2 ^ r : Nat) : Int) := by
    rw [show (2 : Int) ^ r = ((2 ^ r : Nat) : Int) by simp]
    generalize (2 : Nat) ^ r = y at *
    omega
  refine ⟨UInt8.ofNat (b.toNat ^^^ 2 ^ r), ?_, ?_⟩
  · rw [e, xor_u8 _ _ b.toNat_lt h1, UInt8.toNat_ofNat', Nat.mod_eq_of_lt hx]
  · intro e2
    have e3 := congrArg UInt8.toNat e2
    rw [UInt8.toNat_ofNat', Nat.mod_eq_of_lt hx] at e3
    have e4 : 2 ^ r = 0 := by
      have := congrArg (b.toNat ^^^ ·) e3
      simp only [← Nat.xor_assoc, Nat.xor_self, Nat.zero_xor] at this
      exact this
    have : 0 < 2 ^ r := Nat.two_pow_pos r
    omega

/-- []byte(s). -/
theorem bytes_of (l : List UInt8) (w : World) : ∃ w1 cap, (convert 9 38 (.string (B l))).run Tryd.prog w = .ok (.slice (some ⟨w.heap.size, 0, none⟩) l.length cap) w1 ∧ Row w1 w.heap.size l ∧ Old w w1 := by
  have hr := run_bytes_of_string (P := Tryd.prog) w 9 38 5 (B l) Tryd.underlying9 Tryd.underlying38 Tryd.underlying5
  have hsz : (B l).size = l.length := by simp [ByteArray.size]
  rw [hsz] at hr
  refine ⟨_, _, hr, ?_, (Old.re w).dr.al _⟩
  generalize grownCap w l.length 0 5 = cap
  intro j hj
  have h1 := heap_alloc_new w.drew (.cells (bytesRow (B l) cap) 5 ((bytesRow (B l) cap).size, (bytesRow (B l) cap).size + 1))
  rw [show w.drew.heap.size = w.heap.size from rfl] at h1
  have h2 : l.length ≤ (bytesRow (B l) cap).size := by simp [bytesRow]
  have h3 : (bytesRow (B l) cap)[j]? = some (.int .u8 (l[j].toNat : Int)) := by
    unfold bytesRow
    rw [Array.getElem?_append_left (by simpa using hj)]
    simp [hj]
  generalize w.drew.alloc (.cells (bytesRow (B l) cap) 5 ((bytesRow (B l) cap).size, (bytesRow (B l) cap).size + 1)) = W at h1 ⊢
  constructor
  · simp [World.cell?, h1, h3]
  · simp [World.frozen?, h1]
    omega

set_option maxRecDepth 10000 in
set_option maxHeartbeats 4000000 in
theorem law_turned (s : List UInt8) (m : Nat) (hls : s.length ≤ maxLen) (hm : m < 65536) (w : World) (ht : Tab w) :
    Calls Tryd.prog 5 #[.string (B s), .int .u16 m] w fun e w' => e = .returned (.bool true) ∧ Old w w' := by
  have hls2 : s.length ≤ 2 ^ 63 - 1 := hls
  by_cases hl : s.length ≤ 1000
  · go_enter Tryd.func5, Tryd.ntmps5
    go_wp2_with fail
    refine (shown_any _ ht).mono ?_
    rintro e w1 ⟨rfl, h1⟩
    go_wp2_with fail
    refine (put_yes s (by omega) _ (ht.old h1)).mono ?_
    rintro e w2 ⟨rfl, h2⟩
    have h2 := h1.tr h2
    have HG := Lib.hid (fun q c => getV_turned s q c (by omega))
    have hp := put_length s
    generalize put s = p at *
    have hneq : ((p.length : Int) != 6 + (s.length : Int)) = false := by rw [bne_eq_false_iff_eq]; omega
    obtain ⟨w3, cp, hcv, hrow, h3⟩ := bytes_of p w2
    have h4 := h2.tr h3
    have hsz2 := h2.size
    clear h3 h2
    go_wp2_with fail
    obtain ⟨k, hk⟩ : ∃ k, k = 16 + m % (8 * (6 + s.length) - 16) := ⟨_, rfl⟩
    have hkm := Nat.mod_lt m (show 0 < 8 * (6 + s.length) - 16 by omega)
    have hkI : wrap64 (16 + (m : Int) % (8 * (6 + (s.length : Int)) - 16)) = (k : Int) := by
      have e : ((8 : Int) * (6 + (s.length : Int)) - 16) = ((8 * (6 + s.length) - 16 : Nat) : Int) := by omega
      rw [hk, e]
      unfold wrap64
      omega
    rw [hkI]
    have hk1 : 16 ≤ k := by omega
    have hk2 : k < 8 * (6 + s.length) := by omega
    clear hkI hk hkm
    obtain ⟨q, hq⟩ : ∃ q, q = k / 8 := ⟨_, rfl⟩
    obtain ⟨r, hr⟩ : ∃ r, r = k % 8 := ⟨_, rfl⟩
    have hqI : (k : Int) / 8 = (q : Int) := by omega
    have hrI : (k : Int) % 8 = (r : Int) := by omega
    have hq2 : 2 ≤ q := by omega
    have hq3 : q < 6 + s.length := by omega
    have hr8 : r < 8 := by omega
    clear hq hr hk1 hk2
    have hqp : q < p.length := by omega
    obtain ⟨hc1, hf1⟩ := hrow q hqp
    have j0 : (0 : Int) ≤ (q : Int) := by omega
    have j1 : (q : Int) < 6 + (s.length : Int) := by omega
    have j2 : (0 : Int) ≤ (r : Int) := by omega
    have j3 : (r : Int) < 8 := by omega
    generalize hbq : p[q] = b at *
    go_region
    obtain ⟨c, hcI, hcb⟩ := turn_bit b r hr8
    rw [hcI]
    have hrow2 := (hrow.set hqp c).drew
    have h5 := (h4.st (p := ⟨w2.heap.size, q, none⟩) hsz2 (.int .u8 (c.toNat : Int))).dr
    have hsl : (p.set q c).length = 6 + s.length := by rw [List.length_set]; exact hp
    have HE := Lib.hid (HG.out q c hq2 hqp (by rw [hbq]; exact hcb))
    have hcv2 := run_convert_bytes_back (P := Tryd.prog) _ 38 9 5 ⟨w2.heap.size, 0, none⟩ cp (p.set q c) Tryd.underlying38 Tryd.underlying5 Tryd.underlying9 hrow2.cells
    rw [hsl] at hcv2
    clear HG hrow hrow2 hc1 hf1 hcv hcI h4
    generalize p.set q c = p2 at *
    generalize (w3.setCell ⟨w2.heap.size, q, none⟩ (.int .u8 (c.toNat : Int))).drew = w4 at *
    go_wp2_with fail
    refine (get_any p2 (by omega) _ (ht.old h5)).mono ?_
    rintro e w6 ⟨rfl, h6⟩
    rw [getR_of HE.out]
    go_wp2
    go_ret
    exact ⟨rfl, h5.tr h6.old⟩
  · go_enter Tryd.func5, Tryd.ntmps5
    go_wp2_with fail
    refine (shown_any _ ht).mono ?_
    rintro e w1 ⟨rfl, h1⟩
    go_wp2
    go_ret
    exact ⟨rfl, h1⟩

theorem crcTurned_contract (H : Type) (enc : TypeId × Value → H) (W : World) (base : Nat) (args : Array Value) (ds gs : List (DataW H)) (before : List MemPlace)
    (hval0 : ∀ (j : Nat) t v, Tryd.f5.params[j]? = some t → args[j]? = some v → Value.okWide Tryd.prog W .any base t v)
    (hW : DataW.Whole enc Tryd.prog Tryd.f5.params.toList Rows.crcTurnedSpec.vars false W args.toList ds gs before) (hL : laidMetH Tryd.prog Rows.crcTurnedRow.laid W) :
    Calls Tryd.prog 5 args W fun e W' => ∃ v, e = .returned v ∧ Rows.crcTurnedSpec.post enc Tryd.prog Tryd.f5 false true false false W args v W' := by
  have ht : Tab W := table hL
  have hval : ∀ (j : Nat) t v, Tryd.f5.params[j]? = some t → args[j]? = some v → Value.okWide Tryd.prog W .any base t v := hval0
  have hW' := hW
  obtain ⟨p, q, hA0, hV, rfl, hfz, hnd⟩ := hW
  have hA : DataW.TrodAll enc Tryd.prog W 0 (fun _ => true) true Tryd.f5.params.toList args.toList ds p := hA0
  rw [Tryd.params5] at hA hval
  obtain ⟨v0, v1, d0, d1, p0, p1, rfl, rfl, rfl, h0, h1⟩ := trodAll_two hA
  obtain ⟨rfl, rfl⟩ := trodVars_none hV
  have hlt : ∀ x ∈ p0 ++ (p1), x.block < W.heap.size := fun x hx => hW'.lt x (by simpa using hx)
  have k0 := h0
  have k1 := h1
  obtain ⟨a0, rfl, o0⟩ := open_str (hval 0 9 v0 rfl rfl) h0
  obtain ⟨a1, rfl, o1⟩ := open_u16 (hval 1 37 v1 rfl rfl) h1
  clear hA0 hval0
  refine (law_turned a0 a1 o0 o1 W ht).mono fun e W' ⟨he, hb⟩ => ?_
  subst he
  refine ⟨_, rfl, _, _, _, [], p0 ++ (p1), [], hW', trodAll_mk1 (shut_bool Tryd.underlying4 _), ?_, rfl, hb.frame _, fun h => by cases h⟩
  have r0 := Below.trod Tryd.laidOut (by kernel_rfl) (of_decide_eq_true (by kernel_rfl)) k0 hb (fun x hx => hlt x (by simp [hx]))
  have r1 := Below.trod Tryd.laidOut (by kernel_rfl) (of_decide_eq_true (by kernel_rfl)) k1 hb (fun x hx => hlt x (by simp [hx]))
  exact trodAll_mk2 r0 r1

theorem crcTurned_met (os : Os) : laidMet Tryd.prog Rows.crcTurnedRow.laid ((laidWorld os).forCall (fun _ _ => 0) ⟨#[], #[.string ByteArray.empty, .int .u16 0], []⟩).memory :=
  laidMet_of_run' 8 (by kernel_rfl) (by kernel_rfl)
theorem crcTurned_reads (os : Os) {H : Type} (enc : TypeId × Value → H) : ∃ places, DataW.whole enc Tryd.prog ((laidWorld os).forCall (fun _ _ => 0) ⟨#[], #[.string ByteArray.empty, .int .u16 0], []⟩).memory Tryd.f5.params.toList Rows.crcTurnedSpec.vars false (#[.string ByteArray.empty, .int .u16 0] : Array Value).toList 8 = some ([.lit (.string []), .lit (.int .u16 0)], [], places) :=
  ⟨[], by kernel_rfl⟩

set_option maxRecDepth 100000 in
theorem crcTurned_lifted (os : Os) (started : os.Started) (H : Type) (enc : TypeId × Value → H) (F : Stop.Interp) :
    ReturnsInHanded {} Tryd.checked os 5 .any ((OpenSpec.ofChange Rows.crcTurnedSpec).preRow enc Tryd.prog Tryd.f5 Rows.crcTurnedRow.domain false Rows.crcTurnedRow.laid) (((OpenSpec.ofChange Rows.crcTurnedSpec).at F).post enc Tryd.prog Tryd.f5 false true false false) := by
  obtain ⟨places, hx⟩ := crcTurned_reads os enc
  refine returnsInHanded_of_row (C := Tryd.checked) (s := OpenSpec.ofChange Rows.crcTurnedSpec) Tryd.own started (by kernel_rfl) Tryd.func5
    (witness_row_at (enc := enc) (C := Tryd.checked) false (laidWorld os) #[.string ByteArray.empty, .int .u16 0] rfl (by kernel_rfl) (by kernel_rfl) (by kernel_rfl)
      (OpenSpec.preRow_of_cond 8 hx (by kernel_rfl) (fun k hk => by cases hk) (by kernel_rfl) (crcTurned_met os))) ?_
  intro W base args ds gs before hval hW _ _ _ hL _ _
  exact crcTurned_contract H enc W base args ds gs before hval hW hL

theorem crcTurned_said : Rows.CrcTurnedSaid :=
  OpenClaim.holds_of_cond 5 Tryd.f5 rfl rfl rfl rfl rfl rfl rfl ⟨rfl, rfl, rfl, rfl, rfl⟩ rfl rfl rfl rfl rfl (by kernel_rfl) Tryd.func5 (by kernel_rfl)
    (of_decide_eq_true (by kernel_rfl)) (by unfold Func.isWrapper; first | (rw [if_pos (by decide +kernel)]; kernel_rfl) | (rw [if_neg (by decide +kernel)]; exact ⟨rfl, rfl⟩))
    (fun os started H enc _ F => by rw [OpenClaim.pre_eq_preRow]; exact crcTurned_lifted os started H enc F)

theorem crcTurned_plain (f : FuncId) (fn : Func) (hf : Tryd.pinned.checked.prog.funcNamed Rows.crcTurnedRow.func = some f) (hfn : Tryd.pinned.checked.prog.funcs[f]? = some fn) :
    false = Tryd.pinned.checked.prog.looks [] ∧ ∀ (j : Nat) t, fn.params[j]? = some t → Tryd.pinned.checked.prog.wantsStandIn t = false := by
  obtain rfl : f = 5 := Option.some.inj ((show Tryd.prog.funcNamed Rows.crcTurnedRow.func = some 5 by kernel_rfl).symm.trans hf) |>.symm
  obtain rfl : fn = Tryd.f5 := (Option.some.inj (Tryd.func5.symm.trans hfn)).symm
  refine ⟨by kernel_rfl, fun j t ht => ?_⟩
  rw [Tryd.params5] at ht
  have hm := Array.mem_of_getElem? ht
  simp only [List.mem_toArray, List.mem_cons, List.not_mem_nil, or_false] at hm
  rcases hm with rfl | rfl
  all_goals first
    | exact (show Tryd.prog.wantsStandIn 9 = false by kernel_rfl)
    | exact (show Tryd.prog.wantsStandIn 37 = false by kernel_rfl)

theorem crcTurned_card : Rows.CrcTurnedCardSaid :=
  Claim7.holds_tied_plain_at .later [] _ _ _ _ crcTurned_said (fun _ h => by cases h) (by kernel_rfl) (fun _ h => by cases h) crcTurned_row_tie rfl ⟨rfl, rfl⟩ (by kernel_rfl) rfl crcTurned_plain (by kernel_rfl)
#print axioms crcTurned_card
end Go.Proofs.YtjnhggdkllhinaaDoor
