/-
  Cells of the code. Conditions: the text's length as written; the program's variables hold what they hold.
-/
import Derived.Test.YtacniohflhpgaaaDoorPRead
namespace Go.Proofs.YtacniohflhpgaaaDoor
open Go.RowKit

/-- What Cells answers. -/
def Out (w w' : World) (s : List UInt8) (e : Ending) : Prop := ∃ v, e = .returned (.tuple #[v, .int .i64 (outN s : Nat), .int .i64 (outE s : Nat)]) ∧ OwnC w' w.heap.size v (outL s) ∧ Old w w'
theorem res_ok {x : Except Nat (List Cel)} {l : List Cel} (h : x = .ok l) : resL x = l ∧ resN x = 0 ∧ resE x = 0 := by subst h; exact ⟨rfl, rfl, rfl⟩
theorem res_er {x : Except Nat (List Cel)} {k : Nat} (h : x = .error k) : resL x = [] ∧ resN x = k ∧ resE x = 70 := by subst h; exact ⟨rfl, rfl, rfl⟩
theorem ret3 {v : Value} {a b c d : Nat} (h1 : a = c) (h2 : b = d) : Ending.returned (.tuple #[v, .int .i64 a, .int .i64 b]) = .returned (.tuple #[v, .int .i64 c, .int .i64 d]) := by rw [h1, h2]

theorem own_mono {w : World} {a b : Nat} {v : Value} {l : List Cel} (h : OwnC w b v l) (hab : a ≤ b) : OwnC w a v l := by
  refine ⟨h.1, ?_⟩
  rcases h.2 with h1 | ⟨gg, cap, cur, hv, hb, rest⟩
  · exact .inl h1
  · exact .inr ⟨gg, cap, cur, hv, Nat.le_trans hab hb, rest⟩

set_option maxHeartbeats 4000000 in
theorem cells_any (s : List UInt8) (w : World) (hv : Env w) (hl : s.length ≤ 1000000) :
    Calls Tryd.prog 9 #[.string (B s)] w fun e w' => Out w w' s e := by
  by_cases hw : 4000 < s.length
  · have HN : Hid (outN s = 0 ∧ outE s = 71 ∧ outL s = []) := Lib.hid ⟨if_pos hw, if_pos hw, if_pos hw⟩
    have hi : (4000 : Int) < (s.length : Int) := by omega
    go_enter Tryd.func9, Tryd.ntmps9
    go_wp2
    exact bodyPost_ret (v := .tuple #[.slice none 0 0, .int .i64 0, .int .i64 71]) (by simp [results, Tryd.results9, go_sem]) rfl ⟨.slice none 0 0, by rw [HN.out.1, HN.out.2.1]; rfl, by rw [HN.out.2.2]; exact OwnC.nil _ _, Old.re _⟩
  · have HN : Hid (outN s = resN (scan 0 (spl 10 s)) ∧ outE s = resE (scan 0 (spl 10 s)) ∧ outL s = resL (scan 0 (spl 10 s))) := Lib.hid ⟨if_neg hw, if_neg hw, if_neg hw⟩
    have hi : (s.length : Int) ≤ 4000 := by omega
    have C := split_any 10 s w hv (by omega)
    have hlen : (spl 10 s).length ≤ 4001 := by have := splA_len 10 s []; unfold spl; omega
    have HM := Lib.hid (fun x (hx : x ∈ spl 10 s) => (spl_mem 10 s x hx).2)
    generalize spl 10 s = L at *
    go_enter Tryd.func9, Tryd.ntmps9
    go_wp2_with (go_at_call 18; refine C.mono ?_; rintro e W1 ⟨rfl, rfl⟩; refine Hid.out ?_)
    have o1 := old_alloc w (.cells (tx L) 9)
    have hS := new_bk w 9 (tx L)
    have hsz : w.heap.size ≤ (w.alloc (.cells (tx L) 9)).heap.size := o1.size
    generalize w.alloc (.cells (tx L) 9) = w1 at *
    clear C
    refine Lib.hid ?_
    go_wp2_with fail
    go_loopw [5, 16] (fun v i wr => ∃ (k : Nat) (acc : List Cel), k ≤ L.length ∧ acc.length ≤ k ∧ i = .int .i64 k ∧ OwnC wr w1.heap.size v acc ∧ Old w1 wr ∧ Hid (scan 0 L = pre acc (scan k (L.drop k)))) (fun _ i _ => L.length - (intOf i).toNat)
    case atStart => exact ⟨0, [], Nat.zero_le _, Nat.le_refl _, rfl, OwnC.nil _ _, Old.re _, Lib.hid (by rw [pre_nil, List.drop_zero])⟩
    case round =>
      obtain ⟨k, acc, hk, hacc, rfl, hown, ho, HR⟩ := hrel
      by_cases hlt : k < L.length
      · have hc : wr.cell? ⟨w.heap.size, k, none⟩ = some (.string (B L[k])) := (hS.old ho).cell k |>.trans (tx_at L k hlt)
        have HD := Lib.hid (drop_cons L k hlt)
        have hxl : L[k].length ≤ 1000000000 := by have := HM.out _ (List.getElem_mem hlt); omega
        have hI : decide ((k : Int) < (L.length : Int)) = true := by simp; omega
        generalize L[k] = x at *
        cases hn : nothing x with
        | true =>
          have HG := Lib.hid (show scan 0 L = pre acc (scan (k + 1) (L.drop (k + 1))) by rw [HR.out, HD.out, scan_nothing _ _ _ hn])
          have C := nothing_any x wr
          rw [hn] at C
          go_wp2_with (go_at_call 19; refine C.mono ?_; rintro e W2 ⟨rfl, rfl⟩)
          go_roundw
          case rel => exact ⟨k + 1, acc, by omega, by omega, by go_num, hown, ho, HG⟩
          case measure => simp [intOf]; omega
        | false =>
          have C := nothing_any x wr
          rw [hn] at C
          have D := read_any x wr (hv.old (o1.tr ho)) hxl
          cases hx : lineO x with
          | none =>
            have HG := Lib.hid (res_er (show scan 0 L = .error (k + 1) by rw [HR.out, HD.out, scan_none _ _ _ hn hx]; rfl))
            rw [hx] at D
            go_wp2_with (first
              | (go_at_call 19; refine C.mono ?_; rintro e W2 ⟨rfl, rfl⟩)
              | (go_at_call 20; refine D.mono ?_; rintro e W2 ⟨rfl, o2⟩))
            exact bodyPost_ret (v := .tuple #[.slice none 0 0, .int .i64 ((k + 1 : Nat) : Int), .int .i64 70]) (by simp [results, Tryd.results9, go_sem]) rfl ⟨.slice none 0 0, by rw [HN.out.1, HN.out.2.1, HG.out.2.1, HG.out.2.2]; rfl, by rw [HN.out.2.2, HG.out.1]; exact OwnC.nil _ _, (o1.tr (ho.tr o2)).al _⟩
          | some c =>
            have HG := Lib.hid (show scan 0 L = pre (acc ++ [c]) (scan (k + 1) (L.drop (k + 1))) by rw [HR.out, HD.out, scan_some _ _ _ c hn hx, pre_pre])
            rw [hx] at D
            go_wp2_with (first
              | (go_at_call 19; refine C.mono ?_; rintro e W2 ⟨rfl, rfl⟩)
              | (go_at_call 20; refine D.mono ?_; rintro e W2 ⟨rfl, o2⟩; refine Hid.out ?_))
            have ho2 := ho.tr o2
            have hown2 := hown.old o2
            have hal : acc.length + [c].length ≤ 100000 := by simp; omega
            refine Lib.hid ?_
            go_wp2_with (at_builtin; refine wp_cels rfl (.tmp 32) (.tmp 34) rfl (W0 := w1) ((ho2.al _).al _) _ acc [c] rfl ((hown2.old (old_alloc _ _)).old (old_alloc _ _)) (W2.heap.size + 1) 0 1 1 rfl rfl (cels_one (new_bk1 W2 _ _ _)) hal ?_; intro v8 w8 n8 o8)
            go_roundw
            case rel => exact ⟨k + 1, acc ++ [c], by omega, by simp; omega, by go_num, n8, o8, HG⟩
            case measure => simp [intOf]; omega
      · obtain rfl : k = L.length := by omega
        have HG := Lib.hid (res_ok (show scan 0 L = .ok acc by rw [HR.out, List.drop_length]; simp [scan, pre, Except.map]))
        obtain ⟨A, n, cap, rfl⟩ := hown.form
        go_wp2
        exact bodyPost_ret (v := .tuple #[.slice A n cap, .int .i64 0, .int .i64 0]) (by simp [results, Tryd.results9, go_sem]) rfl ⟨.slice A n cap, by rw [HN.out.1, HN.out.2.1, HG.out.2.1, HG.out.2.2]; rfl, by rw [HN.out.2.2, HG.out.1]; exact own_mono hown hsz, o1.tr ho⟩
end Go.Proofs.YtacniohflhpgaaaDoor
