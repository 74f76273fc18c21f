/- Walks of the statement on bits, one behind the other. -/
import Derived.Test.YtpdbkolbbkbbnaaDoorBWTno
import Derived.Test.YtpdbkolbbkbbnaaDoorBR
import Derived.Test.YtpdbkolbbkbbnaaDoorPc
import Derived.Test.YtpdbkolbbkbbnaaDoorCoded1
namespace Go.Proofs.YtpdbkolbbkbbnaaDoor
open Go.RowKit

/-- How long a text in a slot is. -/
def textSize : Value → Nat
  | .string s => s.size
  | _ => 0

/-- A variable that is laid behind a writer. -/
structure Var (wr : World) (p c N : Nat) (o : Obj) : Prop where
  holds : WAt (wr.alloc o) p c N
  below : Below wr.heap.size wr (wr.alloc o)
  apart : wr.heap.size ≠ p
  row : wr.heap.size ≠ rowOf (wr.alloc o) p

theorem piece_var (wr : World) (p c N : Nat) (o : Obj) (hW : WAt wr p c N) : Var wr p c N o := by
  have hb : Below wr.heap.size wr (wr.alloc o) := (Below.refl _ _).alloc (Nat.le_refl _) _
  have h1 := hW.lt
  have h2 := hW.row.2
  have h3 : rowOf (wr.alloc o) p = rowOf wr p := rowOf_same (hb.cell h1)
  exact ⟨hW.below hb, hb, by omega, by omega⟩

theorem Var.cell {wr w' : World} {p c N : Nat} {cs : Array Value} {t : TypeId} (h : Var wr p c N (.cells cs t)) (hk : Kept p (wr.alloc (.cells cs t)) w') (j : Nat) :
    w'.cell? ⟨wr.heap.size, j, none⟩ = cs[j]? := by
  rw [hk.cell (a := ⟨wr.heap.size, j, none⟩) (by simp) h.apart h.row]
  rw [World.cell?_alloc_mark]

set_option maxHeartbeats 4000000 in
set_option maxRecDepth 100000 in
theorem bitsPut_short (lb off len cap : Nat) (pn : Nat → Nat) (pw : Nat → Int) (pt pa : Nat → Bool) (w : World) (a : Nat → Addr) (hS : Sent w a) (hlen : len ≤ 100)
    (hP : ∀ i, i < len → w.cell? ⟨lb, off + i * 4, none⟩ = some (.int .u32 (pn i : Nat)) ∧ w.cell? ⟨lb, off + i * 4 + 1, none⟩ = some (.int .i64 (pw i)) ∧
      w.cell? ⟨lb, off + i * 4 + 2, none⟩ = some (.bool (pt i)) ∧ w.cell? ⟨lb, off + i * 4 + 3, none⟩ = some (.bool (pa i)) ∧ pn i < 4294967296 ∧ -9223372036854775808 ≤ pw i ∧ pw i ≤ 9223372036854775807) :
    Calls Tryd.prog 6 #[.slice (some ⟨lb, off, none⟩) len cap] w fun e w' => e = .returned (.bool true) ∧ Below w.heap.size w w' := by
  have HS := hide hS
  have HP := hide hP
  clear hS hP
  have hd0 : decide ((100 : Int) < (len : Int)) = false := by simp; omega
  go_enter Tryd.func6, Tryd.ntmps6
  go_wp2_with fail
  refine (three_any _).mono ?_; rintro e w1 ⟨rfl, hb1⟩
  have hnew := new_writer w1
  have hb2 := hb1.trans (((Below.refl w1.heap.size w1).alloc (Nat.le_refl _) (.cells #[.slice none 0 0, .int .i64 0] 48)).mono hb1.size)
  have hsz := hb1.size
  have Hnew := hide hnew
  clear hnew hb1
  go_wp2
  generalize w1.alloc (.cells #[.slice none 0 0, .int .i64 0] 48) = w2 at *
  generalize w1.heap.size = p at *
  go_loopw [2, 5, 6] (fun r want i wr => ∃ k c N : Nat, k ≤ len ∧ c ≤ 40 * k ∧ i = .int .i64 k ∧ want = .string (bt c N) ∧ WAt wr p c N ∧ Below w.heap.size w wr) (fun _ _ i _ => len - (intOf i).toNat)
  case atStart => exact ⟨0, 0, 0, by omega, by omega, rfl, rfl, unhide Hnew, hb2⟩
  case round =>
    obtain ⟨k, c, N, hk, hc, rfl, rfl, hW, hb⟩ := hrel
    by_cases hlt : k < len
    · have hdk : decide ((k : Int) < (len : Int)) = true := by simp; omega
      obtain ⟨c0, c1, c2, c3, hn, hw1, hw2⟩ := unhide HP k hlt
      have hll : lb < w.heap.size := World.block_lt_of_cell? _ _ c0
      rw [← hb.cell (p := ⟨lb, off + k * 4, none⟩) hll] at c0
      rw [← hb.cell (p := ⟨lb, off + k * 4 + 1, none⟩) hll] at c1
      rw [← hb.cell (p := ⟨lb, off + k * 4 + 2, none⟩) hll] at c2
      rw [← hb.cell (p := ⟨lb, off + k * 4 + 3, none⟩) hll] at c3
      have HW := hide hW
      clear hW
      generalize pn k = n at *
      generalize pw k = d at *
      generalize pt k = tn at *
      generalize pa k = al at *
      have hszi : ((bt c N).size : Int) = (c : Int) := by have := bt_size c N; omega
      cases al
      · by_cases h0 : d < 0
        · have hd1 : decide (d < 0) = true := by simp; omega
          have hno : NoFit n d := .inl h0
          cases tn
          · have Hv := hide (piece_var wr p c N (.cells #[.int .u32 (n : Int), .int .i64 d, .bool false, .bool false] 50) (unhide HW))
            go_wp2_with fail
            refine (put_no p n d _ a (((unhide HS).below hb).below (unhide Hv).below) hno).mono ?_; rintro e w3 ⟨rfl, rfl⟩
            go_wp2_with fail
            refine (coded_sent 1 2 _ a (((unhide HS).below hb).below (unhide Hv).below) (by decide) rfl).mono ?_; rintro e w4 ⟨rfl, hb4⟩
            have HW4 := hide ((unhide Hv).holds.below hb4)
            have hb5 := (hb.trans ((unhide Hv).below.mono hb.size)).trans (hb4.mono (Nat.le_trans hb.size (unhide Hv).below.size))
            go_wp2_with fail
            refine (len_any p c N _ (unhide HW4)).mono ?_; rintro e w5 ⟨rfl, rfl⟩
            go_wp2
            go_roundw
            case rel => exact ⟨k + 1, c, N, by omega, by omega, by go_num, rfl, unhide HW4, hb5⟩
            case measure => simp [intOf]; omega
          · have Hv := hide (piece_var wr p c N (.cells #[.int .u32 (n : Int), .int .i64 d, .bool true, .bool false] 50) (unhide HW))
            go_wp2_with fail
            refine (turned_no p n d _ a (((unhide HS).below hb).below (unhide Hv).below) hno).mono ?_; rintro e w3 ⟨rfl, rfl⟩
            go_wp2_with fail
            refine (coded_sent 1 2 _ a (((unhide HS).below hb).below (unhide Hv).below) (by decide) rfl).mono ?_; rintro e w4 ⟨rfl, hb4⟩
            have HW4 := hide ((unhide Hv).holds.below hb4)
            have hb5 := (hb.trans ((unhide Hv).below.mono hb.size)).trans (hb4.mono (Nat.le_trans hb.size (unhide Hv).below.size))
            go_wp2_with fail
            refine (len_any p c N _ (unhide HW4)).mono ?_; rintro e w5 ⟨rfl, rfl⟩
            go_wp2
            go_roundw
            case rel => exact ⟨k + 1, c, N, by omega, by omega, by go_num, rfl, unhide HW4, hb5⟩
            case measure => simp [intOf]; omega
        have hd1 : decide (d < 0) = false := by simp; omega
        by_cases h1 : 32 < d
        · have hd2 : decide (32 < d) = true := by simp; omega
          have hno : NoFit n d := .inr (.inl h1)
          cases tn
          · have Hv := hide (piece_var wr p c N (.cells #[.int .u32 (n : Int), .int .i64 d, .bool false, .bool false] 50) (unhide HW))
            go_wp2_with fail
            refine (put_no p n d _ a (((unhide HS).below hb).below (unhide Hv).below) hno).mono ?_; rintro e w3 ⟨rfl, rfl⟩
            go_wp2_with fail
            refine (coded_sent 1 2 _ a (((unhide HS).below hb).below (unhide Hv).below) (by decide) rfl).mono ?_; rintro e w4 ⟨rfl, hb4⟩
            have HW4 := hide ((unhide Hv).holds.below hb4)
            have hb5 := (hb.trans ((unhide Hv).below.mono hb.size)).trans (hb4.mono (Nat.le_trans hb.size (unhide Hv).below.size))
            go_wp2_with fail
            refine (len_any p c N _ (unhide HW4)).mono ?_; rintro e w5 ⟨rfl, rfl⟩
            go_wp2
            go_roundw
            case rel => exact ⟨k + 1, c, N, by omega, by omega, by go_num, rfl, unhide HW4, hb5⟩
            case measure => simp [intOf]; omega
          · have Hv := hide (piece_var wr p c N (.cells #[.int .u32 (n : Int), .int .i64 d, .bool true, .bool false] 50) (unhide HW))
            go_wp2_with fail
            refine (turned_no p n d _ a (((unhide HS).below hb).below (unhide Hv).below) hno).mono ?_; rintro e w3 ⟨rfl, rfl⟩
            go_wp2_with fail
            refine (coded_sent 1 2 _ a (((unhide HS).below hb).below (unhide Hv).below) (by decide) rfl).mono ?_; rintro e w4 ⟨rfl, hb4⟩
            have HW4 := hide ((unhide Hv).holds.below hb4)
            have hb5 := (hb.trans ((unhide Hv).below.mono hb.size)).trans (hb4.mono (Nat.le_trans hb.size (unhide Hv).below.size))
            go_wp2_with fail
            refine (len_any p c N _ (unhide HW4)).mono ?_; rintro e w5 ⟨rfl, rfl⟩
            go_wp2
            go_roundw
            case rel => exact ⟨k + 1, c, N, by omega, by omega, by go_num, rfl, unhide HW4, hb5⟩
            case measure => simp [intOf]; omega
        have hd2 : decide (32 < d) = false := by simp; omega
        obtain ⟨j, rfl⟩ := Int.eq_ofNat_of_zero_le (show 0 ≤ d by omega)
        have hj32 : j ≤ 32 := by omega
        by_cases h2 : j < 32
        · have hd3 : decide ((j : Int) < 32) = true := by simp; omega
          have hq : (n : Int) / 2 ^ j = ((n / 2 ^ j : Nat) : Int) := by simp
          by_cases h3 : n / 2 ^ j = 0
          · have hfit : n < 2 ^ j := by
              rcases Nat.lt_or_ge n (2 ^ j) with h | h
              · exact h
              · have := Nat.div_pos h (Nat.two_pow_pos j); omega
            rw [h3] at hq
            have hd4 : decide ((0 : Int) < 0) = false := by decide
            clear h3
            cases tn
            · have Hv := hide (piece_var wr p c N (.cells #[.int .u32 (n : Int), .int .i64 (j : Int), .bool false, .bool false] 50) (unhide HW))
              go_wp2_with fail
              refine (put_yes p c N n j _ (unhide Hv).holds hj32 hfit (by omega)).mono ?_; rintro e w3 ⟨rfl, hW3, hk3⟩
              have e0 := (unhide Hv).cell hk3 0
              have e1 := (unhide Hv).cell hk3 1
              have e0 : w3.cell? ⟨wr.heap.size, 0, none⟩ = some (.int .u32 (n : Int)) := e0
              have e1 : w3.cell? ⟨wr.heap.size, 1, none⟩ = some (.int .i64 (j : Int)) := e1
              have hbv := (unhide Hv).below
              have hbw := hb.trans (hbv.mono hb.size)
              have hb3 := hbw.trans (hk3.below (unhide Hv).holds hsz)
              have HW3 := hide hW3
              have hap := bt_append c N j n (unhide HW).fits
              have hszj := bt_size j n
              have hszs := bt_size (c + j) (N + 2 ^ c * n)
              have hszi2 : ((bt (c + j) (N + 2 ^ c * n)).size : Int) = (c : Int) + (j : Int) := by omega
              have hszc := bt_size c N
              have hcb : c < 10000 := by omega
              clear hW3 hk3 hbv hbw hszs hszi
              go_wp2_with fail
              refine (coded_nil _).mono ?_; rintro e w4 ⟨rfl, rfl⟩
              go_wp2_with fail
              refine (low_any n j _ hn hj32).mono ?_; rintro e w5 ⟨rfl, hb5⟩
              have HW5 := hide ((unhide HW3).below hb5)
              have hb6 := hb3.trans (hb5.mono hb3.size)
              go_wp2_with fail
              refine (len_any p (c + j) _ _ (unhide HW5)).mono ?_; rintro e w6 ⟨rfl, rfl⟩
              go_wp2
              go_roundw
              case rel => exact ⟨k + 1, c + j, _, by omega, by omega, by go_num, rfl, unhide HW5, hb6⟩
              case measure => simp [intOf]; omega
            · have Hv := hide (piece_var wr p c N (.cells #[.int .u32 (n : Int), .int .i64 (j : Int), .bool true, .bool false] 50) (unhide HW))
              go_wp2_with fail
              refine (turned_yes p c N n j _ (unhide Hv).holds hj32 hfit (by omega)).mono ?_; rintro e w3 ⟨rfl, hW3, hk3⟩
              have e0 := (unhide Hv).cell hk3 0
              have e1 := (unhide Hv).cell hk3 1
              have e0 : w3.cell? ⟨wr.heap.size, 0, none⟩ = some (.int .u32 (n : Int)) := e0
              have e1 : w3.cell? ⟨wr.heap.size, 1, none⟩ = some (.int .i64 (j : Int)) := e1
              have hbv := (unhide Hv).below
              have hbw := hb.trans (hbv.mono hb.size)
              have hb3 := hbw.trans (hk3.below (unhide Hv).holds hsz)
              have HW3 := hide hW3
              have hap := bt_append c N j (Bt.rev n j) (unhide HW).fits
              have hszj := bt_size j (Bt.rev n j)
              have hszs := bt_size (c + j) (N + 2 ^ c * (Bt.rev n j))
              have hszi2 : ((bt (c + j) (N + 2 ^ c * (Bt.rev n j))).size : Int) = (c : Int) + (j : Int) := by omega
              have hszc := bt_size c N
              have hcb : c < 10000 := by omega
              clear hW3 hk3 hbv hbw hszs hszi
              go_wp2_with fail
              refine (coded_nil _).mono ?_; rintro e w4 ⟨rfl, rfl⟩
              go_wp2_with fail
              refine (high_any n j _ hn hj32).mono ?_; rintro e w5 ⟨rfl, hb5⟩
              have HW5 := hide ((unhide HW3).below hb5)
              have hb6 := hb3.trans (hb5.mono hb3.size)
              go_wp2_with fail
              refine (len_any p (c + j) _ _ (unhide HW5)).mono ?_; rintro e w6 ⟨rfl, rfl⟩
              go_wp2
              go_roundw
              case rel => exact ⟨k + 1, c + j, _, by omega, by omega, by go_num, rfl, unhide HW5, hb6⟩
              case measure => simp [intOf]; omega
          · have hno : NoFit n j := .inr (.inr ⟨j, rfl, hj32, h3⟩)
            have hd4 : decide ((0 : Int) < ((n / 2 ^ j : Nat) : Int)) = true := by generalize n / 2 ^ j = q at *; simp; omega
            have Hno := hide hno
            clear hno
            generalize n / 2 ^ j = q at *
            have hno := unhide Hno
            clear Hno
            cases tn
            · have Hv := hide (piece_var wr p c N (.cells #[.int .u32 (n : Int), .int .i64 (j : Int), .bool false, .bool false] 50) (unhide HW))
              go_wp2_with fail
              refine (put_no p n (j : Int) _ a (((unhide HS).below hb).below (unhide Hv).below) hno).mono ?_; rintro e w3 ⟨rfl, rfl⟩
              go_wp2_with fail
              refine (coded_sent 1 2 _ a (((unhide HS).below hb).below (unhide Hv).below) (by decide) rfl).mono ?_; rintro e w4 ⟨rfl, hb4⟩
              have HW4 := hide ((unhide Hv).holds.below hb4)
              have hb5 := (hb.trans ((unhide Hv).below.mono hb.size)).trans (hb4.mono (Nat.le_trans hb.size (unhide Hv).below.size))
              go_wp2_with fail
              refine (len_any p c N _ (unhide HW4)).mono ?_; rintro e w5 ⟨rfl, rfl⟩
              go_wp2
              go_roundw
              case rel => exact ⟨k + 1, c, N, by omega, by omega, by go_num, rfl, unhide HW4, hb5⟩
              case measure => simp [intOf]; omega
            · have Hv := hide (piece_var wr p c N (.cells #[.int .u32 (n : Int), .int .i64 (j : Int), .bool true, .bool false] 50) (unhide HW))
              go_wp2_with fail
              refine (turned_no p n (j : Int) _ a (((unhide HS).below hb).below (unhide Hv).below) hno).mono ?_; rintro e w3 ⟨rfl, rfl⟩
              go_wp2_with fail
              refine (coded_sent 1 2 _ a (((unhide HS).below hb).below (unhide Hv).below) (by decide) rfl).mono ?_; rintro e w4 ⟨rfl, hb4⟩
              have HW4 := hide ((unhide Hv).holds.below hb4)
              have hb5 := (hb.trans ((unhide Hv).below.mono hb.size)).trans (hb4.mono (Nat.le_trans hb.size (unhide Hv).below.size))
              go_wp2_with fail
              refine (len_any p c N _ (unhide HW4)).mono ?_; rintro e w5 ⟨rfl, rfl⟩
              go_wp2
              go_roundw
              case rel => exact ⟨k + 1, c, N, by omega, by omega, by go_num, rfl, unhide HW4, hb5⟩
              case measure => simp [intOf]; omega
        have hd3 : decide ((j : Int) < 32) = false := by simp; omega
        have hfit : n < 2 ^ j := by rw [show j = 32 from by omega]; exact hn
        cases tn
        · have Hv := hide (piece_var wr p c N (.cells #[.int .u32 (n : Int), .int .i64 (j : Int), .bool false, .bool false] 50) (unhide HW))
          go_wp2_with fail
          refine (put_yes p c N n j _ (unhide Hv).holds hj32 hfit (by omega)).mono ?_; rintro e w3 ⟨rfl, hW3, hk3⟩
          have e0 := (unhide Hv).cell hk3 0
          have e1 := (unhide Hv).cell hk3 1
          have e0 : w3.cell? ⟨wr.heap.size, 0, none⟩ = some (.int .u32 (n : Int)) := e0
          have e1 : w3.cell? ⟨wr.heap.size, 1, none⟩ = some (.int .i64 (j : Int)) := e1
          have hbv := (unhide Hv).below
          have hbw := hb.trans (hbv.mono hb.size)
          have hb3 := hbw.trans (hk3.below (unhide Hv).holds hsz)
          have HW3 := hide hW3
          have hap := bt_append c N j n (unhide HW).fits
          have hszj := bt_size j n
          have hszs := bt_size (c + j) (N + 2 ^ c * n)
          have hszi2 : ((bt (c + j) (N + 2 ^ c * n)).size : Int) = (c : Int) + (j : Int) := by omega
          have hszc := bt_size c N
          have hcb : c < 10000 := by omega
          clear hW3 hk3 hbv hbw hszs hszi
          go_wp2_with fail
          refine (coded_nil _).mono ?_; rintro e w4 ⟨rfl, rfl⟩
          go_wp2_with fail
          refine (low_any n j _ hn hj32).mono ?_; rintro e w5 ⟨rfl, hb5⟩
          have HW5 := hide ((unhide HW3).below hb5)
          have hb6 := hb3.trans (hb5.mono hb3.size)
          go_wp2_with fail
          refine (len_any p (c + j) _ _ (unhide HW5)).mono ?_; rintro e w6 ⟨rfl, rfl⟩
          go_wp2
          go_roundw
          case rel => exact ⟨k + 1, c + j, _, by omega, by omega, by go_num, rfl, unhide HW5, hb6⟩
          case measure => simp [intOf]; omega
        · have Hv := hide (piece_var wr p c N (.cells #[.int .u32 (n : Int), .int .i64 (j : Int), .bool true, .bool false] 50) (unhide HW))
          go_wp2_with fail
          refine (turned_yes p c N n j _ (unhide Hv).holds hj32 hfit (by omega)).mono ?_; rintro e w3 ⟨rfl, hW3, hk3⟩
          have e0 := (unhide Hv).cell hk3 0
          have e1 := (unhide Hv).cell hk3 1
          have e0 : w3.cell? ⟨wr.heap.size, 0, none⟩ = some (.int .u32 (n : Int)) := e0
          have e1 : w3.cell? ⟨wr.heap.size, 1, none⟩ = some (.int .i64 (j : Int)) := e1
          have hbv := (unhide Hv).below
          have hbw := hb.trans (hbv.mono hb.size)
          have hb3 := hbw.trans (hk3.below (unhide Hv).holds hsz)
          have HW3 := hide hW3
          have hap := bt_append c N j (Bt.rev n j) (unhide HW).fits
          have hszj := bt_size j (Bt.rev n j)
          have hszs := bt_size (c + j) (N + 2 ^ c * (Bt.rev n j))
          have hszi2 : ((bt (c + j) (N + 2 ^ c * (Bt.rev n j))).size : Int) = (c : Int) + (j : Int) := by omega
          have hszc := bt_size c N
          have hcb : c < 10000 := by omega
          clear hW3 hk3 hbv hbw hszs hszi
          go_wp2_with fail
          refine (coded_nil _).mono ?_; rintro e w4 ⟨rfl, rfl⟩
          go_wp2_with fail
          refine (high_any n j _ hn hj32).mono ?_; rintro e w5 ⟨rfl, hb5⟩
          have HW5 := hide ((unhide HW3).below hb5)
          have hb6 := hb3.trans (hb5.mono hb3.size)
          go_wp2_with fail
          refine (len_any p (c + j) _ _ (unhide HW5)).mono ?_; rintro e w6 ⟨rfl, rfl⟩
          go_wp2
          go_roundw
          case rel => exact ⟨k + 1, c + j, _, by omega, by omega, by go_num, rfl, unhide HW5, hb6⟩
          case measure => simp [intOf]; omega
      · have Hv := hide (piece_var wr p c N (.cells #[.int .u32 (n : Int), .int .i64 d, .bool tn, .bool true] 50) (unhide HW))
        go_wp2_with fail
        refine (align_any p c N _ (unhide Hv).holds (by omega)).mono ?_; rintro e w3 ⟨rfl, hW3, hk3⟩
        have hbv := (unhide Hv).below
        have hbw := hb.trans (hbv.mono hb.size)
        have hb3 := hbw.trans (hk3.below (unhide Hv).holds hsz)
        have HW3 := hide hW3
        have hfit := (unhide HW).fits
        clear hW3 hk3 hbv hbw hszi Hv
        obtain ⟨m, hm⟩ : ∃ m, m = (c + 7) / 8 := ⟨_, rfl⟩
        rw [← hm] at HW3
        have Hm := hide hm
        clear hm
        go_wp2
        go_loop [5] (fun s => ∃ c2 : Nat, c ≤ c2 ∧ c2 ≤ 8 * m ∧ s = .string (bt c2 N)) (fun s => 8 * m - textSize s)
        case atStart => exact ⟨c, by omega, by have := unhide Hm; omega, rfl⟩
        case round =>
          obtain ⟨c2, hc2, hc3, rfl⟩ := hrel
          have hsz2 : ((bt c2 N).size : Int) = (c2 : Int) := by have := bt_size c2 N; omega
          have hcb : (c2 : Int) < 100000 := by have := unhide Hm; omega
          by_cases h8 : c2 % 8 = 0
          · have hd8 : decide ((0 : Int) < (c2 : Int) % 8) = false := by simp; omega
            have hce : c2 = 8 * m := by have := unhide Hm; omega
            have Hce := hide hce
            clear hce
            go_wp2
            go_roundw
            case rel => exact ⟨k + 1, c2, N, by omega, by have := unhide Hm; have := unhide Hce; omega, by go_num, rfl, by rw [unhide Hce]; exact unhide HW3, hb3⟩
            case measure => simp [intOf]; omega
          · have hd8 : decide ((0 : Int) < (c2 : Int) % 8) = true := by simp; omega
            have Hno := hide (bt_nought c2 N (Bt.lt_wide hfit hc2))
            go_wp2
            go_round
            case rel => exact ⟨c2 + 1, by omega, by have := unhide Hm; omega, by rw [unhide Hno]⟩
            case measure =>
              have := bt_size c2 N
              have hl : c2 < 8 * m := by have := unhide Hm; omega
              rw [unhide Hno]
              simp only [textSize, bt_size]
              omega
    · have : k = len := by omega
      subst this
      have hdk : decide ((k : Int) < (k : Int)) = false := by simp
      have HW := hide hW
      have hfit := hW.fits
      clear hW
      go_wp2_with fail
      refine (text_any p c N _ (unhide HW)).mono ?_; rintro e w3 ⟨rfl, rfl⟩
      go_wp2_with fail
      refine (packed_any c N _ hfit (by omega)).mono ?_; rintro e w4 ⟨rfl, hb4⟩
      go_wp2
      go_ret
      exact ⟨rfl, hb.trans (hb4.mono hb.size)⟩
end Go.Proofs.YtpdbkolbbkbbnaaDoor
