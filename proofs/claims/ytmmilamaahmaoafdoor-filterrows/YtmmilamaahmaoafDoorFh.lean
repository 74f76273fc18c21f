/- Walks: the document's own rows: back from a row, its best kind. -/
import Derived.Test.YtmmilamaahmaoafDoorFg
namespace Go.Proofs.YtmmilamaahmaoafDoor
open Go.RowKit

set_option maxHeartbeats 2000000 in
theorem unrowOf_any (k s : Nat) (row ahead : ByteArray) (w : World) (hk : k ≤ 4) (hs : s ≤ 8) (hl : row.size ≤ 300000) :
    Calls Tryd.prog 24 #[.int .i64 (k : Int), .string row, .string ahead, .int .i64 (s : Int)] w fun e w' => e = .returned (.string (tx (Fil.un k row.data.toList ahead.data.toList s row.size))) ∧ Below w.heap.size w w' := by
  go_enter Tryd.func24, Tryd.ntmps24
  go_wp2
  go_loopw [9, 10] (fun ov iv wr => ∃ i : Nat, i ≤ row.size ∧ iv = .int .i64 (i : Int) ∧ ov = .string (tx (Fil.un k row.data.toList ahead.data.toList s i)) ∧ Hid (Below w.heap.size w wr)) (fun _ iv _ => row.size - (intOf iv).toNat)
  case atStart => exact ⟨0, by omega, rfl, rfl, Below.refl _ _⟩
  case round =>
    obtain ⟨i, hi, rfl, rfl, HB⟩ := hrel
    by_cases hlt : i < row.size
    · have d1 : decide ((i : Int) < (row.size : Int)) = true := by simp; omega
      have d1' : decide (i < row.size) = true := by simp; omega
      have hii : (i : Int) < (row.size : Int) := by omega
      obtain ⟨o, ho⟩ : ∃ o, o = Fil.un k row.data.toList ahead.data.toList s i := ⟨_, rfl⟩
      have h1 := hide fun w => byteAt_back (tx o) i s w
      rw [tx_list] at h1
      have h2 := hide fun w => byteAt_any ahead i w
      have h3 := hide fun w => byteAt_back ahead i s w
      have h4 := hide fun w => guess_any k _ _ _ w hk (Fil.bk_lt o i s) (Fil.at0_lt ahead.data.toList i) (Fil.bk_lt ahead.data.toList i s)
      have hfl := Fil.fore_lt k o ahead.data.toList i s
      have HX : Hid (Fil.un k row.data.toList ahead.data.toList s (i + 1) = o ++ [UInt8.ofNat ((Fil.at0 row.data.toList i + Fil.guess k (Fil.bk o i s) (Fil.at0 ahead.data.toList i) (Fil.bk ahead.data.toList i s)) % 256)]) := by rw [ho]; rfl
      have hfl2 : Fil.guess k (Fil.bk o i s) (Fil.at0 ahead.data.toList i) (Fil.bk ahead.data.toList i s) < 256 := hfl
      rw [toList_at row i hlt] at HX
      have hx := row[i].toNat_lt
      have hrl := Fil.un_length k row.data.toList ahead.data.toList s i
      rw [← ho] at hrl ⊢
      generalize Fil.guess k (Fil.bk o i s) (Fil.at0 ahead.data.toList i) (Fil.bk ahead.data.toList i s) = f at *
      generalize Fil.bk o i s = xa at *
      generalize Fil.at0 ahead.data.toList i = xb at *
      generalize Fil.bk ahead.data.toList i s = xc at *
      obtain ⟨y, hy⟩ : ∃ y, y = (row[i].toNat + f) % 256 := ⟨_, rfl⟩
      rw [← hy] at HX
      have hyl : y < 256 := by omega
      have zy : ((row[i].toNat : Int) + (f : Int)) % 256 = (y : Int) := by omega
      have zyt : ((row[i].toNat : Int) + (f : Int)).tmod 256 = (y : Int) := by rw [Int.tmod_eq_emod_of_nonneg (by omega)]; exact zy
      have zw : IntKind.i64.wrap ((row[i].toNat : Int) + (f : Int)) = (row[i].toNat : Int) + (f : Int) := by rw [IntKind.wrap_i64]; omega
      clear hy hfl ho
      have hos : (tx o).size = i := by rw [tx_size, hrl]
      have HT := hide (tx_push o y)
      rw [← unhide HX] at HT
      generalize tx o = os at *
      clear HX hrl
      go_wp2_with fail
      refine (unhide h1 _).mono ?_; rintro e w1 ⟨rfl, rfl⟩
      go_wp2_with fail
      refine (unhide h2 _).mono ?_; rintro e w1 ⟨rfl, rfl⟩
      go_wp2_with fail
      refine (unhide h3 _).mono ?_; rintro e w1 ⟨rfl, rfl⟩
      go_wp2_with fail
      refine (unhide h4 _).mono ?_; rintro e w1 ⟨rfl, rfl⟩
      go_wp2_with fail
      refine (byte_any y _ hyl).mono ?_; rintro e w2 ⟨rfl, hb2⟩
      have HB2 := hide ((unhide HB).trans (hb2.mono (unhide HB).size))
      clear hb2
      go_wp2
      go_roundw
      case rel => exact ⟨i + 1, by omega, by go_num, by rw [unhide HT], HB2⟩
      case measure => simp [intOf]; omega
    · have : i = row.size := by omega
      subst this
      have d1 : decide ((row.size : Int) < (row.size : Int)) = false := by simp
      go_wp2
      go_ret
      exact ⟨rfl, unhide HB⟩

theorem tx_at (l : List UInt8) (i : Nat) (h : i < (tx l).size) : (tx l)[i].toNat = Fil.at0 l i := by
  have := toList_at (tx l) i h
  rw [tx_list] at this
  exact this.symm

set_option maxHeartbeats 4000000 in
theorem bestOf_any (s : Nat) (row ahead : ByteArray) (w : World) (hs : s ≤ 8) (hl : row.size ≤ 300000) :
    Calls Tryd.prog 21 #[.string row, .string ahead, .int .i64 (s : Int)] w fun e w' => e = .returned (.int .i64 (Fil.best row.data.toList ahead.data.toList s : Int)) ∧ Below w.heap.size w w' := by
  have HC := hide (fun (k : Nat) (w : World) (hk : k ≤ 4) => rowOf_any k s row ahead w hk hs hl)
  have HRL := hide (fun k n => Fil.row_length k row.data.toList ahead.data.toList s n)
  have HRA := hide (fun k i (h : i < row.size) => Fil.row_at k row.data.toList ahead.data.toList s row.size i h)
  have HLE := hide (fun k n => Fil.cost_le k row.data.toList ahead.data.toList s n)
  have HST : Hid (∀ k n, Fil.cost k row.data.toList ahead.data.toList s (n + 1) = Fil.cost k row.data.toList ahead.data.toList s n + Fil.far ((Fil.at0 row.data.toList n + 256 - Fil.fore k row.data.toList ahead.data.toList n s) % 256)) := fun _ _ => rfl
  have HZ : Hid (∀ k, Fil.cost k row.data.toList ahead.data.toList s 0 = 0) := fun _ => rfl
  have hsz : row.data.toList.length = row.size := by simp
  have HE : Hid (Fil.best row.data.toList ahead.data.toList s = (Fil.least (fun k => Fil.cost k row.data.toList ahead.data.toList s row.size) 4).1) := by
    show _ = _
    unfold Fil.best
    rw [hsz]
  generalize Fil.best row.data.toList ahead.data.toList s = res at *
  obtain ⟨c, hc⟩ : ∃ c : Nat → Nat → Nat, c = fun k n => Fil.cost k row.data.toList ahead.data.toList s n := ⟨_, rfl⟩
  have hce : ∀ k n, Fil.cost k row.data.toList ahead.data.toList s n = c k n := fun k n => by rw [hc]
  simp only [hce] at HLE HST HZ HE
  obtain ⟨R, hR⟩ : ∃ R : Nat → List UInt8, R = fun k => Fil.row k row.data.toList ahead.data.toList s row.size := ⟨_, rfl⟩
  have hRe : ∀ k, Fil.row k row.data.toList ahead.data.toList s row.size = R k := fun k => by rw [hR]
  simp only [hRe] at HC HRA
  have HRL2 : Hid (∀ k, (R k).length = row.size) := fun k => by rw [hR]; exact unhide HRL k row.size
  have HST2 : Hid (∀ k i, i < row.size → c k (i + 1) = c k i + Fil.far (Fil.at0 (R k) i)) := fun k i hi => by rw [unhide HST, unhide HRA k i hi]
  have HL2 : Hid (∀ k n, n ≤ 300000 → c k n ≤ 129 * 300000) := fun k n hn => by have := unhide HLE k n; omega
  clear hce hRe HRL HRA HLE HST hc hR hsz
  go_enter Tryd.func21, Tryd.ntmps21
  go_wp2
  go_loopw [7, 8, 9] (fun f l i wr => ∃ k : Nat, k ≤ 5 ∧ i = .int .i64 (k : Int) ∧ ((k = 0 ∧ f = .int .i64 0 ∧ l = .int .i64 (-1)) ∨ ∃ m, k = m + 1 ∧ f = .int .i64 ((Fil.least (fun k => c k row.size) m).1 : Int) ∧ l = .int .i64 ((Fil.least (fun k => c k row.size) m).2 : Int)) ∧ Hid (Below w.heap.size w wr)) (fun _ _ i _ => 5 - (intOf i).toNat)
  case atStart => exact ⟨0, by omega, rfl, .inl ⟨rfl, rfl, rfl⟩, Below.refl _ _⟩
  case round =>
    obtain ⟨k, hk, rfl, hst, HB⟩ := hrel
    by_cases hlt : k < 5
    · have d1 : decide ((k : Int) < 5) = true := by simp; omega
      have HX := hide (fun w => unhide HC k w (by omega))
      have hRk := unhide HRL2 k
      have HSk := hide (unhide HST2 k)
      have HLk := hide (unhide HL2 k)
      have HZk := hide (unhide HZ k)
      obtain ⟨ck, hck⟩ : ∃ q, q = c k := ⟨_, rfl⟩
      rw [← hck] at HSk HLk HZk
      obtain ⟨t, ht⟩ : ∃ t, t = tx (R k) := ⟨_, rfl⟩
      rw [← ht] at HX
      have hts : t.size = row.size := by rw [ht, tx_size, hRk]
      have HTA : Hid (∀ i (h : i < t.size), Fil.at0 (R k) i = t[i].toNat) := fun i h => by subst ht; exact (tx_at (R k) i h).symm
      have HT := hide ht
      have HCK := hide hck
      have Hst := hide hst
      clear ht hRk hck hst
      go_wp2_with fail
      refine (unhide HX _).mono ?_; rintro e w1 ⟨rfl, hb1⟩
      have HB1 := hide ((unhide HB).trans (hb1.mono (unhide HB).size))
      clear hb1 HX
      go_wp2
      go_loopw [11, 12] (fun sv iv wq => ∃ i : Nat, i ≤ row.size ∧ iv = .int .i64 (i : Int) ∧ sv = .int .i64 (ck i : Int) ∧ wq = w1) (fun _ iv _ => row.size - (intOf iv).toNat)
      case atStart => exact ⟨0, by omega, rfl, by rw [unhide HZk]; rfl, rfl⟩
      case round =>
        obtain ⟨i, hi, rfl, rfl, rfl⟩ := hrel
        by_cases hit : i < row.size
        · have d2 : decide ((i : Int) < (t.size : Int)) = true := by simp; omega
          have d2' : decide (i < t.size) = true := by simp; omega
          have hits : i < t.size := by omega
          have hiti : (i : Int) < (t.size : Int) := by omega
          have e1 := unhide HSk i hit
          rw [unhide HTA i hits] at e1
          have HE1 := hide e1
          have hx := t[i].toNat_lt
          have hci := unhide HLk i (by omega)
          generalize ck i = ci at *
          clear e1 hts
          by_cases hg : t[i].toNat > 127
          · have d3 : decide ((t[i].toNat : Int) > 127) = true := by simp; omega
            have d3' : decide ((127 : Int) < (t[i].toNat : Int)) = true := d3
            have hf : Fil.far t[i].toNat = 256 - t[i].toNat := by simp [Fil.far, hg]
            rw [hf] at HE1
            clear hf hg
            go_wp2
            go_roundw
            case rel => exact ⟨i + 1, by omega, by go_num, by rw [unhide HE1]; go_num, trivial⟩
            case measure => simp [intOf]; omega
          · have d3 : decide ((t[i].toNat : Int) > 127) = false := by simp; omega
            have d3' : decide ((127 : Int) < (t[i].toNat : Int)) = false := d3
            have hf : Fil.far t[i].toNat = t[i].toNat := by simp [Fil.far, hg]
            rw [hf] at HE1
            clear hf hg
            go_wp2
            go_roundw
            case rel => exact ⟨i + 1, by omega, by go_num, by rw [unhide HE1]; go_num, trivial⟩
            case measure => simp [intOf]; omega
        · obtain rfl : i = row.size := by omega
          have d2 : decide ((row.size : Int) < (t.size : Int)) = false := by simp; omega
          have d2' : decide (row.size < t.size) = false := by simp; omega
          have hcl := unhide HLk row.size (by omega)
          have hcc : ck row.size = c k row.size := by rw [unhide HCK]
          have HCC := hide hcc
          generalize ck row.size = cn at *
          clear hts hcc
          rcases unhide Hst with ⟨rfl, rfl, rfl⟩ | ⟨m, rfl, rfl, rfl⟩
          · have HS : Hid (Fil.least (fun k => c k row.size) 0 = (0, cn)) := by rw [unhide HCC]; rfl
            go_wp2
            go_roundw
            case rel => exact ⟨1, by omega, by go_num, .inr ⟨0, rfl, by rw [unhide HS]; first | done | rfl, by rw [unhide HS]⟩, HB1⟩
            case measure => simp [intOf]
          · have HS : Hid (Fil.least (fun k => c k row.size) (m + 1) = if cn < (Fil.least (fun k => c k row.size) m).2 then (m + 1, cn) else Fil.least (fun k => c k row.size) m) := by rw [unhide HCC]; rfl
            obtain ⟨lm, hlm⟩ : ∃ q, q = (Fil.least (fun k => c k row.size) m).2 := ⟨_, rfl⟩
            have d4 : decide ((lm : Int) < 0) = false := by simp
            rw [← hlm] at HS ⊢
            have HLM := hide hlm
            clear hlm
            by_cases hcm : cn < lm
            · have d5 : decide ((cn : Int) < (lm : Int)) = true := by simp; omega
              have d5' : decide (cn < lm) = true := by simp; omega
              rw [if_pos hcm] at HS
              clear hcm
              go_wp2
              go_roundw
              case rel => exact ⟨m + 1 + 1, by omega, by go_num, .inr ⟨m + 1, rfl, by rw [unhide HS]; first | done | go_num, by rw [unhide HS]⟩, HB1⟩
              case measure => simp [intOf]; omega
            · have d5 : decide ((cn : Int) < (lm : Int)) = false := by simp; omega
              have d5' : decide (cn < lm) = false := by simp; omega
              rw [if_neg hcm] at HS
              clear hcm
              go_wp2
              go_roundw
              case rel => exact ⟨m + 1 + 1, by omega, by go_num, .inr ⟨m + 1, rfl, by rw [unhide HS], by rw [unhide HS, unhide HLM]⟩, HB1⟩
              case measure => simp [intOf]; omega
    · obtain rfl : k = 5 := by omega
      rcases hst with ⟨h0, _⟩ | ⟨m, hm, rfl, rfl⟩
      · omega
      obtain rfl : m = 4 := by omega
      rw [← unhide HE]
      go_wp2
      go_ret
      exact ⟨rfl, unhide HB⟩
end Go.Proofs.YtmmilamaahmaoafDoor
