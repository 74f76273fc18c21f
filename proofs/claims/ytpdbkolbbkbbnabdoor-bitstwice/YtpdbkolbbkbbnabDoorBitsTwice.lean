/- Walks of the statement: what is put is got. -/
import Derived.Test.YtpdbkolbbkbbnabDoorBt2
import Derived.Test.YtpdbkolbbkbbnabDoorRD2
import Derived.Test.YtpdbkolbbkbbnabDoorBWbad
import Derived.Test.YtpdbkolbbkbbnabDoorPc
import Derived.Deep.RegionHeld
namespace Go.Proofs.YtpdbkolbbkbbnabDoor
open Go.RowKit

/-- A text of bytes. -/
def yt (m N : Nat) : ByteArray := ⟨(Bt.yl m N).toArray⟩
theorem yt_size (m N : Nat) : (yt m N).size = m := by
  show (Bt.yl m N).toArray.size = m
  simp [Bt.yl_length]
theorem yt_tv (m N : Nat) (h : N < 256 ^ m) : tv (yt m N) = N := by
  unfold tv yt
  simp only
  rw [Bt.num_yl, Nat.mod_eq_of_lt h]

set_option maxHeartbeats 4000000 in
set_option maxRecDepth 100000 in
theorem bitsTwice_short (lb off len cap : Nat) (pn : Nat → Nat) (pw : Nat → Int) (pt pa : Nat → Bool) (w : World) (x : Addr) (hlen : len ≤ 100)
    (hE : w.cell? ⟨0, 0, none⟩ = some (.iface 90 (.pointer (some x))))
    (hP : ∀ i, i < len → w.cell? ⟨lb, off + i * 4, none⟩ = some (.int .u32 (pn i : Nat)) ∧ w.cell? ⟨lb, off + i * 4 + 1, none⟩ = some (.int .i64 (pw i)) ∧
      w.cell? ⟨lb, off + i * 4 + 2, none⟩ = some (.bool (pt i)) ∧ w.cell? ⟨lb, off + i * 4 + 3, none⟩ = some (.bool (pa i)) ∧ pn i < 4294967296 ∧ -9223372036854775808 ≤ pw i ∧ pw i ≤ 9223372036854775807) :
    Calls Tryd.prog 3 #[.slice (some ⟨lb, off, none⟩) len cap] w fun e w' => e = .returned (.bool true) ∧ Below w.heap.size w w' := by
  have hEl : 0 < w.heap.size := World.block_lt_of_cell? _ _ hE
  have HE := hide hE
  have HP := hide hP
  clear hE hP
  have hd0 : decide ((100 : Int) < (len : Int)) = false := by simp; omega
  go_enter Tryd.func3, Tryd.ntmps3
  go_wp2_with fail
  refine (three_any _).mono ?_; rintro e w1 ⟨rfl, hb1⟩
  have hnew := new_writer w1
  have hb2 := hb1.trans (((Below.refl w1.heap.size w1).alloc (Nat.le_refl _) (.cells #[.slice none 0 0, .int .i64 0] 27)).mono hb1.size)
  have hsz := hb1.size
  have Hnew := hide hnew
  clear hnew hb1
  go_wp2
  generalize w1.alloc (.cells #[.slice none 0 0, .int .i64 0] 27) = w2 at *
  generalize w1.heap.size = p at *
  obtain ⟨pd, hpd⟩ : ∃ pd : Nat → Nat, pd = fun i => (pw i).toNat := ⟨_, rfl⟩
  have Hpd := hide hpd
  clear hpd
  go_loopw [2, 5] (fun r i wr => ∃ k : Nat, k ≤ len ∧ i = .int .i64 k ∧ (∀ j, j < k → pa j = false → (pw j = pd j ∧ pd j ≤ 32 ∧ pn j < 2 ^ pd j)) ∧ WAt wr p (Bt.st pn pd pa k).1 (Bt.st pn pd pa k).2 ∧ Below w.heap.size w wr) (fun _ i _ => len - (intOf i).toNat)
  case atStart => exact ⟨0, by omega, rfl, fun j hj => by omega, unhide Hnew, hb2⟩
  case round =>
    obtain ⟨k, hk, rfl, hall, hW, hb⟩ := hrel
    have hsm := Bt.st_small (pn := pn) k (fun i hi hp => (hall i hi hp).2.1)
    by_cases hlt : k < len
    · have hdk : decide ((k : Int) < (len : Int)) = true := by simp; omega
      obtain ⟨c0, c1, c2, c3, hn, hw1, hw2⟩ := unhide HP k hlt
      have hll : lb < w.heap.size := World.block_lt_of_cell? _ _ c0
      have hEk := (hb.cell (p := ⟨0, 0, none⟩) hEl).trans (unhide HE)
      rw [← hb.cell (p := ⟨lb, off + k * 4, none⟩) hll] at c0
      rw [← hb.cell (p := ⟨lb, off + k * 4 + 1, none⟩) hll] at c1
      rw [← hb.cell (p := ⟨lb, off + k * 4 + 3, none⟩) hll] at c3
      clear c2
      have HW := hide hW
      have Hall := hide hall
      clear hW hall
      cases hpa : pa k
      · rw [hpa] at c3
        have Hst := hide (Bt.st_put (pn := pn) (pd := pd) k hpa)
        rcases fit_or_not (pn k) (pw k) with hno | ⟨d, hd, hd32, hfit⟩
        · generalize pn k = n at *
          generalize pw k = d at *
          have HK : Hid (∀ w', Below w.heap.size wr w' → (w'.cell? ⟨lb, off + k * 4, none⟩ = some (.int .u32 (n : Nat)) ∧ w'.cell? ⟨lb, off + k * 4 + 1, none⟩ = some (.int .i64 d))) := fun w' hb' => ⟨(hb'.cell hll).trans c0, (hb'.cell hll).trans c1⟩
          go_wp2
          go_region_held (fun w' => (w'.cell? ⟨lb, off + k * 4, none⟩ = some (.int .u32 (n : Nat)) ∧ w'.cell? ⟨lb, off + k * 4 + 1, none⟩ = some (.int .i64 d))) (exact HK.out _ (Below.refl _ _).drew)
            (first | (go_at_call 7; refine (put_bad p n d _ _ (show wr.drew.cell? _ = _ from hEk) hno).mono ?_; rintro e w3 ⟨rfl, rfl⟩))
          go_wp2
          go_ret
          exact ⟨rfl, hb.drew⟩
        · have hdd : pd k = d := by rw [unhide Hpd]; show (pw k).toNat = d; rw [hd]; rfl
          have hnext : ∀ j, j < k + 1 → pa j = false → (pw j = pd j ∧ pd j ≤ 32 ∧ pn j < 2 ^ pd j) := fun j hj hp => by
            by_cases e : j = k
            · subst e; rw [hdd]; exact ⟨hd, hd32, hfit⟩
            · exact unhide Hall j (by omega) hp
          have Hnext := hide hnext
          clear hnext
          rw [hd] at c1
          have HK : Hid (∀ w', Below w.heap.size wr w' → (w'.cell? ⟨lb, off + k * 4, none⟩ = some (.int .u32 (pn k : Nat)) ∧ w'.cell? ⟨lb, off + k * 4 + 1, none⟩ = some (.int .i64 (d : Int)))) := fun w' hb' => ⟨(hb'.cell hll).trans c0, (hb'.cell hll).trans c1⟩
          rw [hdd] at Hst
          clear hdd hd
          generalize pn k = n at *
          have HWd := hide (show WAt wr.drew p _ _ from (unhide HW).below (Below.refl _ _).drew)
          generalize (Bt.st pn pd pa k).1 = c at *
          generalize (Bt.st pn pd pa k).2 = N at *
          go_wp2
          go_region_held (fun w' => (w'.cell? ⟨lb, off + k * 4, none⟩ = some (.int .u32 (n : Nat)) ∧ w'.cell? ⟨lb, off + k * 4 + 1, none⟩ = some (.int .i64 (d : Int)))) (first | exact HK.out _ (Below.refl _ _).drew | exact HK.out _ ((Below.refl _ _).drew.trans (hk3.below (unhide HWd) hsz)))
            (first | (go_at_call 7; refine (put_yes p c N n d _ (unhide HWd) hd32 hfit (by omega)).mono ?_; rintro e w3 ⟨rfl, hW3, hk3⟩))
          have hb3 := hb.trans ((Below.refl _ _).drew.trans (hk3.below (unhide HWd) hsz))
          have HW3 := hide hW3
          clear hW3 hk3
          go_wp2
          go_roundw
          case rel => exact ⟨k + 1, by omega, by go_num, unhide Hnext, by rw [unhide Hst]; exact unhide HW3, hb3⟩
          case measure => simp [intOf]; omega
      · rw [hpa] at c3
        have Hst := hide (Bt.st_align (pn := pn) (pd := pd) k hpa)
        have hnext : ∀ j, j < k + 1 → pa j = false → (pw j = pd j ∧ pd j ≤ 32 ∧ pn j < 2 ^ pd j) := fun j hj hp => by
          by_cases e : j = k
          · subst e; rw [hpa] at hp; cases hp
          · exact unhide Hall j (by omega) hp
        have Hnext := hide hnext
        clear hnext
        generalize (Bt.st pn pd pa k).1 = c at *
        generalize (Bt.st pn pd pa k).2 = N at *
        go_wp2_with fail
        refine (align_any p c N _ (unhide HW) (by omega)).mono ?_; rintro e w3 ⟨rfl, hW3, hk3⟩
        have hb3 := hb.trans (hk3.below (unhide HW) hsz)
        have HW3 := hide hW3
        clear hW3 hk3
        go_wp2
        go_roundw
        case rel => exact ⟨k + 1, by omega, by go_num, unhide Hnext, by rw [unhide Hst]; exact unhide HW3, hb3⟩
        case measure => simp [intOf]; omega
    · have : k = len := by omega
      subst this
      have hdk : decide ((k : Int) < (k : Int)) = false := by simp
      have hfit := hW.fits
      obtain ⟨m, hm⟩ : ∃ m, m = ((Bt.st pn pd pa k).1 + 7) / 8 := ⟨_, rfl⟩
      have htv : tv (yt m (Bt.st pn pd pa k).2) = (Bt.st pn pd pa k).2 := yt_tv _ _ (by rw [Bt.pow256]; exact Bt.lt_wide hfit (by omega))
      have hys := yt_size m (Bt.st pn pd pa k).2
      have htx : (⟨(Bt.yl (((Bt.st pn pd pa k).1 + 7) / 8) (Bt.st pn pd pa k).2).toArray⟩ : ByteArray) = yt m (Bt.st pn pd pa k).2 := by rw [← hm]; rfl
      have hget : ∀ j, j < k → pa j = false → tv (yt m (Bt.st pn pd pa k).2) / 2 ^ (Bt.st pn pd pa j).1 % 2 ^ pd j = pn j := fun j hj hp => by
        rw [htv]
        exact Bt.st_get j k hj hp (fun i hi h => (hall i hi h).2.2)
      have hle : ∀ j, j ≤ k → (Bt.st pn pd pa j).1 ≤ (Bt.st pn pd pa k).1 := fun j hj => by
        obtain ⟨e, rfl⟩ := Nat.le.dest hj
        exact Bt.st_le j e
      have hwid : ∀ j, j < k → pa j = false → (Bt.st pn pd pa j).1 + pd j ≤ 8 * (yt m (Bt.st pn pd pa k).2).size := fun j hj hp => by
        have h1 := hle (j + 1) (by omega)
        rw [Bt.st_put _ hp] at h1
        have h1' : (Bt.st pn pd pa j).1 + pd j ≤ (Bt.st pn pd pa k).1 := h1
        omega
      have HW := hide hW
      have Hall := hide hall
      have Hget := hide hget
      have Hwid := hide hwid
      have Hys := hide hys
      have Hm := hide hm
      clear hW hall hget hwid hle htv hys
      generalize hy : yt m (Bt.st pn pd pa k).2 = s at *
      clear hy
      go_wp2_with fail
      refine (text_any p _ _ _ (unhide HW)).mono ?_; rintro e w3 ⟨rfl, rfl⟩
      rw [htx]
      clear htx
      have hss : s.size ≤ 1000000 := by have := unhide Hys; omega
      go_wp2_with fail
      refine (newReader_any s _ hss).mono ?_; rintro e w4 ⟨rfl, hR4, hb4⟩
      have HR4 := hide hR4
      clear hR4
      go_wp2
      go_loopw [2, 7] (fun r i wq => ∃ j : Nat, j ≤ k ∧ i = .int .i64 j ∧ RAt wq w3.heap.size s (Bt.st pn pd pa j).1 ∧ Below w3.heap.size w3 wq) (fun _ i _ => k - (intOf i).toNat)
      case atStart => exact ⟨0, by omega, rfl, unhide HR4, hb4⟩
      case round =>
        obtain ⟨j, hj, rfl, hR, hbr⟩ := hrel
        have hbq := hb.trans (hbr.mono hb.size)
        have HR := hide hR
        clear hR
        by_cases hjt : j < k
        · have hdj : decide ((j : Int) < (k : Int)) = true := by simp; omega
          obtain ⟨c0, c1, c2, c3, hn, hw1, hw2⟩ := unhide HP j hjt
          have hll : lb < w.heap.size := World.block_lt_of_cell? _ _ c0
          rw [← hbq.cell (p := ⟨lb, off + j * 4, none⟩) hll] at c0
          rw [← hbq.cell (p := ⟨lb, off + j * 4 + 1, none⟩) hll] at c1
          rw [← hbq.cell (p := ⟨lb, off + j * 4 + 3, none⟩) hll] at c3
          clear c2
          cases hpa : pa j
          · rw [hpa] at c3
            obtain ⟨hd, hd32, hfj⟩ := unhide Hall j hjt hpa
            have Hst := hide (Bt.st_put (pn := pn) (pd := pd) j hpa)
            have Hg := hide (get_yes w3.heap.size (Bt.st pn pd pa j).1 (pd j) s _ (unhide HR) hd32 (unhide Hwid j hjt hpa))
            rw [unhide Hget j hjt hpa] at Hg
            rw [hd] at c1 hw1 hw2
            clear hfj hd
            generalize pn j = n at *
            generalize hdj2 : pd j = d at *
            go_wp2_with fail
            refine (unhide Hg).mono ?_; rintro e w5 ⟨rfl, hR5, hb5⟩
            have HR5 := hide hR5
            have hb6 := hbr.trans hb5
            have c0' := (hb5.cell (p := ⟨lb, off + j * 4, none⟩) (Nat.lt_of_lt_of_le hll hb.size)).trans c0
            clear hR5 Hg
            go_wp2
            go_roundw
            case rel => exact ⟨j + 1, by omega, by go_num, by rw [unhide Hst]; exact unhide HR5, hb6⟩
            case measure => simp [intOf]; omega
          · rw [hpa] at c3
            have Hst := hide (Bt.st_align (pn := pn) (pd := pd) j hpa)
            go_wp2_with fail
            refine (ralign_any _ _ s _ (unhide HR)).mono ?_; rintro e w5 ⟨rfl, hR5, hb5⟩
            have HR5 := hide hR5
            have hb6 := hbr.trans hb5
            clear hR5
            go_wp2
            go_roundw
            case rel => exact ⟨j + 1, by omega, by go_num, by rw [unhide Hst]; exact unhide HR5, hb6⟩
            case measure => simp [intOf]; omega
        · have : j = k := by omega
          subst this
          have hdj : decide ((j : Int) < (j : Int)) = false := by simp
          have HWq := hide ((unhide HW).below hbr)
          obtain ⟨lf, hlf⟩ : ∃ lf, lf + (Bt.st pn pd pa j).1 = 8 * s.size := ⟨8 * s.size - (Bt.st pn pd pa j).1, by have := unhide Hys; omega⟩
          have hl8 : lf < 8 := by have := unhide Hys; have := unhide Hm; omega
          have Hlf := hide hlf
          have hd8 : decide (lf < 8) = true := by simp; omega
          have hd9 : decide ((lf : Int) < 8) = true := by simp; omega
          clear hlf
          go_wp2_with fail
          refine (at_any _ _ s _ (unhide HR)).mono ?_; rintro e w5 ⟨rfl, rfl⟩
          go_wp2_with fail
          refine (len_any p _ _ _ (unhide HWq)).mono ?_; rintro e w6 ⟨rfl, rfl⟩
          go_wp2_with fail
          refine (left_any _ _ lf s _ (unhide HR) (unhide Hlf)).mono ?_; rintro e w7 ⟨rfl, hb7⟩
          go_wp2
          go_ret
          exact ⟨rfl, hbq.trans (hb7.mono hbq.size)⟩
end Go.Proofs.YtpdbkolbbkbbnabDoor
