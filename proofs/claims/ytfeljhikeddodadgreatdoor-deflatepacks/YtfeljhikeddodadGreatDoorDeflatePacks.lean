/- The statement that any text, packed, is read, and has no more bytes than stored: the walk. -/
import Derived.Test.YtfeljhikeddodadGreatDoorMg27
import Derived.Test.YtfeljhikeddodadGreatDoorMg31
namespace Go.Proofs.YtfeljhikeddodadGreatDoor
open Go.RowKit Ps Nf Pm Cn

set_option maxHeartbeats 4000000 in
set_option maxRecDepth 100000 in
theorem deflatePacks_any (s : ByteArray) (w : World) (a : Nat → Addr) (e1 : w.cell? ⟨0, 0, none⟩ = some (.iface 243 (.pointer (some (a 1))))) (e2 : w.cell? ⟨2, 0, none⟩ = some (.iface 243 (.pointer (some (a 2))))) (hB : Bl w) (hn : 12 ≤ w.heap.size) (_hs : s.size ≤ maxLen) :
    Calls Tryz.prog 5 #[.string s] w fun e w' => e = .returned (.bool true) ∧ Below w.heap.size w w' := by
  have HM := hide (blank_any w)
  have hl1 := World.block_lt_of_cell? _ _ e1
  have hl2 := World.block_lt_of_cell? _ _ e2
  simp only at hl1 hl2
  have HG : Hid (∀ w', Below w.heap.size w w' → Bl w' ∧ w'.cell? ⟨0, 0, none⟩ = some (.iface 243 (.pointer (some (a 1)))) ∧ w'.cell? ⟨2, 0, none⟩ = some (.iface 243 (.pointer (some (a 2))))) := fun w' hb => ⟨hB.below hb hn, (hb.cell (p := ⟨0, 0, none⟩) hl1).trans e1, (hb.cell (p := ⟨2, 0, none⟩) hl2).trans e2⟩
  clear hB e1 e2
  by_cases c1 : s.size ≤ 3000
  rotate_left
  · have d1 : decide ((s.size : Int) > 3000) = true := decide_eq_true (by omega)
    have d1' : decide ((3000 : Int) < (s.size : Int)) = true := d1
    have d1n : decide (3000 < s.size) = true := decide_eq_true (by omega)
    go_enter Tryz.func5, Tryz.ntmps5
    go_wp2_with fail
    refine (unhide HM).mono ?_; rintro e w1 ⟨rfl, hb1⟩
    go_wp2
    go_ret
    exact ⟨rfl, hb1⟩
  have d1 : decide ((s.size : Int) > 3000) = false := decide_eq_false (by omega)
  have d1' : decide ((3000 : Int) < (s.size : Int)) = false := d1
  have d1n : decide (3000 < s.size) = false := decide_eq_false (by omega)
  go_enter Tryz.func5, Tryz.ntmps5
  go_wp2_with fail
  refine (unhide HM).mono ?_; rintro e w1 ⟨rfl, hb1⟩
  have hn1 : 12 ≤ w1.heap.size := Nat.le_trans hn hb1.size
  obtain ⟨hG1, e11, e12⟩ := unhide HG w1 hb1
  have HD := hide (deflate_any s _ _ w1 (by omega) hG1 hn1 e11 e12)
  clear HM hG1 e11 e12
  go_wp2_with fail
  refine (unhide HD).mono ?_
  rintro e w2 ⟨x, rfl, hpk, hxs, hb2⟩
  have hb2w : Below w.heap.size w w2 := hb1.trans (hb2.mono hb1.size)
  have hn2 : 12 ≤ w2.heap.size := Nat.le_trans hn hb2w.size
  obtain ⟨hG2, e21, e22⟩ := unhide HG w2 hb2w
  have HZ := hide (zip_any s _ _ w2 (by omega) hG2 hn2 e21 e22)
  have hfu := fu_ok s.size (by omega)
  have hsl : s.data.toList.length = s.size := by simp
  have hst : (textP (storP s.data.toList (fu s.size))) = ⟨(stoB s.data.toList (fu s.size)).toArray⟩ := textP_sto _ _
  have hsz : (textP (storP s.data.toList (fu s.size))).size ≤ s.size + 30 := by
    rw [textP_size]
    have := storP_len (fu s.size) s.data.toList
    omega
  have HSO := hide (fun w => storedOf_any s (fu s.size) w (by omega) hfu.1 hfu.2.1 hfu.2.2)
  rw [← hst] at HSO
  obtain ⟨tx, htx⟩ : ∃ tx, tx = textP (storP s.data.toList (fu s.size)) := ⟨_, rfl⟩
  rw [← htx] at HSO hxs hsz
  obtain ⟨c, hc1, hc2⟩ := pk_read hpk ⟨#[]⟩ s.size (by omega) (by omega) (by decide)
  have he : x ++ (⟨#[]⟩ : ByteArray) = x := by
    apply text_ext
    rw [ByteArray.data_append]
    simp
  rw [he] at hc1
  have HC1 := hide hc1
  have es : (⟨s.data.toList.toArray⟩ : ByteArray) = s := by cases s; simp
  have HV : Hid (∀ a3 n3 c3 a4 n4 c4 a5 n5 c5 a6 n6 c6 a9 n9 c9 i7 i8, toldV (.ok c s.data.toList) ⟨slc a3 n3 c3, slc a4 n4 c4, slc a5 n5 c5, slc a6 n6 c6, slc a9 n9 c9, i7, i8⟩ = .agg #[.string s, .int .i64 (x.size : Int), .int .i64 0, .slice a3 n3 c3, .slice a4 n4 c4, .slice a5 n5 c5, .slice a6 n6 c6, .int .i64 i7, .int .i64 i8, .slice a9 n9 c9]) := fun _ _ _ _ _ _ _ _ _ _ _ _ _ _ _ _ _ => by
    show Value.agg #[.string ⟨s.data.toList.toArray⟩, .int .i64 (((c + 7) / 8 : Nat) : Int), _, _, _, _, _, _, _, _] = _
    rw [hc2, es]
  have HIO := hide (fun w => inflateOf_any x (s.size : Int) w (by omega))
  clear HD hpk hfu hst htx hc1 hc2 he hG2 e21 e22 hb1 hb2 es hsl
  go_wp2_with fail
  refine (unhide HZ).mono ?_
  rintro e w3 ⟨xc, rfl, hpc, hxc, hb3⟩
  have hb3w : Below w.heap.size w w3 := hb2w.trans (hb3.mono hb2w.size)
  have hzs := zipT_size s xc
  have HZR := hide (zr_zip s xc s.size hpc (Nat.le_refl _) (by omega))
  obtain ⟨zc, hzc⟩ : ∃ zc, zc = zipT s xc := ⟨_, rfl⟩
  rw [← hzc] at HZR hzs ⊢
  have HUO : Hid (∀ w6, Calls Tryz.prog 20 #[.string zc, .int .i64 (s.size : Int)] w6 fun e w' => e = .returned (.tuple #[.string s, .int .i64 0]) ∧ Below w6.heap.size w6 w') := fun w6 => by
    refine (unzipOf_any zc (s.size : Int) w6 (by omega)).mono ?_
    rintro e w' ⟨hb, rfl⟩
    rw [unhide HZR]
    exact ⟨rfl, hb⟩
  clear HZ hpc hzc HZR hb3
  go_wp2_with fail
  refine (unhide HIO w3).mono ?_
  rintro e w4 ⟨r, v, hr, rfl, hb4⟩
  obtain rfl := Option.some.inj ((unhide HC1).symm.trans hr)
  rcases v with ⟨⟨_, a3, n3, c3, rfl⟩, ⟨_, a4, n4, c4, rfl⟩, ⟨_, a5, n5, c5, rfl⟩, ⟨_, a6, n6, c6, rfl⟩, ⟨_, a9, n9, c9, rfl⟩, i7, i8⟩
  rw [unhide HV]
  have HB4 := hide (hb3w.trans (hb4.mono hb3w.size))
  have HB5 := hide ((unhide HB4).alloc (unhide HB4).size (.cells #[.string s, .int .i64 (x.size : Int), .int .i64 0, .slice a3 n3 c3, .slice a4 n4 c4, .slice a5 n5 c5, .slice a6 n6 c6, .int .i64 i7, .int .i64 i8, .slice a9 n9 c9] 40))
  have hz5 : w4.heap.size < (w4.alloc (.cells #[.string s, .int .i64 (x.size : Int), .int .i64 0, .slice a3 n3 c3, .slice a4 n4 c4, .slice a5 n5 c5, .slice a6 n6 c6, .int .i64 i7, .int .i64 i8, .slice a9 n9 c9] 40)).heap.size := by simp
  have k0 : (w4.alloc (.cells #[.string s, .int .i64 (x.size : Int), .int .i64 0, .slice a3 n3 c3, .slice a4 n4 c4, .slice a5 n5 c5, .slice a6 n6 c6, .int .i64 i7, .int .i64 i8, .slice a9 n9 c9] 40)).cell? ⟨w4.heap.size, 0, none⟩ = some (.string s) := by simp
  have k1 : (w4.alloc (.cells #[.string s, .int .i64 (x.size : Int), .int .i64 0, .slice a3 n3 c3, .slice a4 n4 c4, .slice a5 n5 c5, .slice a6 n6 c6, .int .i64 i7, .int .i64 i8, .slice a9 n9 c9] 40)).cell? ⟨w4.heap.size, 1, none⟩ = some (.int .i64 (x.size : Int)) := by simp
  have k2 : (w4.alloc (.cells #[.string s, .int .i64 (x.size : Int), .int .i64 0, .slice a3 n3 c3, .slice a4 n4 c4, .slice a5 n5 c5, .slice a6 n6 c6, .int .i64 i7, .int .i64 i8, .slice a9 n9 c9] 40)).cell? ⟨w4.heap.size, 2, none⟩ = some (.int .i64 0) := by simp
  clear HIO hr HV HC1 hb3w hb4
  go_wp2_with fail
  generalize w4.alloc (.cells #[.string s, .int .i64 (x.size : Int), .int .i64 0, .slice a3 n3 c3, .slice a4 n4 c4, .slice a5 n5 c5, .slice a6 n6 c6, .int .i64 i7, .int .i64 i8, .slice a9 n9 c9] 40) = w5 at *
  refine (unhide HUO _).mono ?_; rintro e w6 ⟨rfl, hb6⟩
  have m0 := (hb6.cell (p := ⟨w4.heap.size, 0, none⟩) hz5).trans k0
  have m1 := (hb6.cell (p := ⟨w4.heap.size, 1, none⟩) hz5).trans k1
  have m2 := (hb6.cell (p := ⟨w4.heap.size, 2, none⟩) hz5).trans k2
  have HB6 := hide ((unhide HB5).trans (hb6.mono (unhide HB5).size))
  have dx : decide ((x.size : Int) ≤ (tx.size : Int)) = true := decide_eq_true (by omega)
  have dxn : decide (x.size ≤ tx.size) = true := decide_eq_true hxs
  clear HUO hb6 k0 k1 k2 HB5 hz5
  go_wp2_with fail
  refine (unhide HSO _).mono ?_; rintro e w7 ⟨rfl, hb7⟩
  have HB7 := hide ((unhide HB6).trans (hb7.mono (unhide HB6).size))
  clear HSO hb7
  go_wp2
  go_ret
  exact ⟨rfl, unhide HB7⟩
end Go.Proofs.YtfeljhikeddodadGreatDoor
