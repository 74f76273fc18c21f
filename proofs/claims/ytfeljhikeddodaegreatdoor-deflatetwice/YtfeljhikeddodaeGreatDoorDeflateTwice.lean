/- The statement that what is packed is read, by all ways, at once: the walk. -/
import Derived.Test.YtfeljhikeddodaeGreatDoorMg31
namespace Go.Proofs.YtfeljhikeddodaeGreatDoor
open Go.RowKit Ps Nf Pm Cn

theorem out_mono (t : Tks) {i : Nat} (n : Nat) (hs : ∀ j, j < n → t.shaped j) (h : i ≤ n) : (t.out i).length ≤ (t.out n).length := by
  induction n with
  | zero => obtain rfl : i = 0 := by omega
            exact Nat.le_refl _
  | succ n ih =>
    rcases Nat.lt_or_ge n i with c | c
    · obtain rfl : i = n + 1 := by omega
      exact Nat.le_refl _
    · have h1 := ih (fun j hj => hs j (by omega)) c
      have h2 := t.out_next (hs n (by omega))
      have h3 := hs n (by omega)
      unfold Tks.shaped at h3
      split at h2
      · omega
      · rename_i h4; rw [if_neg h4] at h3; omega
set_option maxHeartbeats 4000000 in
set_option maxRecDepth 100000 in
theorem deflateTwice_gl {tE : TypeId} (xs : Nat → Value) (s : ByteArray) (z : Int) (w : World) (hG : Gl w tE (xs 0) (xs 1) (xs 2)) (hZ : w.cell? ⟨2, 0, none⟩ = some (.iface tE (xs 3))) (hn : 6 ≤ w.heap.size) (_hs : s.size ≤ maxLen) :
    Calls Tryz.prog 3 #[.string s, .int .i64 z] w fun e w' => e = .returned (.bool true) ∧ Below w.heap.size w w' := by
  have HM := hide (blank_any w)
  have HG := hide hG
  have HZ := hide hZ
  have hzl := World.block_lt_of_cell? _ _ hZ
  simp only at hzl
  clear hG hZ
  by_cases c1 : s.size ≤ 3000
  rotate_left
  · have d1 : decide ((s.size : Int) > 3000) = true := decide_eq_true (by omega)
    have d1' : decide ((3000 : Int) < (s.size : Int)) = true := d1
    have d1n : decide (3000 < s.size) = true := decide_eq_true (by omega)
    go_enter Tryz.func3, Tryz.ntmps3
    go_wp2_with fail
    refine (unhide HM).mono ?_; rintro e w1 ⟨rfl, hb1⟩
    go_wp2
    go_ret
    exact ⟨rfl, hb1⟩
  have d1 : decide ((s.size : Int) > 3000) = false := decide_eq_false (by omega)
  have d1' : decide ((3000 : Int) < (s.size : Int)) = false := d1
  have d1n : decide (3000 < s.size) = false := decide_eq_false (by omega)
  by_cases c2 : z < 1
  · have d2 : decide (z < 1) = true := decide_eq_true c2
    clear c2
    go_enter Tryz.func3, Tryz.ntmps3
    go_wp2_with fail
    refine (unhide HM).mono ?_; rintro e w1 ⟨rfl, hb1⟩
    go_wp2
    go_ret
    exact ⟨rfl, hb1⟩
  by_cases c3 : z > 32768
  · have d2 : decide (z < 1) = false := decide_eq_false c2
    have d3 : decide (z > 32768) = true := decide_eq_true c3
    have d3' : decide (32768 < z) = true := d3
    clear c2 c3
    go_enter Tryz.func3, Tryz.ntmps3
    go_wp2_with fail
    refine (unhide HM).mono ?_; rintro e w1 ⟨rfl, hb1⟩
    go_wp2
    go_ret
    exact ⟨rfl, hb1⟩
  obtain ⟨win, rfl⟩ := Int.eq_ofNat_of_zero_le (show 0 ≤ z by omega)
  have d2 : decide ((win : Int) < 1) = false := decide_eq_false c2
  have d3 : decide ((win : Int) > 32768) = false := decide_eq_false c3
  have d3' : decide ((32768 : Int) < (win : Int)) = false := d3
  have hw1 : 1 ≤ win := by omega
  have hw2 : win ≤ 32768 := by omega
  have d2n : decide (win < 1) = false := decide_eq_false (by omega)
  have d3n : decide (32768 < win) = false := decide_eq_false (by omega)
  clear c2 c3
  have HX := hide (fun w => tokens_in s win w (by omega) hw1 hw2)
  go_enter Tryz.func3, Tryz.ntmps3
  go_wp2_with fail
  refine (unhide HM).mono ?_; rintro e w1 ⟨rfl, hb1⟩
  go_wp2_with fail
  refine (unhide HX w1).mono ?_
  rintro e w2 ⟨ts, aL, cL, rfl, hcov, ho1, hb2⟩
  obtain ⟨-, hout, hgood⟩ := Cov.means hw2 hcov
  have hsl : s.data.toList.length = s.size := by simp
  have hall : (tks ts).out ts.length = s.data.toList := by
    rw [hout, List.take_of_length_le]
    omega
  have hfew : ts.length ≤ 3000 := Nat.le_trans (Cov.few hcov) c1
  have hg : ∀ i, i < ts.length → (tks ts).good i := fun i hi => (hgood i hi).1
  have hb8 : ∀ i, i < ts.length → (tks ts).b i < 256 := fun i hi => (hgood i hi).2.2
  have hsh : ∀ i, i < ts.length → (tks ts).shaped i := fun i hi => (hg i hi).1
  have hIT : IsTokens w2 aL ts.length (tks ts) := row_tokens ho1 (by omega) (fun i hi => ⟨hb8 i hi, by
    have := hsh i hi
    unfold Tks.shaped at this
    split at this <;> omega, by have := (hgood i hi).2.1; omega⟩)
  have hsm : ∀ i, i ≤ ts.length → (∀ j, j < i → (tks ts).good j) → ((tks ts).out i).length ≤ 300000 := fun i hi _ => by
    have := out_mono (tks ts) ts.length hsh hi
    rw [hall] at this
    omega
  have hbw2 : Below w.heap.size w w2 := hb1.trans (hb2.mono hb1.size)
  have HOK : Hid (∀ w', Below w.heap.size w w' → Gl w' tE (xs 0) (xs 1) (xs 2) ∧ w'.cell? ⟨2, 0, none⟩ = some (.iface tE (xs 3)) ∧ 6 ≤ w'.heap.size) := fun w' hb => ⟨(unhide HG).below hb hn, (hb.cell (p := ⟨2, 0, none⟩) hzl).trans (unhide HZ), Nat.le_trans hn hb.size⟩
  have hPF : Pk s.data.toList (textP (fixP (tks ts) ts.length)) := by rw [← hall]; exact pk_fix hg hb8 (by omega)
  have HPD : Hid (∀ ns nd nc l0 l1 l2 ss, DynOf (tks ts) ts.length ns nd nc l0 l1 l2 ss → Pk s.data.toList (textP (dynP ns nd nc l0 l1 l2 ss (tks ts) ts.length))) := fun ns nd nc l0 l1 l2 ss h => by rw [← hall]; exact pk_dyn h hg hb8 (by omega)
  obtain ⟨hG2, _, hn2⟩ := unhide HOK w2 hbw2
  have HF := hide (fixedF_any aL ts.length cL (tks ts) w2 _ _ _ hG2.shape hG2.bound hIT hG2.tabs hn2 (by omega) hsm)
  have HD : Hid (∀ w', Below w2.heap.size w2 w' → Calls Tryz.prog 7 #[.slice aL ts.length cL] w' fun e w'' => ∃ x, e = .returned (.tuple #[.string x, .nilIface]) ∧ Pk s.data.toList x ∧ Below w'.heap.size w' w'') := fun w' hb => by
    obtain ⟨hG3, _, hn3⟩ := unhide HOK w' (hbw2.trans (hb.mono hbw2.size))
    refine (dynamicF_any aL ts.length cL (tks ts) w' _ _ _ hG3.shape hG3.bound (hIT.below hb) hG3.tabs hn3 (by omega) hsm).mono ?_
    rintro e w'' (⟨ns, nd, nc, l0, l1, l2, ss, _, rfl, hd, hbb⟩ | ⟨i, q, hw, _, _⟩)
    · exact ⟨_, rfl, unhide HPD _ _ _ _ _ _ _ hd, hbb⟩
    · exact absurd (hg i hw.lt) hw.bad
  have HGD := hide hg
  have HPF := hide hPF
  clear hcov ho1 hout hgood hall hfew hb8 hsh hIT hsm hg hPF HPD hG2 HX HM hb1 hb2 hsl
  go_wp2_with fail
  refine (unhide HF).mono ?_
  rintro e w3 (⟨_, rfl, hb3⟩ | ⟨i, q, hw, _, _⟩)
  rotate_left
  · exact absurd (unhide HGD i hw.lt) hw.bad
  obtain ⟨xa, hxa⟩ : ∃ xa, xa = textP (fixP (tks ts) ts.length) := ⟨_, rfl⟩
  rw [← hxa] at HPF ⊢
  have hb3w : Below w.heap.size w w3 := hbw2.trans (hb3.mono hbw2.size)
  have HD3 := hide (unhide HD w3 hb3)
  clear HF HD hxa HGD
  go_wp2_with fail
  refine (unhide HD3).mono ?_
  rintro e w4 ⟨xb, rfl, hpb, hb4⟩
  have hb4w : Below w.heap.size w w4 := hb3w.trans (hb4.mono hb3w.size)
  have HPB := hide hpb
  obtain ⟨hG4, _, hn4⟩ := unhide HOK w4 hb4w
  have HZI := hide (zip_any s _ _ w4 (by omega) hG4.tabs hn4 hG4.bound hG4.shape)
  clear HD3 hpb hG4
  go_wp2_with fail
  refine (unhide HZI).mono ?_
  rintro e w5 ⟨xc, rfl, hpc, hxc, hb5⟩
  have hb5w : Below w.heap.size w w5 := hb4w.trans (hb5.mono hb4w.size)
  have hzs := zipT_size s xc
  have HZR := hide (zr_zip s xc s.size hpc (Nat.le_refl _) (by omega))
  obtain ⟨zc, hzc⟩ : ∃ zc, zc = zipT s xc := ⟨_, rfl⟩
  rw [← hzc] at HZR hzs ⊢
  have hsl : s.data.toList.length = s.size := by simp
  obtain ⟨ca, ha1, ha2⟩ := pk_read (unhide HPF) ⟨#[98, 101, 104, 105, 110, 100]⟩ s.size (by omega) (by omega) (by decide)
  obtain ⟨cb, hb1, hb2⟩ := pk_read (unhide HPB) ⟨#[98, 101, 104, 105, 110, 100]⟩ s.size (by omega) (by omega) (by decide)
  have hxal : xa.size ≤ 2000000 := by
    obtain ⟨ps, hx, _, hl, _⟩ := unhide HPF
    rw [hx, textP_size]
    omega
  have hxbl : xb.size ≤ 2000000 := by
    obtain ⟨ps, hx, _, hl, _⟩ := unhide HPB
    rw [hx, textP_size]
    omega
  have es : (⟨s.data.toList.toArray⟩ : ByteArray) = s := by cases s; simp
  obtain ⟨hG5, _, hn5⟩ := unhide HOK w5 hb5w
  have HI : Hid (Calls Tryz.prog 9 #[.string (xa ++ ⟨#[98, 101, 104, 105, 110, 100]⟩), .int .i64 (s.size : Int)] w5 fun e w' => e = .returned (.tuple #[.string s, .int .i64 (xa.size : Int), .nilIface]) ∧ Below w5.heap.size w5 w') := by
    refine (inflate_any _ (s.size : Int) w5 hG5 hn5).mono ?_
    rintro e w' ⟨r, hr, rfl, hb⟩
    obtain rfl := Option.some.inj (ha1.symm.trans hr)
    refine ⟨?_, hb⟩
    show Ending.returned (.tuple #[.string ⟨s.data.toList.toArray⟩, .int .i64 (((ca + 7) / 8 : Nat) : Int), .nilIface]) = _
    rw [ha2, es]
  have HJ : Hid (∀ w6, Below w5.heap.size w5 w6 → Calls Tryz.prog 9 #[.string (xb ++ ⟨#[98, 101, 104, 105, 110, 100]⟩), .int .i64 (s.size : Int)] w6 fun e w' => e = .returned (.tuple #[.string s, .int .i64 (xb.size : Int), .nilIface]) ∧ Below w6.heap.size w6 w') := fun w6 h6 => by
    obtain ⟨hG6, _, hn6⟩ := unhide HOK w6 (hb5w.trans (h6.mono hb5w.size))
    refine (inflate_any _ (s.size : Int) w6 hG6 hn6).mono ?_
    rintro e w' ⟨r, hr, rfl, hb⟩
    obtain rfl := Option.some.inj (hb1.symm.trans hr)
    refine ⟨?_, hb⟩
    show Ending.returned (.tuple #[.string ⟨s.data.toList.toArray⟩, .int .i64 (((cb + 7) / 8 : Nat) : Int), .nilIface]) = _
    rw [hb2, es]
  have HU : Hid (∀ w6, Below w.heap.size w w6 → Calls Tryz.prog 10 #[.string zc, .int .i64 (s.size : Int)] w6 fun e w' => e = .returned (.tuple #[.string s, .nilIface]) ∧ Below w6.heap.size w6 w') := fun w6 h6 => by
    obtain ⟨hG6, hZ6, hn6⟩ := unhide HOK w6 h6
    refine (unzip_gl xs zc (s.size : Int) w6 hG6 hZ6 hn6 (by omega)).mono ?_
    rintro e w' ⟨hb, rfl⟩
    rw [unhide HZR]
    exact ⟨rfl, hb⟩
  have ta : (xa ++ ⟨#[98, 101, 104, 105, 110, 100]⟩ : ByteArray).size = xa.size + 6 := by rw [ByteArray.size_append]; rfl
  have tb : (xb ++ ⟨#[98, 101, 104, 105, 110, 100]⟩ : ByteArray).size = xb.size + 6 := by rw [ByteArray.size_append]; rfl
  have la : ¬ (9223372036854775807 < xa.size + 6) := by omega
  have lb : ¬ (9223372036854775807 < xb.size + 6) := by omega
  clear HZI hpc ha1 ha2 hb1 hb2 hG5 HPF HPB HZR hzc es hsl hb3 hb4 hb5
  go_wp2_with fail
  refine (unhide HI).mono ?_; rintro e w6 ⟨rfl, hb6⟩
  have HJ6 := hide (unhide HJ w6 hb6)
  have hb6w := hb5w.trans (hb6.mono hb5w.size)
  clear HI HJ
  go_wp2_with fail
  refine (unhide HJ6).mono ?_; rintro e w7 ⟨rfl, hb7⟩
  have hb7w := hb6w.trans (hb7.mono hb6w.size)
  have HU7 := hide (unhide HU w7 hb7w)
  clear HJ6 HU
  go_wp2_with fail
  refine (unhide HU7).mono ?_; rintro e w8 ⟨rfl, hb8⟩
  have hb8w := hb7w.trans (hb8.mono hb7w.size)
  clear HU7 hb6 hb7 hb8
  go_wp2
  go_ret
  exact ⟨rfl, hb8w⟩
theorem deflateTwice_any (s : ByteArray) (z : Int) (w : World) (a : Nat → Addr) (e0 : w.cell? ⟨1, 0, none⟩ = some (.iface 180 (.pointer (some (a 0))))) (e1 : w.cell? ⟨0, 0, none⟩ = some (.iface 180 (.pointer (some (a 1))))) (e2 : w.cell? ⟨3, 0, none⟩ = some (.iface 180 (.pointer (some (a 2))))) (e3 : w.cell? ⟨2, 0, none⟩ = some (.iface 180 (.pointer (some (a 3))))) (hB : Bl w) (hn : 6 ≤ w.heap.size) (hs : s.size ≤ maxLen) :
    Calls Tryz.prog 3 #[.string s, .int .i64 z] w fun e w' => e = .returned (.bool true) ∧ Below w.heap.size w w' :=
  deflateTwice_gl (fun i => .pointer (some (a i))) s z w ⟨e0, e1, e2, hB⟩ e3 hn hs
end Go.Proofs.YtfeljhikeddodaeGreatDoor
