/- Walk of the program's Unpack. Pixels with room (cut out of Cu3). -/
import Derived.Test.YtjcoahahponabaaDoorLzx
import Derived.Test.YtjcoahahponabaaDoorMg8
import Derived.Test.YtjcoahahponabaaDoorMg3
namespace Go.Proofs.YtjcoahahponabaaDoor
open Go.RowKit Lz

/-- What Unpack answers, of any width and bound. -/
def unS (s : ByteArray) (width most : Int) : Res :=
  if 2 ≤ width ∧ width ≤ 8 ∧ 0 ≤ most ∧ most ≤ 300000 ∧ s.size ≤ 300000 then dec (tv s) (8 * s.size) width.toNat most.toNat (8 * s.size + 1) (Lz.start width.toNat) else .bound
def unV (eT eB : Value) : Res → Value
  | .text => .tuple #[.string ⟨#[]⟩, .int .i64 0, eT]
  | .bound => .tuple #[.string ⟨#[]⟩, .int .i64 0, eB]
  | .ok out k => .tuple #[.string ⟨out.toArray⟩, .int .i64 (((k + 7) / 8 : Nat) : Int), .nilIface]

theorem newUnpacker_any (s : ByteArray) (W most : Nat) (w : World) (hs : s.size ≤ 1000000) (_hW : W ≤ 8) (_hm : most ≤ 300000) :
    Calls Tryd.prog 74 #[.string s, .int .i64 (W : Int), .int .i64 (most : Int)] w fun e w' => ∃ p, e = .returned (.pointer (some ⟨p, 0, none⟩)) ∧ UN w' p w.heap.size s 0 W 0 0 most (.slice none 0 0) [] 0 0 (.slice none 0 0) [] ∧ Below w.heap.size w w' := by
  have HR := hide (newReader_any s w hs)
  go_enter Tryd.func74, Tryd.ntmps74
  go_wp2_with fail
  refine (unhide HR).mono ?_; rintro e w1 ⟨rfl, hR, hb⟩
  have HR1 := hide hR
  have hz := hb.size
  have hlt := hR.lt
  clear hR HR
  go_wp2
  go_ret
  refine ⟨w1.heap.size, rfl, ⟨by simp, ⟨by simp, by simp, by simp, by simp, by simp⟩, by simp, by simp, by simp, by simp, by simp, by simp, World.ownsRow_nil _ _ _ _, World.ownsRow_nil _ _ _ _, (unhide HR1).below ((Below.refl _ _).alloc (Nat.le_refl _) _), hlt⟩, hb.alloc hz _⟩

section
variable {p r : Nat} {s : ByteArray} {k W S N most : Nat} {vL : Value} {pcs : List (Nat × Nat)} {la ll : Nat} {vT : Value} {out : List UInt8}
theorem usedU_any (w : World) (h : UN w p r s k W S N most vL pcs la ll vT out) :
    Calls Tryd.prog 76 #[.pointer (some ⟨p, 0, none⟩)] w fun e w' => e = .returned (.int .i64 (((k + 7) / 8 : Nat) : Int)) ∧ w' = w := by
  have h0 := h.rd
  have hw := h.bits.within
  have hs := h.bits.small
  have HA := hide (at_any r k s w h.bits)
  have HE : Hid (((k : Int) + 8 - 1) / 8 = (((k + 7) / 8 : Nat) : Int)) := by show _ = _; omega
  clear h
  go_enter Tryd.func76, Tryd.ntmps76
  go_wp2_with fail
  refine (unhide HA).mono ?_; rintro e w1 ⟨rfl, rfl⟩
  go_wp2
  go_ret
  exact ⟨ret_int (unhide HE), rfl⟩
end

set_option maxHeartbeats 4000000 in
set_option maxRecDepth 100000 in
theorem unpack_in (s : ByteArray) (W most : Nat) (uT uB : TypeId) (xT xB : Value) (w : World) (hs : s.size ≤ 300000) (hW2 : 2 ≤ W) (hW : W ≤ 8) (hm : most ≤ 300000)
    (hT : w.cell? ⟨0, 0, none⟩ = some (.iface uT xT)) (hB : w.cell? ⟨1, 0, none⟩ = some (.iface uB xB)) :
    Calls Tryd.prog 65 #[.string s, .int .i64 (W : Int), .int .i64 (most : Int)] w fun e w' => e = .returned (unV (.iface uT xT) (.iface uB xB) (dec (tv s) (8 * s.size) W most (8 * s.size + 1) (Lz.start W))) ∧ Below w.heap.size w w' := by
  obtain ⟨G, hG⟩ : ∃ G, G = dec (tv s) (8 * s.size) W most (8 * s.size + 1) (Lz.start W) := ⟨_, rfl⟩
  have HWD := hide (wide_yes W w hW2 hW)
  have HNU := hide (newUnpacker_any s W most w (by omega) hW hm)
  have hgT : 0 < w.heap.size := World.block_lt_of_cell? _ _ hT
  have hgB : 1 < w.heap.size := World.block_lt_of_cell? _ _ hB
  have HUP : Hid (∀ (w' : World) (p : Nat), UN w' p w.heap.size s 0 W 0 0 most (.slice none 0 0) [] 0 0 (.slice none 0 0) [] → Below w.heap.size w w' → Calls Tryd.prog 75 #[.pointer (some ⟨p, 0, none⟩)] w' fun e w'' => ∃ v, e = .returned v ∧ Done G W most p w.heap.size s (.iface uT xT) (.iface uB xB) w'' v ∧ Below w.heap.size w' w'') := fun w' p hU hb => by
    rw [hG]
    exact unpack_any uT uB xT xB w' hU hW2 hW hm (fun w'' h2 => ((hb.trans h2).cell hgT).trans hT) (fun w'' h2 => ((hb.trans h2).cell hgB).trans hB)
  rw [← hG]
  have entU : ∀ args w, (callFunc 76 args).run Tryd.prog w = .ok (.enter 76 args) w := enters_of Tryd.func76 (by kernel_rfl) rfl
  have d1 : decide ((most : Int) < 0) = false := by simp
  have d2 : decide ((most : Int) > 300000) = false := by simp; omega
  have d2' : decide ((300000 : Int) < (most : Int)) = false := d2
  have d3 : decide ((s.size : Int) > 300000) = false := by simp; omega
  have d3' : decide ((300000 : Int) < (s.size : Int)) = false := d3
  clear hG hT hB hgT hgB
  go_enter Tryd.func65, Tryd.ntmps65
  go_wp2_with fail
  refine (unhide HWD).mono ?_; rintro e w1 ⟨rfl, rfl⟩
  clear HWD
  go_wp2_with fail
  refine (unhide HNU).mono ?_; rintro e w2 ⟨p, rfl, hU2, hb2⟩
  have HX := hide (unhide HUP w2 p hU2 hb2)
  have HB2 := hide hb2
  clear HNU HUP hU2 hb2
  go_wp2_with fail
  refine (unhide HX).mono ?_; rintro e w3 ⟨v, rfl, hD, hb3⟩
  have HB3 := hide ((unhide HB2).trans hb3)
  clear HX HB2 hb3
  rcases hD with ⟨h1, rfl⟩ | ⟨h1, rfl⟩ | ⟨out, k, h1, rfl, S, N, vL, pcs, la, ll, vT, hU3⟩
  · have HJ := hide h1
    clear h1
    go_wp2
    go_ret3
    exact ⟨by rw [unhide HJ]; rfl, unhide HB3⟩
  · have HJ := hide h1
    clear h1
    go_wp2
    go_ret3
    exact ⟨by rw [unhide HJ]; rfl, unhide HB3⟩
  · have HJ := hide h1
    obtain ⟨a3, c3, e3, _⟩ := shape2 hU3.oT
    subst e3
    have HU4 := hide (hU3.below (w' := w3.drew) (Below.refl _ _).drew)
    have HB4 := hide ((unhide HB3).drew)
    have HUS := hide (usedU_any w3.drew (unhide HU4))
    obtain ⟨u, hu⟩ : ∃ u, u = (k + 7) / 8 := ⟨_, rfl⟩
    rw [← hu] at HUS
    have HUu := hide hu
    clear hu
    clear h1 hU3 HB3
    go_wp2_with fail
    refine wp_region_held_drew (S := fun w' => UN w' p w1.heap.size s k W S N most vL pcs la ll (.slice a3 out.length c3) out) (by kernel_rfl) (unhide HU4) (fun hHeld => ?_)
    refine wpAnyH_take (i := 0) (v := .pointer (some ⟨p, 0, none⟩)) rfl (by kernel_rfl) (by kernel_rfl) (by kernel_rfl) (fun _ _ _ h => h) (Or.inl ⟨by rfl, ?_⟩) hHeld ?_
    · intro w' hSw
      clear hSw
      go_simp
    simp only [Act.put, List.setIfInBounds_toArray]
    refine wpAnyH_take (i := 1) (v := .pointer (some ⟨p, 0, none⟩)) rfl (by kernel_rfl) (by kernel_rfl) (by kernel_rfl) (fun _ _ _ h => h) (Or.inl ⟨by rfl, ?_⟩) hHeld ?_
    · intro w' hSw
      clear hSw
      go_simp
    simp only [Act.put]
    refine wpAnyH_take (i := 2) (v := .pointer (some ⟨p, 7, none⟩)) rfl (by kernel_rfl) (by kernel_rfl) (by kernel_rfl) (fun _ _ _ h => h) (Or.inl ⟨by rfl, ?_⟩) hHeld ?_
    · intro w' hSw
      clear hSw
      go_simp
    simp only [Act.put]
    refine wpAnyH_take (i := 3) (v := .slice a3 out.length c3) rfl (by kernel_rfl) (by kernel_rfl) (by kernel_rfl) (fun _ _ _ h => h) (Or.inl ⟨by rfl, ?_⟩) hHeld ?_
    · intro w' hSw
      have q1 := hSw.tx
      clear hSw
      go_simp
    simp only [Act.put]
    refine wpAnyH_take (i := 4) (v := .string ⟨out.toArray⟩) rfl (by kernel_rfl) (by kernel_rfl) (by kernel_rfl) (fun _ _ _ h => h) (Or.inl ⟨by rfl, ?_⟩) hHeld ?_
    · intro w' hSw
      have q1 := own_text w' _ _ _ _ hSw.oT
      clear hSw
      go_simp
    simp only [Act.put]
    refine wpAnyH_take (i := 5) (v := .pointer (some ⟨p, 0, none⟩)) rfl (by kernel_rfl) (by kernel_rfl) (by kernel_rfl) (fun _ _ _ h => h) (Or.inl ⟨by rfl, ?_⟩) hHeld ?_
    · intro w' hSw
      clear hSw
      go_simp
    simp only [Act.put]
    refine wpAnyH_ready (rs := [6]) (by kernel_rfl) (by simp) ?_
    refine AllReadyH.cons rfl (fun K hK => ?_) AllReadyH.nil
    refine step_calls rfl 76 [.tmp 42] #[129] rfl [.pointer (some ⟨p, 0, none⟩)] (by simp [Act.eval]) entU ?_
    refine (unhide HUS).mono ?_
    rintro e w5 ⟨rfl, rfl⟩
    refine .inl ⟨_, rfl, ?_⟩
    refine hK.out _ _ (unhide HU4) (fun hHeld => ?_)
    clear hK K HUS
    simp only [Act.put]
    refine wpAnyH_take (i := 7) (v := .string ⟨out.toArray⟩) rfl (by kernel_rfl) (by kernel_rfl) (by kernel_rfl) (fun _ _ _ h => h) (Or.inl ⟨by rfl, ?_⟩) hHeld ?_
    · intro w' hSw
      clear hSw
      go_simp
    simp only [Act.put]
    refine wpAnyH_take (i := 8) (v := .int .i64 (u : Int)) rfl (by kernel_rfl) (by kernel_rfl) (by kernel_rfl) (fun _ _ _ h => h) (Or.inl ⟨by rfl, ?_⟩) hHeld ?_
    · intro w' hSw
      clear hSw
      go_simp
    simp only [Act.put, List.getElem_toArray, List.getElem_cons_succ, List.getElem_cons_zero]
    refine wpAnyH_take (i := 9) (v := .nilIface) rfl (by kernel_rfl) (by kernel_rfl) (by kernel_rfl) (fun _ _ _ h => h) (Or.inl ⟨by rfl, ?_⟩) hHeld ?_
    · intro w' hSw
      clear hSw
      go_simp
    simp only [Act.put, List.getElem_toArray, List.getElem_cons_succ, List.getElem_cons_zero]
    refine wpAnyH_done (by kernel_rfl) ?_ _
    go_wp2
    go_ret3
    refine ⟨?_, unhide HB4⟩
    rw [unhide HJ, unV, ← unhide HUu]
    simp only [List.setIfInBounds_toArray, List.set_cons_succ, List.set_cons_zero]
    rfl

set_option maxRecDepth 100000 in
theorem unpack_out (s : ByteArray) (width most : Int) (eB : Value) (w : World) (hno : ¬ (2 ≤ width ∧ width ≤ 8 ∧ 0 ≤ most ∧ most ≤ 300000 ∧ s.size ≤ 300000)) (hB : w.cell? ⟨1, 0, none⟩ = some eB) :
    Calls Tryd.prog 65 #[.string s, .int .i64 width, .int .i64 most] w fun e w' => e = .returned (.tuple #[.string ⟨#[]⟩, .int .i64 0, eB]) ∧ Below w.heap.size w w' := by
  by_cases hw : 2 ≤ width ∧ width ≤ 8
  · obtain ⟨W, rfl⟩ := Int.eq_ofNat_of_zero_le (show 0 ≤ width by omega)
    have HWD := hide (wide_yes W w (by omega) (by omega))
    by_cases h1 : most < 0
    · have d1 : decide (most < 0) = true := by simp; omega
      clear hw hno
      go_enter Tryd.func65, Tryd.ntmps65
      go_wp2_with fail
      refine (unhide HWD).mono ?_; rintro e w1 ⟨rfl, rfl⟩
      go_wp2
      go_region
      go_wp2
      go_ret3
      exact ⟨rfl, (Below.refl _ _).drew⟩
    · have d1 : decide (most < 0) = false := by simp; omega
      by_cases h2 : 300000 < most
      · have d2 : decide (most > 300000) = true := by simp; omega
        have d2' : decide ((300000 : Int) < most) = true := d2
        clear hw hno
        go_enter Tryd.func65, Tryd.ntmps65
        go_wp2_with fail
        refine (unhide HWD).mono ?_; rintro e w1 ⟨rfl, rfl⟩
        go_wp2
        go_region
        go_wp2
        go_ret3
        exact ⟨rfl, (Below.refl _ _).drew⟩
      · have d2 : decide (most > 300000) = false := by simp; omega
        have d2' : decide ((300000 : Int) < most) = false := d2
        have hs : 300000 < s.size := by omega
        have d3 : decide ((s.size : Int) > 300000) = true := by simp; omega
        have d3' : decide ((300000 : Int) < (s.size : Int)) = true := d3
        have d3n : decide (300000 < s.size) = true := by simp; omega
        clear hw hno
        go_enter Tryd.func65, Tryd.ntmps65
        go_wp2_with fail
        refine (unhide HWD).mono ?_; rintro e w1 ⟨rfl, rfl⟩
        go_wp2
        go_region
        go_wp2
        go_ret3
        exact ⟨rfl, (Below.refl _ _).drew⟩
  · have HWD := hide (wide_no width w (by omega))
    clear hw hno
    go_enter Tryd.func65, Tryd.ntmps65
    go_wp2_with fail
    refine (unhide HWD).mono ?_; rintro e w1 ⟨rfl, rfl⟩
    go_wp2
    go_region
    go_wp2
    go_ret3
    exact ⟨rfl, (Below.refl _ _).drew⟩

theorem unpackU_any (s : ByteArray) (width most : Int) (uT uB : TypeId) (xT xB : Value) (w : World)
    (hT : w.cell? ⟨0, 0, none⟩ = some (.iface uT xT)) (hB : w.cell? ⟨1, 0, none⟩ = some (.iface uB xB)) :
    Calls Tryd.prog 65 #[.string s, .int .i64 width, .int .i64 most] w fun e w' => e = .returned (unV (.iface uT xT) (.iface uB xB) (unS s width most)) ∧ Below w.heap.size w w' := by
  unfold unS
  by_cases h : 2 ≤ width ∧ width ≤ 8 ∧ 0 ≤ most ∧ most ≤ 300000 ∧ s.size ≤ 300000
  · rw [if_pos h]
    obtain ⟨W, rfl⟩ := Int.eq_ofNat_of_zero_le (show 0 ≤ width by omega)
    obtain ⟨M, rfl⟩ := Int.eq_ofNat_of_zero_le h.2.2.1
    exact unpack_in s W M uT uB xT xB w (by omega) (by omega) (by omega) (by omega) hT hB
  · rw [if_neg h]
    exact unpack_out s width most (.iface uB xB) w h hB
end Go.Proofs.YtjcoahahponabaaDoor
namespace Go.Proofs.YtjcoahahponabaaDoor
open Go.RowKit

theorem make_p0 (n : Nat) (hn : n ≤ 100000) (w : World) : (Instr.makeSlice 33 (.int .i64 0) (.int .i64 (n : Int))).run Tryd.prog w = .ok (.slice (some ⟨w.heap.size, 0, none⟩) 0 n) (w.alloc (.cells (madeCells #[.int .u8 0, .int .u8 0, .int .u8 0, .int .u8 0] (n * 4)) 44)) := by
  obtain ⟨i0, hi, hz0, hz1, hz2⟩ := info_parts px_info
  have hr := run_make (P := Tryd.prog) w 33 44 i0 (.agg #[.int .u8 0, .int .u8 0, .int .u8 0, .int .u8 0]) Tryd.underlying33 hi hz0 .i64 .i64 0 n (by omega) (by omega) (by rw [hz2]; omega) (by omega)
  rw [hz1] at hr
  simpa [Value.cells] using hr
end Go.Proofs.YtjcoahahponabaaDoor
