/- Walk of the program's Unpack. Pixels with room (cut out of Cu3). Moving pictures: the program's reader: pixels by their numbers. -/
import Derived.Test.YtjcoahahponabaaGreatDoorLzx
import Derived.Test.YtjcoahahponabaaGreatDoorMh7
import Derived.Test.YtjcoahahponabaaGreatDoorMh3
import Derived.Test.YtjcoahahponabaaGreatDoorMh14
import Derived.Test.YtjcoahahponabaaGreatDoorMh5
namespace Go.Proofs.YtjcoahahponabaaGreatDoor
open Go.RowKit Lz

/-- What Unpack answers, of any width and bound. -/
def unS (s : ByteArray) (width most : Int) : Res :=
  if 2 ≤ width ∧ width ≤ 8 ∧ 0 ≤ most ∧ most ≤ 300000 ∧ s.size ≤ 300000 then dec (tv s) (8 * s.size) width.toNat most.toNat (8 * s.size + 1) (Lz.start width.toNat) else .bound
def unV (eT eB : Value) : Res → Value
  | .text => .tuple #[.string ⟨#[]⟩, .int .i64 0, eT]
  | .bound => .tuple #[.string ⟨#[]⟩, .int .i64 0, eB]
  | .ok out k => .tuple #[.string ⟨out.toArray⟩, .int .i64 (((k + 7) / 8 : Nat) : Int), .nilIface]

theorem newUnpacker_any (s : ByteArray) (W most : Nat) (w : World) (hs : s.size ≤ 1000000) (_hW : W ≤ 8) (_hm : most ≤ 300000) :
    Calls Tryz.prog 174 #[.string s, .int .i64 (W : Int), .int .i64 (most : Int)] w fun e w' => ∃ p, e = .returned (.pointer (some ⟨p, 0, none⟩)) ∧ UN w' p w.heap.size s 0 W 0 0 most (.slice none 0 0) [] 0 0 (.slice none 0 0) [] ∧ Below w.heap.size w w' := by
  have HR := hide (newReader_any s w hs)
  go_enter Tryz.func174, Tryz.ntmps174
  go_wp2_with fail
  refine (unhide HR).mono ?_; rintro e w1 ⟨rfl, hR, hb⟩
  have HR1 := hide hR
  have hz := hb.size
  have hlt := hR.lt
  clear hR HR
  go_wp2
  go_ret
  refine ⟨w1.heap.size, rfl, ⟨by simp, ⟨by simp, by simp, by simp, by simp, by simp⟩, by simp, by simp, by simp, by simp, by simp, by simp, World.ownsRow_nil _ _ _ _, World.ownsRow_nil _ _ _ _, (unhide HR1).below ((Below.refl _ _).alloc (Nat.le_refl _) _), hlt⟩, hb.alloc hz _⟩

section
variable {p r : Nat} {s : ByteArray} {k W S N most : Nat} {vL : Value} {pcs : List (Nat × Nat)} {la ll : Nat} {vT : Value} {out : List UInt8}
theorem usedU_any (w : World) (h : UN w p r s k W S N most vL pcs la ll vT out) :
    Calls Tryz.prog 176 #[.pointer (some ⟨p, 0, none⟩)] w fun e w' => e = .returned (.int .i64 (((k + 7) / 8 : Nat) : Int)) ∧ w' = w := by
  have h0 := h.rd
  have hw := h.bits.within
  have hs := h.bits.small
  have HA := hide (at_any r k s w h.bits)
  have HE : Hid (((k : Int) + 8 - 1) / 8 = (((k + 7) / 8 : Nat) : Int)) := by show _ = _; omega
  clear h
  go_enter Tryz.func176, Tryz.ntmps176
  go_wp2_with fail
  refine (unhide HA).mono ?_; rintro e w1 ⟨rfl, rfl⟩
  go_wp2
  go_ret
  exact ⟨ret_int (unhide HE), rfl⟩
end

set_option maxHeartbeats 4000000 in
set_option maxRecDepth 100000 in
theorem unpack_in (s : ByteArray) (W most : Nat) (uT uB : TypeId) (xT xB : Value) (w : World) (hs : s.size ≤ 300000) (hW2 : 2 ≤ W) (hW : W ≤ 8) (hm : most ≤ 300000)
    (hT : w.cell? ⟨1, 0, none⟩ = some (.iface uT xT)) (hB : w.cell? ⟨0, 0, none⟩ = some (.iface uB xB)) :
    Calls Tryz.prog 159 #[.string s, .int .i64 (W : Int), .int .i64 (most : Int)] w fun e w' => e = .returned (unV (.iface uT xT) (.iface uB xB) (dec (tv s) (8 * s.size) W most (8 * s.size + 1) (Lz.start W))) ∧ Below w.heap.size w w' := by
  obtain ⟨G, hG⟩ : ∃ G, G = dec (tv s) (8 * s.size) W most (8 * s.size + 1) (Lz.start W) := ⟨_, rfl⟩
  have HWD := hide (wide_yes W w hW2 hW)
  have HNU := hide (newUnpacker_any s W most w (by omega) hW hm)
  have hgT : 1 < w.heap.size := World.block_lt_of_cell? _ _ hT
  have hgB : 0 < w.heap.size := World.block_lt_of_cell? _ _ hB
  have HUP : Hid (∀ (w' : World) (p : Nat), UN w' p w.heap.size s 0 W 0 0 most (.slice none 0 0) [] 0 0 (.slice none 0 0) [] → Below w.heap.size w w' → Calls Tryz.prog 175 #[.pointer (some ⟨p, 0, none⟩)] w' fun e w'' => ∃ v, e = .returned v ∧ Done G W most p w.heap.size s (.iface uT xT) (.iface uB xB) w'' v ∧ Below w.heap.size w' w'') := fun w' p hU hb => by
    rw [hG]
    exact unpack_any uT uB xT xB w' hU hW2 hW hm (fun w'' h2 => ((hb.trans h2).cell hgT).trans hT) (fun w'' h2 => ((hb.trans h2).cell hgB).trans hB)
  rw [← hG]
  have entU : ∀ args w, (callFunc 176 args).run Tryz.prog w = .ok (.enter 176 args) w := enters_of Tryz.func176 (by kernel_rfl) rfl
  have d1 : decide ((most : Int) < 0) = false := by simp
  have d2 : decide ((most : Int) > 300000) = false := by simp; omega
  have d2' : decide ((300000 : Int) < (most : Int)) = false := d2
  have d3 : decide ((s.size : Int) > 300000) = false := by simp; omega
  have d3' : decide ((300000 : Int) < (s.size : Int)) = false := d3
  clear hG hT hB hgT hgB
  go_enter Tryz.func159, Tryz.ntmps159
  go_wp2_with fail
  refine (unhide HWD).mono ?_; rintro e w1 ⟨rfl, rfl⟩
  clear HWD
  go_wp2_with fail
  refine (unhide HNU).mono ?_; rintro e w2 ⟨p, rfl, hU2, hb2⟩
  have HX := hide (unhide HUP w2 p hU2 hb2)
  have HB2 := hide hb2
  clear HNU HUP hU2 hb2
  go_wp2_with fail
  refine (unhide HX).mono ?_; rintro e w3 ⟨v, rfl, hD, hb3⟩
  have HB3 := hide ((unhide HB2).trans hb3)
  clear HX HB2 hb3
  rcases hD with ⟨h1, rfl⟩ | ⟨h1, rfl⟩ | ⟨out, k, h1, rfl, S, N, vL, pcs, la, ll, vT, hU3⟩
  · have HJ := hide h1
    clear h1
    go_wp2
    go_ret3
    exact ⟨by rw [unhide HJ]; rfl, unhide HB3⟩
  · have HJ := hide h1
    clear h1
    go_wp2
    go_ret3
    exact ⟨by rw [unhide HJ]; rfl, unhide HB3⟩
  · have HJ := hide h1
    obtain ⟨a3, c3, e3, _⟩ := shape2 hU3.oT
    subst e3
    have HU4 := hide (hU3.below (w' := w3.drew) (Below.refl _ _).drew)
    have HB4 := hide ((unhide HB3).drew)
    have HUS := hide (usedU_any w3.drew (unhide HU4))
    obtain ⟨u, hu⟩ : ∃ u, u = (k + 7) / 8 := ⟨_, rfl⟩
    rw [← hu] at HUS
    have HUu := hide hu
    clear hu
    clear h1 hU3 HB3
    go_wp2_with fail
    refine wp_region_held_drew (S := fun w' => UN w' p w1.heap.size s k W S N most vL pcs la ll (.slice a3 out.length c3) out) (by kernel_rfl) (unhide HU4) (fun hHeld => ?_)
    refine wpAnyH_take (i := 0) (v := .pointer (some ⟨p, 0, none⟩)) rfl (by kernel_rfl) (by kernel_rfl) (by kernel_rfl) (fun _ _ _ h => h) (Or.inl ⟨by rfl, ?_⟩) hHeld ?_
    · intro w' hSw
      clear hSw
      go_simp
    simp only [Act.put, List.setIfInBounds_toArray]
    refine wpAnyH_take (i := 1) (v := .pointer (some ⟨p, 0, none⟩)) rfl (by kernel_rfl) (by kernel_rfl) (by kernel_rfl) (fun _ _ _ h => h) (Or.inl ⟨by rfl, ?_⟩) hHeld ?_
    · intro w' hSw
      clear hSw
      go_simp
    simp only [Act.put]
    refine wpAnyH_take (i := 2) (v := .pointer (some ⟨p, 7, none⟩)) rfl (by kernel_rfl) (by kernel_rfl) (by kernel_rfl) (fun _ _ _ h => h) (Or.inl ⟨by rfl, ?_⟩) hHeld ?_
    · intro w' hSw
      clear hSw
      go_simp
    simp only [Act.put]
    refine wpAnyH_take (i := 3) (v := .slice a3 out.length c3) rfl (by kernel_rfl) (by kernel_rfl) (by kernel_rfl) (fun _ _ _ h => h) (Or.inl ⟨by rfl, ?_⟩) hHeld ?_
    · intro w' hSw
      have q1 := hSw.tx
      clear hSw
      go_simp
    simp only [Act.put]
    refine wpAnyH_take (i := 4) (v := .string ⟨out.toArray⟩) rfl (by kernel_rfl) (by kernel_rfl) (by kernel_rfl) (fun _ _ _ h => h) (Or.inl ⟨by rfl, ?_⟩) hHeld ?_
    · intro w' hSw
      have q1 := own_text w' _ _ _ _ hSw.oT
      clear hSw
      go_simp
    simp only [Act.put]
    refine wpAnyH_take (i := 5) (v := .pointer (some ⟨p, 0, none⟩)) rfl (by kernel_rfl) (by kernel_rfl) (by kernel_rfl) (fun _ _ _ h => h) (Or.inl ⟨by rfl, ?_⟩) hHeld ?_
    · intro w' hSw
      clear hSw
      go_simp
    simp only [Act.put]
    refine wpAnyH_ready (rs := [6]) (by kernel_rfl) (by simp) ?_
    refine AllReadyH.cons rfl (fun K hK => ?_) AllReadyH.nil
    refine step_calls rfl 176 [.tmp 42] #[246] rfl [.pointer (some ⟨p, 0, none⟩)] (by simp [Act.eval]) entU ?_
    refine (unhide HUS).mono ?_
    rintro e w5 ⟨rfl, rfl⟩
    refine .inl ⟨_, rfl, ?_⟩
    refine hK.out _ _ (unhide HU4) (fun hHeld => ?_)
    clear hK K HUS
    simp only [Act.put]
    refine wpAnyH_take (i := 7) (v := .string ⟨out.toArray⟩) rfl (by kernel_rfl) (by kernel_rfl) (by kernel_rfl) (fun _ _ _ h => h) (Or.inl ⟨by rfl, ?_⟩) hHeld ?_
    · intro w' hSw
      clear hSw
      go_simp
    simp only [Act.put]
    refine wpAnyH_take (i := 8) (v := .int .i64 (u : Int)) rfl (by kernel_rfl) (by kernel_rfl) (by kernel_rfl) (fun _ _ _ h => h) (Or.inl ⟨by rfl, ?_⟩) hHeld ?_
    · intro w' hSw
      clear hSw
      go_simp
    simp only [Act.put, List.getElem_toArray, List.getElem_cons_succ, List.getElem_cons_zero]
    refine wpAnyH_take (i := 9) (v := .nilIface) rfl (by kernel_rfl) (by kernel_rfl) (by kernel_rfl) (fun _ _ _ h => h) (Or.inl ⟨by rfl, ?_⟩) hHeld ?_
    · intro w' hSw
      clear hSw
      go_simp
    simp only [Act.put, List.getElem_toArray, List.getElem_cons_succ, List.getElem_cons_zero]
    refine wpAnyH_done (by kernel_rfl) ?_ _
    go_wp2
    go_ret3
    refine ⟨?_, unhide HB4⟩
    rw [unhide HJ, unV, ← unhide HUu]
    simp only [List.setIfInBounds_toArray, List.set_cons_succ, List.set_cons_zero]
    rfl

set_option maxRecDepth 100000 in
theorem unpack_out (s : ByteArray) (width most : Int) (eB : Value) (w : World) (hno : ¬ (2 ≤ width ∧ width ≤ 8 ∧ 0 ≤ most ∧ most ≤ 300000 ∧ s.size ≤ 300000)) (hB : w.cell? ⟨0, 0, none⟩ = some eB) :
    Calls Tryz.prog 159 #[.string s, .int .i64 width, .int .i64 most] w fun e w' => e = .returned (.tuple #[.string ⟨#[]⟩, .int .i64 0, eB]) ∧ Below w.heap.size w w' := by
  by_cases hw : 2 ≤ width ∧ width ≤ 8
  · obtain ⟨W, rfl⟩ := Int.eq_ofNat_of_zero_le (show 0 ≤ width by omega)
    have HWD := hide (wide_yes W w (by omega) (by omega))
    by_cases h1 : most < 0
    · have d1 : decide (most < 0) = true := by simp; omega
      clear hw hno
      go_enter Tryz.func159, Tryz.ntmps159
      go_wp2_with fail
      refine (unhide HWD).mono ?_; rintro e w1 ⟨rfl, rfl⟩
      go_wp2
      go_region
      go_wp2
      go_ret3
      exact ⟨rfl, (Below.refl _ _).drew⟩
    · have d1 : decide (most < 0) = false := by simp; omega
      by_cases h2 : 300000 < most
      · have d2 : decide (most > 300000) = true := by simp; omega
        have d2' : decide ((300000 : Int) < most) = true := d2
        clear hw hno
        go_enter Tryz.func159, Tryz.ntmps159
        go_wp2_with fail
        refine (unhide HWD).mono ?_; rintro e w1 ⟨rfl, rfl⟩
        go_wp2
        go_region
        go_wp2
        go_ret3
        exact ⟨rfl, (Below.refl _ _).drew⟩
      · have d2 : decide (most > 300000) = false := by simp; omega
        have d2' : decide ((300000 : Int) < most) = false := d2
        have hs : 300000 < s.size := by omega
        have d3 : decide ((s.size : Int) > 300000) = true := by simp; omega
        have d3' : decide ((300000 : Int) < (s.size : Int)) = true := d3
        have d3n : decide (300000 < s.size) = true := by simp; omega
        clear hw hno
        go_enter Tryz.func159, Tryz.ntmps159
        go_wp2_with fail
        refine (unhide HWD).mono ?_; rintro e w1 ⟨rfl, rfl⟩
        go_wp2
        go_region
        go_wp2
        go_ret3
        exact ⟨rfl, (Below.refl _ _).drew⟩
  · have HWD := hide (wide_no width w (by omega))
    clear hw hno
    go_enter Tryz.func159, Tryz.ntmps159
    go_wp2_with fail
    refine (unhide HWD).mono ?_; rintro e w1 ⟨rfl, rfl⟩
    go_wp2
    go_region
    go_wp2
    go_ret3
    exact ⟨rfl, (Below.refl _ _).drew⟩

theorem unpackU_any (s : ByteArray) (width most : Int) (uT uB : TypeId) (xT xB : Value) (w : World)
    (hT : w.cell? ⟨1, 0, none⟩ = some (.iface uT xT)) (hB : w.cell? ⟨0, 0, none⟩ = some (.iface uB xB)) :
    Calls Tryz.prog 159 #[.string s, .int .i64 width, .int .i64 most] w fun e w' => e = .returned (unV (.iface uT xT) (.iface uB xB) (unS s width most)) ∧ Below w.heap.size w w' := by
  unfold unS
  by_cases h : 2 ≤ width ∧ width ≤ 8 ∧ 0 ≤ most ∧ most ≤ 300000 ∧ s.size ≤ 300000
  · rw [if_pos h]
    obtain ⟨W, rfl⟩ := Int.eq_ofNat_of_zero_le (show 0 ≤ width by omega)
    obtain ⟨M, rfl⟩ := Int.eq_ofNat_of_zero_le h.2.2.1
    exact unpack_in s W M uT uB xT xB w (by omega) (by omega) (by omega) (by omega) hT hB
  · rw [if_neg h]
    exact unpack_out s width most (.iface uB xB) w h hB
end Go.Proofs.YtjcoahahponabaaGreatDoor
namespace Go.Proofs.YtjcoahahponabaaGreatDoor
open Go.RowKit

theorem make_p0 (n : Nat) (hn : n ≤ 100000) (w : World) : (Instr.makeSlice 25 (.int .i64 0) (.int .i64 (n : Int))).run Tryz.prog w = .ok (.slice (some ⟨w.heap.size, 0, none⟩) 0 n) (w.alloc (.cells (madeCells #[.int .u8 0, .int .u8 0, .int .u8 0, .int .u8 0] (n * 4)) 78)) := by
  obtain ⟨i0, hi, hz0, hz1, hz2⟩ := info_parts px_info
  have hr := run_make (P := Tryz.prog) w 25 78 i0 (.agg #[.int .u8 0, .int .u8 0, .int .u8 0, .int .u8 0]) Tryz.underlying25 hi hz0 .i64 .i64 0 n (by omega) (by omega) (by rw [hz2]; omega) (by omega)
  rw [hz1] at hr
  simpa [Value.cells] using hr
end Go.Proofs.YtjcoahahponabaaGreatDoor
namespace Go.Proofs.YtjcoahahponabaaGreatDoor
open Go.RowKit Lz

theorem dec_most {V nb W most : Nat} : ∀ (f : Nat) (st : St) (out : List UInt8) (k : Nat), st.out.length ≤ most → dec V nb W most f st = .ok out k → out.length ≤ most
  | 0, _, _, _, _, h => by simp [dec] at h
  | f + 1, st, out, k, hst, h => by
    unfold dec at h
    cases hs : Lz.step V nb W most st with
    | inr r =>
      rw [hs] at h
      simp only at h
      subst h
      unfold Lz.step at hs
      dsimp only at hs
      split at hs
      · simp at hs
      · split at hs
        · simp only [Sum.inr.injEq, Res.ok.injEq] at hs
          rw [← hs.1]; exact hst
        · split at hs
          · simp at hs
          · split at hs
            · simp at hs
            · split at hs <;> simp at hs
    | inl st' =>
      rw [hs] at h
      refine dec_most f st' out k ?_ h
      unfold Lz.step at hs
      dsimp only at hs
      split at hs
      · simp at hs
      · split at hs
        · simp at hs
        · split at hs
          · simp only [Sum.inl.injEq] at hs
            rw [← hs]; exact hst
          · split at hs
            · simp at hs
            · split at hs
              · simp at hs
              · simp only [Sum.inl.injEq] at hs
                rw [← hs]
                show (st.out ++ _).length ≤ most
                rw [List.length_append]
                omega
theorem unS_most {s : ByteArray} {wd most : Nat} {out : List UInt8} {k : Nat} (h : unS s (wd : Int) (most : Int) = .ok out k) : out.length ≤ most ∧ out.length ≤ 300000 := by
  unfold unS at h
  split at h
  · next q =>
    have h2 := dec_most _ _ out k (by show ([] : List UInt8).length ≤ _; simp) h
    simp only [Int.toNat_natCast] at h2
    omega
  · simp at h

/-- Pixels by their numbers. -/
def pxO (U : List Px) (out : List UInt8) : List Px := out.map fun x => U.getD x.toNat default
def pixR (U : List Px) (most : Nat) : List UInt8 → Option (List Px × List UInt8)
  | [] => none
  | wd :: t => match joinL t.length t with
    | none => none
    | some x => if t.length < x.2 then none else match unS ⟨x.1.toArray⟩ (wd.toNat : Int) (most : Int) with
      | .ok out _ => if ∀ y, y ∈ out → y.toNat < U.length then some (pxO U out, t.drop x.2) else none
      | _ => none
theorem px_not_gr {w : World} {R b off : Nat} {s : ByteArray} {p : Px} (h : GR w R s) (hp : PxAt w b off p) : b ≠ R := fun e => by
  subst e
  have h0 := hp.r
  rw [blk_cell h] at h0
  rcases off with _ | off <;> simp at h0
theorem px_but {w w' : World} {R n : Nat} {s : ByteArray} {a : Option Addr} {p : Nat → Px} (h : IsPx w a n p) (hR : GR w R s) (hb : But (· = R) w w') : IsPx w' a n p := by
  rcases h with h | ⟨b, off, e, hm, hc⟩
  · exact .inl h
  · exact .inr ⟨b, off, e, hm, fun i hi => (hc i hi).block (hb.block b (hc i hi).lt (px_not_gr hR (hc i hi)))⟩
theorem pxO_snoc (U : List Px) (out : List UInt8) (i : Nat) (h : i < out.length) : pxO U (out.take (i + 1)) = pxO U (out.take i) ++ [U.getD (out[i]).toNat default] := by
  unfold pxO
  rw [List.take_add_one, List.map_append, List.getElem?_eq_getElem h]
  rfl

section
variable {R : Nat} {s : ByteArray} {tE tB : TypeId} {xE xB : Value}
set_option maxHeartbeats 4000000 in
set_option maxRecDepth 100000 in
theorem rpixels_any (a : Option Addr) (c : Nat) (U : List Px) (most : Nat) (w : World) (h : GR w R s) (hG : GT w tE xE) (hB : w.cell? ⟨0, 0, none⟩ = some (.iface tB xB)) (hne : 1 ≠ R) (hne2 : 0 ≠ R) (hs : s.size ≤ 300000) (hm : most ≤ 70000) (hU : IsPx w a U.length (fun i => U.getD i default)) :
    Calls Tryz.prog 136 #[.pointer (some ⟨R, 0, none⟩), .slice a U.length c, .int .i64 (most : Int)] w fun e w' => ((∃ P a2 c2 s', pixR U most (bl s) = some (P, bl s') ∧ P.length ≤ most ∧ s'.size ≤ s.size ∧ e = .returned (.slice a2 P.length c2) ∧ w'.ownsRow w.heap.size 78 4 (.slice a2 P.length c2) P.length (pxL P) ∧ GR w' R s') ∨ (pixR U most (bl s) = none ∧ e = .panicked (gthr tE xE))) ∧ But (· = R) w w' := by
  have HC := hide (gbyte_any w h hG)
  have HG := hide (fun wr (hb : But (· = R) w wr) => hG.but hb hne)
  have HGB := hide (fun wr (hb : But (· = R) w wr) => ((hb.cell (p := ⟨0, 0, none⟩) (World.block_lt_of_cell? _ _ hB) hne2).trans hB))
  have HU := hide (fun wr (hb : But (· = R) w wr) => px_but hU h hb)
  have hRl := h.lt
  obtain ⟨B, hBB⟩ : ∃ B, B = w.heap.size := ⟨_, rfl⟩
  clear h hG hU hB
  go_enter Tryz.func136, Tryz.ntmps136
  go_wp2_with fail
  refine (unhide HC).mono ?_
  rintro e w1 ⟨hq, hb⟩
  have HB1 := hide hb
  have HH := hide hq
  have HBE := hide hBB
  have hz1 : B ≤ w1.heap.size := by have := hb.size; omega
  have hRB : R < B := by omega
  clear hq hb HC hBB
  rcases unhide HH with ⟨z, s1, h1, rfl, hr1⟩ | ⟨h1, rfl⟩
  rotate_left
  · have HE : Hid (pixR U most (bl s) = none) := by show _ = _; rw [h1]; rfl
    clear h1 HH
    go_wp2
    exact ⟨rfl, .inr ⟨unhide HE, rfl⟩, unhide HB1⟩
  have hzl := z.toNat_lt
  have hs1 : s1.size ≤ 300000 ∧ s1.size + 1 = s.size := by
    have h2 := bl_len s
    rw [h1, List.length_cons, bl_len] at h2
    omega
  have HJ := hide (join_any s1 (.iface tE xE) w1 hs1.1 (unhide HG _ (unhide HB1)))
  have HPx : Hid (pixR U most (bl s) = match joinL s1.size s1.data.toList with
    | none => none
    | some x => if s1.size < x.2 then none else match unS ⟨x.1.toArray⟩ (z.toNat : Int) (most : Int) with
      | .ok out _ => if ∀ y, y ∈ out → y.toNat < U.length then some (pxO U out, (bl s1).drop x.2) else none
      | _ => none) := by
    show _ = _
    rw [h1]
    show (match joinL (bl s1).length (bl s1) with | none => none | some x => if (bl s1).length < x.2 then none else _) = _
    rw [bl_len]
    rfl
  have c0 := hr1.cell
  have HR1 := hide hr1
  clear h1 hr1 HH
  go_wp2_with fail
  refine (unhide HJ).mono ?_
  rintro e w2 ⟨rfl, hb2⟩
  have HB2 := hide ((unhide HB1).of_below hb2 (fun k h1 h2 => by have := (unhide HB1).size; omega))
  have HR2 := hide ((unhide HR1).below hb2 (unhide HR1).lt)
  have hz2 : B ≤ w2.heap.size := by have := hb2.size; omega
  clear HJ hb2 HB1 HR1 c0 hz1
  cases hjl : joinL s1.size s1.data.toList with
  | none =>
    have HE : Hid (pixR U most (bl s) = none) := by show _ = _; rw [unhide HPx, hjl]
    clear hjl
    unfold joinV
    go_wp2_with fail
    refine (gthrow_any tE xE _).mono ?_; rintro e w3 ⟨rfl, rfl⟩
    go_wp2
    exact ⟨rfl, .inr ⟨unhide HE, rfl⟩, unhide HB2⟩
  | some x =>
    obtain ⟨pk, used⟩ := x
    have HPx2 : Hid (pixR U most (bl s) = if s1.size < used then none else match unS ⟨pk.toArray⟩ (z.toNat : Int) (most : Int) with
      | .ok out _ => if ∀ y, y ∈ out → y.toNat < U.length then some (pxO U out, (bl s1).drop used) else none
      | _ => none) := by show _ = _; rw [unhide HPx, hjl]
    have HT := hide (gtake_any used w2 (unhide HR2) (unhide HG _ (unhide HB2)))
    clear hjl HPx
    unfold joinV
    go_wp2_with fail
    refine (unhide HT).mono ?_
    rintro e w3 ⟨hq, hb⟩
    have HH := hide hq
    have HB3 := hide ((unhide HB2).trans hb)
    have hz3 : B ≤ w3.heap.size := by have := hb.size; omega
    clear HT hq hb HB2 HR2 hz2
    rcases unhide HH with ⟨hl, q, s2, hq, hs2, rfl, hr⟩ | ⟨hl, rfl⟩
    rotate_left
    · have HE : Hid (pixR U most (bl s) = none) := by show _ = _; rw [bl_len] at hl; rw [unhide HPx2, if_pos hl]
      clear hl HH
      go_wp2
      exact ⟨rfl, .inr ⟨unhide HE, rfl⟩, unhide HB3⟩
    rw [bl_len] at hl
    have hs2s : s2.size ≤ s1.size := by rw [← bl_len s2, hs2, List.length_drop, bl_len]; omega
    have HPx3 : Hid (pixR U most (bl s) = match unS ⟨pk.toArray⟩ (z.toNat : Int) (most : Int) with
      | .ok out _ => if ∀ y, y ∈ out → y.toNat < U.length then some (pxO U out, bl s2) else none
      | _ => none) := by show _ = _; rw [unhide HPx2, if_neg (by omega), ← hs2]
    have HR3 := hide hr
    have HUn := hide (unpackU_any ⟨pk.toArray⟩ (z.toNat : Int) (most : Int) tE tB xE xB w3 (unhide HG _ (unhide HB3)) (unhide HGB _ (unhide HB3)))
    clear hl hq hs2 hr HH HPx2
    go_wp2_with fail
    refine (unhide HUn).mono ?_
    rintro e w4 ⟨rfl, hb4⟩
    have HB4 := hide ((unhide HB3).of_below hb4 (fun k h1 h2 => by have := (unhide HB3).size; omega))
    have HR4 := hide ((unhide HR3).below hb4 (unhide HR3).lt)
    have hz4 : B ≤ w4.heap.size := by have := hb4.size; omega
    clear HUn hb4 HB3 HR3 hz3
    have hG4 : w4.cell? ⟨1, 0, none⟩ = some (.iface tE xE) := unhide HG _ (unhide HB4)
    cases hun : unS ⟨pk.toArray⟩ (z.toNat : Int) (most : Int) with
    | text =>
      have HE : Hid (pixR U most (bl s) = none) := by show _ = _; rw [unhide HPx3, hun]
      clear hun
      unfold unV
      go_wp2_with fail
      refine (gthrow_any tE xE _).mono ?_; rintro e w5 ⟨rfl, rfl⟩
      go_wp2
      exact ⟨rfl, .inr ⟨unhide HE, rfl⟩, unhide HB4⟩
    | bound =>
      have HE : Hid (pixR U most (bl s) = none) := by show _ = _; rw [unhide HPx3, hun]
      clear hun
      unfold unV
      go_wp2_with fail
      refine (gthrow_any tE xE _).mono ?_; rintro e w5 ⟨rfl, rfl⟩
      go_wp2
      exact ⟨rfl, .inr ⟨unhide HE, rfl⟩, unhide HB4⟩
    | ok out kk =>
      have hml := unS_most hun
      have HPx4 : Hid (pixR U most (bl s) = if ∀ y, y ∈ out → y.toNat < U.length then some (pxO U out, bl s2) else none) := by show _ = _; rw [unhide HPx3, hun]
      have hmk := fun w => make_p0 most (by omega) w
      have HA := hide (al1 w4 (.cells (madeCells #[.int .u8 0, .int .u8 0, .int .u8 0, .int .u8 0] (most * 4)) 78))
      have HO0 : Hid ((w4.alloc (.cells (madeCells #[.int .u8 0, .int .u8 0, .int .u8 0, .int .u8 0] (most * 4)) 78)).ownsRow w4.heap.size 78 4 (.slice (some ⟨w4.heap.size, 0, none⟩) 0 most) (pxO U (out.take 0)).length (pxL (pxO U (out.take 0)))) :=
        World.ownsRow_made w4 (madeCells #[.int .u8 0, .int .u8 0, .int .u8 0, .int .u8 0] (most * 4)) most (Nat.le_refl _) (by unfold maxLen; omega) (by simp [madeCells])
      obtain ⟨nb, hnb⟩ : ∃ nb : ByteArray, nb = ⟨out.toArray⟩ := ⟨_, rfl⟩
      have hnl : nb.size = out.length := by rw [hnb]; rfl
      have HNB : Hid (∀ i (h : i < nb.size) (h2 : i < out.length), nb[i] = out[i]) := fun i h h2 => by
        subst hnb
        rfl
      clear hun HPx3
      have hV : unV (.iface tE xE) (.iface tB xB) (.ok out kk) = .tuple #[.string nb, .int .i64 (((kk + 7) / 8 : Nat) : Int), .nilIface] := by rw [hnb]; rfl
      rw [hV]
      clear hnb hG4 hV
      go_wp2_with fail
      generalize w4.alloc (.cells (madeCells #[.int .u8 0, .int .u8 0, .int .u8 0, .int .u8 0] (most * 4)) 78) = w5 at *
      obtain ⟨hs5, _, hb5⟩ := unhide HA
      have HB5 := hide ((unhide HB4).of_below hb5 (fun k h1 h2 => by have := (unhide HB4).size; omega))
      have HR5 := hide ((unhide HR4).below hb5 (unhide HR4).lt)
      have hz5 : B ≤ w5.heap.size := by omega
      have HOb : Hid (w5.ownsRow B 78 4 (.slice (some ⟨w4.heap.size, 0, none⟩) 0 most) (pxO U (out.take 0)).length (pxL (pxO U (out.take 0)))) := own_rebase (unhide HO0) hz4
      have HA0 : Hid (∀ y, y ∈ out.take 0 → y.toNat < U.length) := fun y hy => by simp at hy
      clear HA hb5 HB4 HR4 HO0 hmk hs5
      go_loopw [13, 50] (fun lv iv wr => ∃ i : Nat, i ≤ nb.size ∧ iv = .int .i64 (i : Int) ∧ Hid (wr.ownsRow B 78 4 lv (pxO U (out.take i)).length (pxL (pxO U (out.take i)))) ∧ Hid (∀ y, y ∈ out.take i → y.toNat < U.length) ∧ Hid (GR wr R s2) ∧ Hid (But (· = R) w wr) ∧ B ≤ wr.heap.size) (fun _ iv _ => nb.size - (intOf iv).toNat)
      case atStart => exact ⟨0, Nat.zero_le _, rfl, HOb, HA0, HR5, HB5, hz5⟩
      case round =>
        clear HOb HA0 HR5 HB5 hz5
        obtain ⟨i, hi, rfl, HO, HAl, HR, HB, hz⟩ := hrel
        obtain ⟨na, nc, rfl⟩ := own_shape4 (unhide HO)
        have hpl : (pxO U (out.take i)).length = i := by unfold pxO; rw [List.length_map, List.length_take]; omega
        by_cases hlt : i < nb.size
        · have d1 : decide ((i : Int) < (nb.size : Int)) = true := decide_eq_true (by omega)
          have d1n : decide (i < nb.size) = true := decide_eq_true hlt
          have hii : (i : Int) < (nb.size : Int) := by omega
          have hlo : i < out.length := by omega
          have hnbi := unhide HNB i hlt hlo
          have HS := hide (pxO_snoc U out i hlo)
          have HTk : Hid (out.take (i + 1) = out.take i ++ [out[i]]) := by show _ = _; rw [List.take_add_one, List.getElem?_eq_getElem hlo]; rfl
          rw [← hnbi] at HS HTk
          have HMem : Hid (nb[i] ∈ out) := by show _ ∈ _; rw [hnbi]; exact List.getElem_mem _
          have h256 : nb[i].toNat < 256 := nb[i].toNat_lt
          clear hnbi
          generalize hy : nb[i] = y at *
          have hyn : (nb[i].toNat : Int) = (y.toNat : Int) := by rw [hy]
          have HYE : Hid (nb[i] = y) := hy
          by_cases hin : y.toNat < U.length
          · have d2 : decide ((y.toNat : Int) ≥ (U.length : Int)) = false := decide_eq_false (by omega)
            have d2' : decide ((U.length : Int) ≤ (y.toNat : Int)) = false := d2
            have d2n : decide (U.length ≤ y.toNat) = false := decide_eq_false (by omega)
            have hin2 : (y.toNat : Int) < (U.length : Int) := by omega
            obtain ⟨ub, uo, rfl, _, hc⟩ := (unhide HU wr (unhide HB)).resolve_left (by omega)
            obtain ⟨x0, x1, x2, x3⟩ := hc y.toNat hin
            simp only at x0 x1 x2 x3
            rw [hpl] at HO ⊢
            have HPL := hide hpl
            generalize hp : U.getD y.toNat default = p at *
            have HAa := hide (al1 wr (.cells #[.int .u8 (p.r.toNat : Int), .int .u8 (p.g.toNat : Int), .int .u8 (p.b.toNat : Int), .int .u8 (p.a.toNat : Int)] 78))
            have HF := hide (four_new wr p 78)
            have HO1 := hide ((unhide HO).alloc (.cells #[.int .u8 (p.r.toNat : Int), .int .u8 (p.g.toNat : Int), .int .u8 (p.b.toNat : Int), .int .u8 (p.a.toNat : Int)] 78))
            have HR1 : Hid (GR (wr.alloc (.cells #[.int .u8 (p.r.toNat : Int), .int .u8 (p.g.toNat : Int), .int .u8 (p.b.toNat : Int), .int .u8 (p.a.toNat : Int)] 78)) R s2) := blk_alloc (unhide HR) _
            have HB1 := hide ((unhide HB).alloc (.cells #[.int .u8 (p.r.toNat : Int), .int .u8 (p.g.toNat : Int), .int .u8 (p.b.toNat : Int), .int .u8 (p.a.toNat : Int)] 78))
            have HIn := hide hin
            have hib : i ≤ 300000 := by omega
            clear hc hpl HO hp hy HR HB hin
            go_wp2_with (at_builtin; refine wpList_appPx1 _ rfl (.tmp 63) (.tmp 68) rfl B wr.heap.size (.slice na i nc) (pxO U (out.take i)) p rfl rfl (by rw [unhide HPL]; exact unhide HO1) (unhide HF) (by rw [unhide HPL]; omega) (by have := (unhide HAa).size; omega) ?_)
            intro v6 w6 ho6 hg6 hat6
            have hsa := (unhide HAa).size
            have hz6 := hg6.size
            have hno : ∀ k, (Value.slice na i nc).ownBlock = some k → B ≤ k := fun k e => ((unhide HO1).lt k e).1
            have HB6 : Hid (But (· = R) w w6) := (unhide HB1).grown hg6 (fun k e hk => by have := hno k e; have := unhide HBE; omega)
            have HR6 : Hid (GR w6 R s2) := (hg6.block R (by have := (unhide HR1).lt; omega) (fun e => by have := hno R e.symm; omega)).trans (unhide HR1)
            have HO6 : Hid (w6.ownsRow B 78 4 v6 (pxO U (out.take (i + 1))).length (pxL (pxO U (out.take (i + 1))))) := by
              show World.ownsRow _ _ _ _ _ _ _
              rw [unhide HS]
              first | exact ho6 | (rw [List.length_append]; exact ho6)
            have HA6 : Hid (∀ z, z ∈ out.take (i + 1) → z.toNat < U.length) := fun z hz => by
              rw [unhide HTk, List.mem_append, List.mem_singleton] at hz
              rcases hz with q | rfl
              · exact unhide HAl z q
              · exact unhide HIn
            have hz7 : B ≤ w6.heap.size := by omega
            clear ho6 hg6 hat6 hno hz6 hsa HAa HF HO1 HR1 HB1 HS HTk HMem HYE HPL HIn HAl x0 x1 x2 x3
            go_wp2
            go_roundw
            case rel => exact ⟨i + 1, by omega, by go_num, HO6, HA6, HR6, HB6, hz7⟩
            case measure => simp [intOf]; omega
          · have d2 : decide ((y.toNat : Int) ≥ (U.length : Int)) = true := decide_eq_true (by omega)
            have d2' : decide ((U.length : Int) ≤ (y.toNat : Int)) = true := d2
            have d2n : decide (U.length ≤ y.toNat) = true := decide_eq_true (by omega)
            have HE : Hid (pixR U most (bl s) = none) := by
              show _ = _
              rw [unhide HPx4, if_neg (fun q => hin (q y (unhide HMem)))]
            have hG4 : wr.cell? ⟨1, 0, none⟩ = some (.iface tE xE) := unhide HG _ (unhide HB)
            clear hin HMem HS HTk HO HAl HR hy HYE hpl
            go_wp2_with fail
            refine (gthrow_any tE xE _).mono ?_; rintro e w7 ⟨rfl, rfl⟩
            go_wp2
            exact ⟨rfl, .inr ⟨unhide HE, rfl⟩, unhide HB⟩
        · obtain rfl : i = nb.size := by omega
          have d1 : decide ((nb.size : Int) < (nb.size : Int)) = false := by simp
          have htk : out.take nb.size = out := List.take_of_length_le (by omega)
          rw [htk] at HO HAl hpl ⊢
          have HE : Hid (pixR U most (bl s) = some (pxO U out, bl s2)) := by show _ = _; rw [unhide HPx4, if_pos (unhide HAl)]
          have hPl : (pxO U out).length ≤ most := by omega
          clear HAl htk HPx4
          go_wp2
          go_ret
          refine ⟨.inl ⟨pxO U out, na, nc, s2, unhide HE, hPl, by omega, rfl, ?_, unhide HR⟩, unhide HB⟩
          rw [← unhide HBE]
          exact unhide HO
end
end Go.Proofs.YtjcoahahponabaaGreatDoor
