/- Moving pictures: the program's reader: colors. Walks of the getting of bits. Walks of the reader of bits: nothing else is turned. -/
import Derived.Test.YtjcoahahponabaaDoorMg13
import Derived.Test.YtjcoahahponabaaDoorMg7
import Derived.Test.YtjcoahahponabaaDoorMg3
namespace Go.Proofs.YtjcoahahponabaaDoor
open Go.RowKit Lz

theorem step_appPx1 {w : World} {ops : Array Oper} {o : Oper} {a : Act} {K : Act → World → Prop} {Q : Exit → Act → World → Prop} {E : Prop} (hgd : o.guard = none) (s x : Operand)
    (ho : o.op = .call { callee := .builtin .append, args := #[s, x], argTypes := #[33, 33] }) (base q : Nat) (v : Value) (l : List Px) (p : Px) (hs : a.eval s = v) (hx : a.eval x = .slice (some ⟨q, 0, none⟩) 1 1)
    (hown : w.ownsRow base 44 4 v l.length (pxL l)) (hq : PxAt w q 0 p) (hl : l.length ≤ 1000000) (hb : base ≤ w.heap.size)
    (h : ∀ v' w', w'.ownsRow base 44 4 v' (l ++ [p]).length (pxL (l ++ [p])) → w.grownBy w' v.ownBlock → (v'.ownBlock = v.ownBlock ∨ v'.ownBlock = some w.heap.size) → K (a.put o.dst v') w') : if Region.wanted o (yielded ops a.tmps) = true then Oper.wp Tryd.prog o a w K Q else E := by
  have hw : Region.wanted o (yielded ops a.tmps) = true := by simp [Region.wanted, hgd]
  rw [if_pos hw]
  obtain ⟨v', w', h1, h2, h3, h5⟩ := app_px1 w base q v l p o.type hown hq hl hb
  unfold Oper.wp execOp
  simp only [ho, resolve, invoke, builtin, Sem.run_bind, Sem.run_pure, Result.andThen_ok, List.map_toArray, List.map_cons, List.map_nil, hs, hx, h1]
  exact h v' w' h2 h3 h5
theorem own_but {w w' : World} {base size n R : Nat} {e : TypeId} {v : Value} {xs : List Value} (h : w.ownsRow base e size v n xs) (hb : But (· = R) w w') (hR : R < base) : w'.ownsRow base e size v n xs :=
  own_stay h (fun g q => hb.block g (h.lt g q).2 (by have := (h.lt g q).1; omega))
theorem three_at (l : List UInt8) (h : 3 ≤ l.length) : ∃ r g b t, l = r :: g :: b :: t :=
  match l, h with
  | r :: g :: b :: t, _ => ⟨r, g, b, t, rfl⟩

section
variable {R : Nat} {s : ByteArray} {tE : TypeId} {xE : Value}
set_option maxHeartbeats 4000000 in
set_option maxRecDepth 100000 in
theorem rcolors_any (w : World) (h : GR w R s) (hG : GT w tE xE) (hne : 0 ≠ R) :
    Calls Tryd.prog 53 #[.pointer (some ⟨R, 0, none⟩)] w fun e w' => ((∃ U a c s', colsR (bl s) = some (U, bl s') ∧ U.length ≤ 256 ∧ 1 ≤ U.length ∧ e = .returned (.slice a U.length c) ∧ w'.ownsRow w.heap.size 44 4 (.slice a U.length c) U.length (pxL U) ∧ GR w' R s') ∨ (colsR (bl s) = none ∧ e = .panicked (gthr tE xE))) ∧ But (· = R) w w' := by
  have HC := hide (gbyte_any w h hG)
  have HG := hide hG
  have hRl := h.lt
  obtain ⟨B, hB⟩ : ∃ B, B = w.heap.size := ⟨_, rfl⟩
  clear h hG
  go_enter Tryd.func53, Tryd.ntmps53
  go_wp2_with fail
  refine (unhide HC).mono ?_
  rintro e w1 ⟨hq, hb⟩
  have HB1 := hide hb
  have HH := hide hq
  have HBE := hide hB
  have hz1 : B ≤ w1.heap.size := by have := hb.size; omega
  have hRB : R < B := by omega
  have hG1 : w1.cell? ⟨0, 0, none⟩ = some (.iface tE xE) := (unhide HG).but hb hne
  clear hq hb HC hB
  rcases unhide HH with ⟨z, s1, h1, rfl, hr1⟩ | ⟨h1, rfl⟩
  rotate_left
  · have HE : Hid (colsR (bl s) = none) := by show _ = _; rw [h1]; rfl
    clear h1 HH hG1
    go_wp2
    exact ⟨rfl, .inr ⟨unhide HE, rfl⟩, unhide HB1⟩
  have hzl := z.toNat_lt
  obtain ⟨x, hx⟩ : ∃ x, x = z.toNat := ⟨_, rfl⟩
  rw [← hx] at hzl ⊢
  by_cases hlo : x < 128
  · have HE : Hid (colsR (bl s) = none) := by show _ = _; rw [h1]; show (if 128 ≤ z.toNat ∧ z.toNat ≤ 135 then _ else none) = none; rw [if_neg (by omega)]
    have d1 : decide ((x : Int) - 128 < 0) = true := decide_eq_true (by omega)
    clear h1 hr1 HH hx
    go_wp2_with fail
    refine (gthrow_any tE xE _).mono ?_; rintro e w3 ⟨rfl, rfl⟩
    go_wp2
    exact ⟨rfl, .inr ⟨unhide HE, rfl⟩, unhide HB1⟩
  obtain ⟨y, rfl⟩ : ∃ y, x = y + 128 := ⟨x - 128, by omega⟩
  have ey : ((y + 128 : Nat) : Int) - 128 = (y : Int) := by omega
  have d0 : decide ((y : Int) < 0) = false := decide_eq_false (by omega)
  by_cases hhi : 7 < y
  · have HE : Hid (colsR (bl s) = none) := by show _ = _; rw [h1]; show (if 128 ≤ z.toNat ∧ z.toNat ≤ 135 then _ else none) = none; rw [if_neg (by omega)]
    have d1 : decide ((y : Int) > 7) = true := decide_eq_true (by omega)
    have d1' : decide ((7 : Int) < (y : Int)) = true := d1
    have d1n : decide (7 < y) = true := decide_eq_true hhi
    have eyc : (y : Int) + 128 - 128 = (y : Int) := by omega
    clear h1 hr1 HH hx ey
    go_wp2_with fail
    refine (gthrow_any tE xE _).mono ?_; rintro e w3 ⟨rfl, rfl⟩
    go_wp2
    exact ⟨rfl, .inr ⟨unhide HE, rfl⟩, unhide HB1⟩
  have d1 : decide ((y : Int) > 7) = false := decide_eq_false (by omega)
  have d1' : decide ((7 : Int) < (y : Int)) = false := d1
  have d1n : decide (7 < y) = false := decide_eq_false hhi
  have eyc : (y : Int) + 128 - 128 = (y : Int) := by omega
  have HRo := hide (fun w => roomOf_any y w (by omega))
  have hr256 : 2 * 2 ^ y ≤ 256 ∧ 1 ≤ 2 * 2 ^ y := by
    have := Nat.pow_le_pow_right (n := 2) (by omega) (show y ≤ 7 by omega)
    have := Nat.two_pow_pos y
    omega
  have HE : Hid (colsR (bl s) = colN (2 * 2 ^ y) (bl s1)) := by
    show _ = _
    rw [h1]
    show (if 128 ≤ z.toNat ∧ z.toNat ≤ 135 then _ else _) = _
    rw [if_pos (by omega), show z.toNat - 128 = y by omega]
  obtain ⟨room, hroom⟩ : ∃ room, room = 2 * 2 ^ y := ⟨_, rfl⟩
  rw [← hroom] at HRo HE hr256
  have HR1 := hide hr1
  have HO0 : Hid (w1.ownsRow B 44 4 (.slice none 0 0) ([] : List Px).length (pxL [])) := World.ownsRow_nil _ _ _ _
  obtain ⟨G, hGG⟩ : ∃ G, G = colN room (bl s1) := ⟨_, rfl⟩
  have HGG : Hid (G = (colN (room - 0) (bl s1)).map fun x => (([] : List Px) ++ x.1, x.2)) := by
    show _ = _
    rw [hGG]
    simp
  rw [← hGG] at HE
  clear h1 hr1 HH hx ey hroom hGG hG1
  go_wp2_with fail
  refine (unhide HRo _).mono ?_
  rintro e w2 ⟨rfl, rfl⟩
  go_wp2
  go_loopw [4, 19] (fun lv iv wr => ∃ (i : Nat) (acc : List Px) (s' : ByteArray), i ≤ room ∧ acc.length = i ∧ iv = .int .i64 (i : Int) ∧ Hid (wr.ownsRow B 44 4 lv acc.length (pxL acc)) ∧ Hid (GR wr R s') ∧ Hid (G = (colN (room - i) (bl s')).map fun x => (acc ++ x.1, x.2)) ∧ Hid (But (· = R) w wr) ∧ B ≤ wr.heap.size) (fun _ iv _ => room - (intOf iv).toNat)
  case atStart => exact ⟨0, [], s1, by omega, rfl, rfl, HO0, HR1, HGG, HB1, hz1⟩
  case round =>
    clear HO0 HR1 HGG HB1 hz1
    obtain ⟨i, acc, s', hi, hal, rfl, HO, HRr, HGr, HB, hz⟩ := hrel
    obtain ⟨na, nc, rfl⟩ := own_shape4 (unhide HO)
    by_cases hlt : i < room
    · have g1 : decide ((i : Int) < (room : Int)) = true := decide_eq_true (by omega)
      have g1n : decide (i < room) = true := decide_eq_true hlt
      have hii : (i : Int) < (room : Int) := by omega
      have HC := hide (gtake_any 3 wr (unhide HRr) ((unhide HG).but (unhide HB) hne))
      have hacl : acc.length ≤ 300 := by omega
      rw [hal] at HO ⊢
      have HAL := hide hal
      clear hal
      go_wp2_with fail
      refine (unhide HC).mono ?_
      rintro e w3 ⟨hq, hb⟩
      have HH := hide hq
      have HB3 := hide ((unhide HB).trans hb)
      have HO3 := hide (own_but (unhide HO) hb hRB)
      have hz3 : B ≤ w3.heap.size := by have := hb.size; omega
      clear hq hb HC HB HO hz
      rcases unhide HH with ⟨hl, q, s2, hq, hs2, rfl, hr⟩ | ⟨hl, rfl⟩
      · obtain ⟨r, g, b, t, hrgb⟩ := three_at _ hl
        have HS : Hid (G = (colN (room - (i + 1)) (bl s2)).map fun x => ((acc ++ [⟨r, g, b, 255⟩]) ++ x.1, x.2)) := by
          show _ = _
          rw [unhide HGr, show room - i = (room - (i + 1)) + 1 by omega, hrgb, colN_step, hs2, hrgb]
          show Option.map _ (Option.map _ _) = Option.map _ (colN _ t)
          rw [Option.map_map]
          congr 1
          funext x
          simp
        have hqs : q.size = 3 := by have := bl_len q; rw [hq, List.length_take] at this; omega
        have hq3 : q.data.toList = [r, g, b] := by have := hq; rw [hrgb] at this; simpa [bl] using this
        have k0 : q[0] = r := by
          have : q.data.toList[0]'(by rw [hq3]; simp) = r := by simp [hq3]
          rw [← this]; simp; rfl
        have k1 : q[1] = g := by
          have : q.data.toList[1]'(by rw [hq3]; simp) = g := by simp [hq3]
          rw [← this]; simp; rfl
        have k2 : q[2] = b := by
          have : q.data.toList[2]'(by rw [hq3]; simp) = b := by simp [hq3]
          rw [← this]; simp; rfl
        have HR2 := hide hr
        have i0 : (0 : Int) < (q.size : Int) := by omega
        have i1 : (1 : Int) < (q.size : Int) := by omega
        have i2 : (2 : Int) < (q.size : Int) := by omega
        have m0 : (0 : Nat) < q.size := by omega
        have m1 : (1 : Nat) < q.size := by omega
        have m2 : (2 : Nat) < q.size := by omega
        clear hq hs2 hr HH hl hrgb HGr HRr hq3
        have HOa := hide ((unhide HO3).drew.alloc (.cells #[.int .u8 (r.toNat : Int), .int .u8 (g.toNat : Int), .int .u8 (b.toNat : Int), .int .u8 255] 44))
        have HPx : Hid (PxAt (w3.drew.alloc (.cells #[.int .u8 (r.toNat : Int), .int .u8 (g.toNat : Int), .int .u8 (b.toNat : Int), .int .u8 255] 44)) w3.heap.size 0 ⟨r, g, b, 255⟩) := four_new w3.drew ⟨r, g, b, 255⟩ 44
        have HZA : Hid ((w3.drew.alloc (.cells #[.int .u8 (r.toNat : Int), .int .u8 (g.toNat : Int), .int .u8 (b.toNat : Int), .int .u8 255] 44)).heap.size = w3.heap.size + 1) := by show (w3.drew.alloc _).heap.size = w3.drew.heap.size + 1; simp
        have HBa := hide ((unhide HB3).drew.alloc (.cells #[.int .u8 (r.toNat : Int), .int .u8 (g.toNat : Int), .int .u8 (b.toNat : Int), .int .u8 255] 44))
        have HRa : Hid (GR (w3.drew.alloc (.cells #[.int .u8 (r.toNat : Int), .int .u8 (g.toNat : Int), .int .u8 (b.toNat : Int), .int .u8 255] 44)) R s2) := blk_alloc (w := w3.drew) (unhide HR2) _
        go_wp2_with fail
        go_region_law (first | (refine step_appPx1 rfl (.tmp 23) (.tmp 31) rfl B w3.heap.size (.slice na i nc) acc ⟨r, g, b, 255⟩ (by simp [Act.eval]) (by simp [Act.eval]) (by rw [unhide HAL]; exact unhide HOa) (unhide HPx) (by omega) (by first | (have := unhide HZA; omega) | (show B ≤ (w3.alloc _).heap.size; simp; omega)) ?_; intro v6 w6 ho6 hg6 hat6))
        all_goals
          have hg6 : (w3.drew.alloc (.cells #[.int .u8 (r.toNat : Int), .int .u8 (g.toNat : Int), .int .u8 (b.toNat : Int), .int .u8 255] 44)).grownBy w6 (Value.slice na i nc).ownBlock := hg6
          have hz6 := hg6.size
          have hza := unhide HZA
          have hno : ∀ k, (Value.slice na i nc).ownBlock = some k → B ≤ k := fun k e => ((unhide HO3).lt k e).1
          have HB6 : Hid (But (· = R) w w6) := (unhide HBa).grown hg6 (fun k e hk => by have := hno k e; have := unhide HBE; omega)
          have HR6 : Hid (GR w6 R s2) := (hg6.block R (by have := (unhide HRa).lt; omega) (fun e => by have := hno R e.symm; omega)).trans (unhide HRa)
          have HO6 := hide ho6
          have hz7 : B ≤ w6.heap.size := by omega
          have hal6 : (acc ++ [(⟨r, g, b, 255⟩ : Px)]).length = i + 1 := by have := unhide HAL; rw [List.length_append]; simp; omega
          clear ho6 hg6 hat6 hno hz6 hza HOa HPx HZA HBa HRa HO3 HB3 HR2
          go_wp2
          go_roundw
          case rel => exact ⟨i + 1, _, s2, by omega, hal6, by go_num, HO6, HR6, HS, HB6, hz7⟩
          case measure => simp [intOf]; omega
      · have HN : Hid (G = none) := by
          show _ = _
          rw [unhide HGr, show room - i = (room - (i + 1)) + 1 by omega, colN_short _ _ hl]
          rfl
        clear hl HH HGr HRr HO3
        go_wp2
        exact ⟨rfl, .inr ⟨by rw [unhide HE, unhide HN], rfl⟩, unhide HB3⟩
    · obtain rfl : i = room := by omega
      have g1 : decide ((i : Int) < (i : Int)) = false := by simp
      have HS : Hid (colsR (bl s) = some (acc, bl s')) := by
        show _ = _
        rw [unhide HE, unhide HGr, Nat.sub_self]
        simp [colN]
      have HAL := hide hal
      clear HE HGr HG
      go_wp2
      go_ret
      refine ⟨.inl ⟨acc, na, nc, s', unhide HS, by omega, by omega, rfl, ?_, unhide HRr⟩, unhide HB⟩
      rw [← unhide HBE]
      exact unhide HO
end
end Go.Proofs.YtjcoahahponabaaDoor
namespace Go.Proofs.YtjcoahahponabaaDoor
open Go.RowKit

theorem got_in (x b k : Nat) (hk : k < 32) (hb : b < 2) (hx : x < 2 ^ k) : bits .or .u32 (x : Int) ((b : Int) * 2 ^ k % 4294967296) = ((x + 2 ^ k * b : Nat) : Int) := by
  have hp : 2 ^ k ≤ 2147483648 := Nat.pow_le_pow_right (n := 2) (j := 31) (by omega) (by omega)
  have hor := Bt.or_above x b k hx
  rw [show ((2 : Int) ^ k) = ((2 ^ k : Nat) : Int) from by simp]
  generalize 2 ^ k = P at *
  have hpb : P * b ≤ 2147483648 := by
    have := Nat.mul_le_mul hp (show b ≤ 1 by omega)
    omega
  have hc : (b : Int) * (P : Int) % 4294967296 = ((P * b : Nat) : Int) := by
    rw [← Int.natCast_mul, Nat.mul_comm b P]
    omega
  rw [hc, ← hor]
  exact u32_or_nat x (P * b) (by omega) (by omega)

theorem got_lt (V a k : Nat) (h : k ≤ 32) : V / 2 ^ a % 2 ^ k < 4294967296 :=
  Nat.lt_of_lt_of_le (Nat.mod_lt _ (Nat.two_pow_pos k)) (Nat.pow_le_pow_right (n := 2) (j := 32) (by omega) h)

set_option maxHeartbeats 400000 in
theorem get_yes (p k d : Nat) (s : ByteArray) (w : World) (h : RAt w p s k) (hd : d ≤ 32) (hfit : k + d ≤ 8 * s.size) :
    Calls Tryd.prog 80 #[.pointer (some ⟨p, 0, none⟩), .int .i64 (d : Int)] w fun e w' => e = .returned (.tuple #[.int .u32 (tv s / 2 ^ k % 2 ^ d : Nat), .nilIface]) ∧ RAt w' p s (k + d) ∧ Below p w w' := by
  have hpl := h.lt
  have Hr := hide h
  have hsm := h.small
  obtain ⟨lf, hlf⟩ : ∃ lf, lf + k = 8 * s.size := ⟨8 * s.size - k, by have := h.within; omega⟩
  have Hlf := hide hlf
  have hdl : decide (lf < d) = false := by simp; omega
  clear h hlf
  go_enter Tryd.func80, Tryd.ntmps80
  go_wp2_with fail
  refine (readable_yes d _ hd).mono ?_; rintro e w1 ⟨rfl, rfl⟩
  go_wp2_with fail
  refine (left_any p k lf s _ (unhide Hr) (unhide Hlf)).mono ?_; rintro e w2 ⟨rfl, hb2⟩
  have Hr2 := hide ((unhide Hr).below hb2)
  replace hb2 := hb2.mono (Nat.le_of_lt hpl)
  go_wp2
  go_loopw [6, 18] (fun m i wr => ∃ j : Nat, j ≤ d ∧ i = .int .i64 j ∧ m = .int .u32 (tv s / 2 ^ k % 2 ^ j : Nat) ∧ RAt wr p s (k + j) ∧ Below p w1 wr) (fun _ i _ => d - (intOf i).toNat)
  case atStart => exact ⟨0, by omega, rfl, by simp [Nat.mod_one], unhide Hr2, hb2⟩
  case round =>
    obtain ⟨j, hj, rfl, rfl, hR, hb⟩ := hrel
    by_cases hlt : j < d
    · have hdk : decide ((j : Int) < (d : Int)) = true := by simp; omega
      have hxl : tv s / 2 ^ k % 2 ^ j < 2 ^ j := Nat.mod_lt _ (Nat.two_pow_pos j)
      have hin := got_in (tv s / 2 ^ k % 2 ^ j) (Bt.bit (tv s) (k + j)) j (by omega) (Bt.bit_lt _ _) hxl
      rw [← Bt.got_succ] at hin
      have hgl := got_lt (tv s) k (j + 1) (by omega)
      have hgl0 := got_lt (tv s) k j (by omega)
      have hbl := Bt.bit_lt (tv s) (k + j)
      have HR := hide hR
      have hjb : j < 32 := by omega
      clear hR hxl
      generalize hB : tv s / 2 ^ k % 2 ^ (j + 1) = y at *
      generalize hA : tv s / 2 ^ k % 2 ^ j = x at *
      have HB := hide hB
      clear hB hA
      go_wp2_with fail
      refine (rone_any p (k + j) s _ (unhide HR) (by omega)).mono ?_; rintro e w3 ⟨rfl, hR3, hb3⟩
      have HR3 := hide hR3
      clear hR3
      generalize Bt.bit (tv s) (k + j) = b at *
      go_wp2
      go_roundw
      case rel => exact ⟨j + 1, by omega, by go_num, by rw [unhide HB], unhide HR3, hb.trans hb3⟩
      case measure => simp [intOf]; omega
    · have : j = d := by omega
      subst this
      have hdk : decide ((j : Int) < (j : Int)) = false := by simp
      have HR := hide hR
      clear hR
      go_wp2
      go_ret2
      exact ⟨rfl, unhide HR, hb⟩

theorem get_bound (p k : Nat) (d : Int) (s : ByteArray) (v : Value) (w : World) (h : RAt w p s k) (hd : d < 0 ∨ 32 < d) (hc : w.cell? ⟨1, 0, none⟩ = some v) :
    Calls Tryd.prog 80 #[.pointer (some ⟨p, 0, none⟩), .int .i64 d] w fun e w' => e = .returned (.tuple #[.int .u32 0, v]) ∧ RAt w' p s k ∧ Below w.heap.size w w' := by
  have Hr := hide h
  clear h
  go_enter Tryd.func80, Tryd.ntmps80
  go_wp2_with fail
  refine (readable_no d _ hd).mono ?_; rintro e w1 ⟨rfl, rfl⟩
  go_wp2
  go_region
  go_wp2
  go_ret2
  exact ⟨rfl, (unhide Hr).drew, (Below.refl _ _).drew⟩

theorem get_text (p k d : Nat) (s : ByteArray) (v : Value) (w : World) (h : RAt w p s k) (hd : d ≤ 32) (hno : 8 * s.size < k + d) (hc : w.cell? ⟨0, 0, none⟩ = some v) :
    Calls Tryd.prog 80 #[.pointer (some ⟨p, 0, none⟩), .int .i64 (d : Int)] w fun e w' => e = .returned (.tuple #[.int .u32 0, v]) ∧ RAt w' p s k ∧ Below w.heap.size w w' := by
  have Hr := hide h
  have hw := h.within
  have hgl : 0 < w.heap.size := World.block_lt_of_cell? _ _ hc
  obtain ⟨lf, hlf⟩ : ∃ lf, lf + k = 8 * s.size := ⟨8 * s.size - k, by have := h.within; omega⟩
  have Hlf := hide hlf
  have hdl : decide (lf < d) = true := by simp; omega
  clear h hlf
  go_enter Tryd.func80, Tryd.ntmps80
  go_wp2_with fail
  refine (readable_yes d _ hd).mono ?_; rintro e w1 ⟨rfl, rfl⟩
  go_wp2_with fail
  refine (left_any p k lf s _ (unhide Hr) (unhide Hlf)).mono ?_; rintro e w2 ⟨rfl, hb2⟩
  have Hr2 := hide ((unhide Hr).below hb2)
  have hc2 := (hb2.cell (p := ⟨0, 0, none⟩) hgl).trans hc

  go_wp2
  go_region
  go_wp2
  go_ret2
  exact ⟨rfl, (unhide Hr2).drew, hb2.drew⟩
end Go.Proofs.YtjcoahahponabaaDoor
namespace Go.Proofs.YtjcoahahponabaaDoor
open Go.RowKit

theorem RAt.but {w w' : World} {p k : Nat} {s : ByteArray} {S : Nat → Prop} (h : RAt w p s k) (hb : But S w w') (hs : ¬ S p) : RAt w' p s k :=
  ⟨(hb.cell h.lt hs).trans h.text, (hb.cell h.lt hs).trans h.count, (hb.frozen h.lt hs).trans h.free1, h.within, h.small⟩

theorem rone_but (p k : Nat) (s : ByteArray) (w : World) (h : RAt w p s k) (hk : k < 8 * s.size) :
    Calls Tryd.prog 87 #[.pointer (some ⟨p, 0, none⟩)] w fun e w' => e = .returned (.int .u32 (Bt.bit (tv s) k : Nat)) ∧ RAt w' p s (k + 1) ∧ But (· = p) w w' := by
  have h0 := h.text
  have h1 := h.count
  have h2 := h.within
  have h3 := h.small
  have h4 := h.free1
  have hm := hide (h.moved (k + 1) (by omega))
  clear h
  obtain ⟨q, hq⟩ : ∃ q, q = k / 8 := ⟨_, rfl⟩
  have hq1 : (k : Int) / 8 = (q : Int) := by omega
  obtain ⟨r, hr⟩ : ∃ r, r = k % 8 := ⟨_, rfl⟩
  have hr1 : (k : Int) % 8 = (r : Int) := by omega
  have hqs : q < s.size := by omega
  have hqi : (q : Int) < (s.size : Int) := by omega
  have hrl : r < 8 := by omega
  have Hbit := hide (one_bit s q r hqs hrl)
  rw [show 8 * q + r = k from by omega] at Hbit
  have hx := s[q].toNat_lt
  have hsh : (s[q].toNat : Int) / 2 ^ r = ((s[q].toNat / 2 ^ r : Nat) : Int) := by simp
  have hyl : s[q].toNat / 2 ^ r < 256 := Nat.lt_of_le_of_lt (Nat.div_le_self _ _) hx
  generalize s[q].toNat / 2 ^ r = y at *
  have hand : bits .and .u8 (y : Int) 1 = ((y % 2 : Nat) : Int) := by
    have := u8_and_nat y 1 hyl (by omega)
    rw [nat_mask1] at this
    exact this
  obtain ⟨z, hz⟩ : ∃ z, z = y % 2 := ⟨_, rfl⟩
  rw [← hz] at hand Hbit
  have hzl : z < 2 := by omega
  clear hq hr hz
  go_enter Tryd.func87, Tryd.ntmps87
  go_wp2
  go_region
  go_wp2
  go_ret
  rw [← unhide Hbit]
  exact ⟨rfl, (unhide hm).1.drew, ((But.refl (· = p) w).setCell (p := ⟨p, 1, none⟩) rfl _).drew⟩

set_option maxHeartbeats 400000 in
theorem get_but (p k d : Nat) (s : ByteArray) (w : World) (h : RAt w p s k) (hd : d ≤ 32) (hfit : k + d ≤ 8 * s.size) :
    Calls Tryd.prog 80 #[.pointer (some ⟨p, 0, none⟩), .int .i64 (d : Int)] w fun e w' => e = .returned (.tuple #[.int .u32 (tv s / 2 ^ k % 2 ^ d : Nat), .nilIface]) ∧ RAt w' p s (k + d) ∧ But (· = p) w w' := by
  have Hr := hide h
  have hsm := h.small
  obtain ⟨lf, hlf⟩ : ∃ lf, lf + k = 8 * s.size := ⟨8 * s.size - k, by have := h.within; omega⟩
  have Hlf := hide hlf
  have hdl : decide (lf < d) = false := by simp; omega
  clear h hlf
  go_enter Tryd.func80, Tryd.ntmps80
  go_wp2_with fail
  refine (readable_yes d _ hd).mono ?_; rintro e w1 ⟨rfl, rfl⟩
  go_wp2_with fail
  refine (left_any p k lf s _ (unhide Hr) (unhide Hlf)).mono ?_; rintro e w2 ⟨rfl, hb2⟩
  have Hr2 := hide ((unhide Hr).below hb2)
  replace hb2 := (But.refl (· = p) w1).of_below hb2 (fun k h1 h2 => by omega)
  go_wp2
  go_loopw [6, 18] (fun m i wr => ∃ j : Nat, j ≤ d ∧ i = .int .i64 j ∧ m = .int .u32 (tv s / 2 ^ k % 2 ^ j : Nat) ∧ RAt wr p s (k + j) ∧ But (· = p) w1 wr) (fun _ i _ => d - (intOf i).toNat)
  case atStart => exact ⟨0, by omega, rfl, by simp [Nat.mod_one], unhide Hr2, hb2⟩
  case round =>
    obtain ⟨j, hj, rfl, rfl, hR, hb⟩ := hrel
    by_cases hlt : j < d
    · have hdk : decide ((j : Int) < (d : Int)) = true := by simp; omega
      have hxl : tv s / 2 ^ k % 2 ^ j < 2 ^ j := Nat.mod_lt _ (Nat.two_pow_pos j)
      have hin := got_in (tv s / 2 ^ k % 2 ^ j) (Bt.bit (tv s) (k + j)) j (by omega) (Bt.bit_lt _ _) hxl
      rw [← Bt.got_succ] at hin
      have hgl := got_lt (tv s) k (j + 1) (by omega)
      have hgl0 := got_lt (tv s) k j (by omega)
      have hbl := Bt.bit_lt (tv s) (k + j)
      have HR := hide hR
      have hjb : j < 32 := by omega
      clear hR hxl
      generalize hB : tv s / 2 ^ k % 2 ^ (j + 1) = y at *
      generalize hA : tv s / 2 ^ k % 2 ^ j = x at *
      have HB := hide hB
      clear hB hA
      go_wp2_with fail
      refine (rone_but p (k + j) s _ (unhide HR) (by omega)).mono ?_; rintro e w3 ⟨rfl, hR3, hb3⟩
      have HR3 := hide hR3
      clear hR3
      generalize Bt.bit (tv s) (k + j) = b at *
      go_wp2
      go_roundw
      case rel => exact ⟨j + 1, by omega, by go_num, by rw [unhide HB], unhide HR3, hb.trans hb3⟩
      case measure => simp [intOf]; omega
    · have : j = d := by omega
      subst this
      have hdk : decide ((j : Int) < (j : Int)) = false := by simp
      have HR := hide hR
      clear hR
      go_wp2
      go_ret2
      exact ⟨rfl, unhide HR, hb⟩

end Go.Proofs.YtjcoahahponabaaDoor
