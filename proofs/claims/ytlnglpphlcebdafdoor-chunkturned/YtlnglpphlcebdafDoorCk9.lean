/- Walk: chunk.Read, whole. -/
import Derived.Test.YtlnglpphlcebdafDoorCk8
import Derived.Deep.DeepCutAuto
namespace Go.Proofs.YtlnglpphlcebdafDoor
open Go.RowKit

theorem own_less {w : World} {base b' n size : Nat} {e : TypeId} {v : Value} {xs : List Value} (h : w.ownsRow base e size v n xs) (hb : b' ≤ base) : w.ownsRow b' e size v n xs := by
  rcases h.2 with ⟨rfl, h0⟩ | ⟨g, c, cur, rfl, hg, r⟩
  · exact ⟨h.1, .inl ⟨rfl, h0⟩⟩
  · exact ⟨h.1, .inr ⟨g, c, cur, rfl, by omega, r⟩⟩

theorem own_set {w : World} {base n size : Nat} {e : TypeId} {v : Value} {xs : List Value} (h : w.ownsRow base e size v n xs) {p : Addr} {y : Value} (hp : p.block < base) : (w.setCell p y).ownsRow base e size v n xs := by
  rcases h.2 with ⟨rfl, h0⟩ | ⟨g, c, cur, rfl, hg, hh, r⟩
  · exact ⟨h.1, .inl ⟨rfl, h0⟩⟩
  · exact ⟨h.1, .inr ⟨g, c, cur, rfl, hg, by rw [Below.heap_setCell _ _ _ _ (fun q => by omega)]; exact hh, r⟩⟩

/-- What Read answers of a text. -/
def RdOf (s : ByteArray) (w' : World) (B : Nat) (eT eS : Value) (e : Ending) : Prop :=
  (s.data.toList.take 8 ≠ Ck.sig ∧ RdAns w' B eT eS (.bad 0 0) e) ∨ (s.data.toList.take 8 = Ck.sig ∧ ∃ r, Ck.Rd s.data.toList 8 [] r ∧ RdAns w' B eT eS r e)

theorem sig_iff (s : ByteArray) : ((⟨#[137, 80, 78, 71, 13, 10, 26, 10]⟩ : ByteArray).size ≤ s.size ∧ s.extract 0 (⟨#[137, 80, 78, 71, 13, 10, 26, 10]⟩ : ByteArray).size = ⟨#[137, 80, 78, 71, 13, 10, 26, 10]⟩) ↔ s.data.toList.take 8 = Ck.sig := by
  have hz : s.data.toList.length = s.size := Array.length_toList
  have e8 : (⟨#[137, 80, 78, 71, 13, 10, 26, 10]⟩ : ByteArray).size = 8 := rfl
  have e1 : (s.extract 0 8).data.toList = s.data.toList.take 8 := by
    have := ex_list s 0 8
    rwa [Nat.zero_add, List.drop_zero] at this
  rw [e8]
  constructor
  · rintro ⟨_, h⟩
    rw [← e1, h]
    rfl
  · intro h
    refine ⟨?_, ?_⟩
    · have := congrArg List.length h
      rw [List.length_take, hz] at this
      have e2 : Ck.sig.length = 8 := rfl
      omega
    · apply text_ext
      rw [e1, h]
      rfl

set_option maxHeartbeats 4000000 in
set_option maxRecDepth 100000 in
theorem read_any (s : ByteArray) (tT tS : TypeId) (vT vS : Value) (w : World) (hT : w.cell? ⟨0, 0, none⟩ = some (.iface tT vT)) (hS : w.cell? ⟨3, 0, none⟩ = some (.iface tS vS)) (hs : s.size ≤ 300000) :
    Calls Tryd.prog 23 #[.string s] w fun e w' => RdOf s w' w.heap.size (.iface tT vT) (.iface tS vS) e ∧ Below w.heap.size w w' := by
  have hmf : ∀ (fn : Fn) (first cap : Array Value) (w : World), (Instr.makeFunc fn first cap).run Tryd.prog w = .ok (.func fn first cap) w := fun _ _ _ _ => rfl
  have hz : s.data.toList.length = s.size := Array.length_toList
  have d0 : decide ((s.size : Int) > 300000) = false := decide_eq_false (by omega)
  have d0' : decide ((300000 : Int) < (s.size : Int)) = false := d0
  have d0n : decide (300000 < s.size) = false := decide_eq_false (by omega)
  obtain ⟨ga, hga⟩ : ∃ q, q = w.heap.size := ⟨_, rfl⟩
  have hlT : 0 < ga := by rw [hga]; exact World.block_lt_of_cell? _ _ hT
  have hlS : 3 < ga := by rw [hga]; exact World.block_lt_of_cell? _ _ hS
  have HX := hide (hasPrefix_any s ⟨#[137, 80, 78, 71, 13, 10, 26, 10]⟩)
  have hb0 := (Below.refl w.heap.size w).alloc (Nat.le_refl _) (.cells #[.int .i64 0] 3)
  have hb8 := (Below.refl w.heap.size w).alloc (Nat.le_refl _) (.cells #[.int .i64 8] 3)
  rw [← hga] at hb0 hb8
  have HB0 := hide hb0
  have HB8 := hide hb8
  have hT0 := (hb0.cell (p := ⟨0, 0, none⟩) hlT).trans hT
  have f0 : (w.alloc (.cells #[.int .i64 0] 3)).cell? ⟨ga, 0, none⟩ = some (.int .i64 ((0 : Nat) : Int)) := by rw [hga]; simp [go_sem]
  have f8 : (w.alloc (.cells #[.int .i64 8] 3)).cell? ⟨ga, 0, none⟩ = some (.int .i64 ((8 : Nat) : Int)) := by rw [hga]; simp [go_sem]
  have f9 : (w.alloc (.cells #[.int .i64 8] 3)).frozen? ⟨ga, 0, none⟩ = false := by rw [hga]; simp [go_sem]
  have l8 : ga < (w.alloc (.cells #[.int .i64 8] 3)).heap.size := by rw [hga]; simp
  have F0 := hide f0
  have F8 := hide f8
  have F9 := hide f9
  have HT0 := hide hT0
  have HT := hide hT
  have HSu := hide hS
  have Hga := hide hga
  clear hb0 hb8 hT0 f0 f8 f9 hT hS
  rw [← hga]
  go_enter Tryd.func23, Tryd.ntmps23
  go_wp2_with fail
  refine (unhide HX _).mono ?_; rintro e w1 ⟨b, rfl, hb, rfl⟩
  have HBB := hide (hb.trans (sig_iff s))
  clear HX hb
  cases b
  · have hno : s.data.toList.take 8 ≠ Ck.sig := fun q => by cases (unhide HBB).2 q
    have HX := hide (readFault_any ga 0 tT vT _ (unhide F0))
    have hT1 := unhide HT0
    have HNO := hide hno
    rw [← hga]
    clear hno hga
    generalize w.alloc (.cells #[.int .i64 0] 3) = wx at *
    go_wp2_with fail
    refine (unhide HX).mono ?_; rintro e w2 ⟨q, rfl, q0, q1, q2, hb2⟩
    have hsz := (unhide HB0).size
    have HB2 := hide ((unhide HB0).trans (hb2.mono (by have := unhide Hga; omega)))
    have HQ : Hid (RdOf s w2 ga (.iface tT vT) (.iface tS vS) (.returned (.tuple #[.slice none 0 0, .iface 61 (.pointer (some ⟨q, 0, none⟩))]))) := .inl ⟨unhide HNO, q, rfl, q0, q1, by have := unhide Hga; omega⟩
    clear HX q0 q1 q2 hb2 HB0
    go_wp2
    go_ret2
    exact ⟨unhide HQ, unhide HB2⟩
  · have hyes : s.data.toList.take 8 = Ck.sig := (unhide HBB).1 rfl
    have h8s : 8 ≤ s.size := by
      have := congrArg List.length hyes
      rw [List.length_take, hz] at this
      have e2 : Ck.sig.length = 8 := rfl
      omega
    have HY := hide hyes
    clear hyes HBB F0 HT0 HB0
    go_wp2
    rw [← hga]
    clear hga
    generalize w.alloc (.cells #[.int .i64 8] 3) = w8 at *
    go_loopw [6] (fun lv wr => ∃ (a n cL : Nat) (cs : List (List UInt8 × List UInt8)) (aL : Option Addr), lv = .slice aL n cL ∧ Hid (n = cs.length) ∧ a ≤ s.size ∧ n ≤ a ∧ Hid (wr.cell? ⟨ga, 0, none⟩ = some (.int .i64 (a : Int))) ∧ Hid (wr.frozen? ⟨ga, 0, none⟩ = false) ∧ Hid (∀ r, Ck.Rd s.data.toList a cs r → Ck.Rd s.data.toList 8 [] r) ∧ Hid (wr.ownsRow (ga + 1) 70 2 (.slice aL n cL) cs.length (chV cs)) ∧ Hid (Below ga w wr) ∧ ga + 1 ≤ wr.heap.size) (fun _ wr => s.size - atOf wr ga)
    case atStart => exact ⟨8, 0, 0, [], none, rfl, rfl, h8s, by omega, F8, F9, fun _ h => h, World.ownsRow_nil _ _ _ _, HB8, by omega⟩
    case round =>
      clear F8 F9 HB8 l8
      obtain ⟨a, n, cL, cs, aL, rfl, Hn, ha, hna, HA, HAf, HR, HO, HB, hgl⟩ := hrel
      have ca := unhide HA
      have HA0 := HA
      by_cases hlt : a < s.size
      · have d1 : decide ((a : Int) < (s.size : Int)) = true := decide_eq_true (by omega)
        have d1n : decide (a < s.size) = true := decide_eq_true hlt
        have hai : (a : Int) ≤ (s.size : Int) := by omega
        obtain ⟨t, ht⟩ : ∃ t, t = s.extract a s.size := ⟨_, rfl⟩
        have et : s.extract a s.size = t := ht.symm
        have htl : t.data.toList = s.data.toList.drop a := by rw [ht]; exact ex_back _ _
        have htz : t.size ≤ 300000 := by rw [ht]; simp; omega
        have HTL := hide htl
        have hT2 := ((unhide HB).cell (p := ⟨0, 0, none⟩) hlT).trans (unhide HT)
        have hS2 := ((unhide HB).cell (p := ⟨3, 0, none⟩) hlS).trans (unhide HSu)
        have HX := hide (next_any t tT tS vT vS wr hT2 hS2 htz)
        clear ht htl hT2 hS2
        go_wp2_with fail
        refine (unhide HX).mono ?_; rintro e w2 ⟨hnx, hb2⟩
        have HA2 := hide ((hb2.cell (p := ⟨ga, 0, none⟩) (show ga < _ by omega)).trans (unhide HA))
        have HAf2 := hide ((World.frozen?_of_block (a := ⟨ga, 0, none⟩) (hb2.block ga (by omega))).trans (unhide HAf))
        have HO2 := hide (own_keep (unhide HO) hb2)
        have HB2 := hide ((unhide HB).trans (hb2.mono (by omega)))
        have hgl2 : ga + 1 ≤ w2.heap.size := Nat.le_trans hgl hb2.size
        clear HX hb2 HA HAf HO HB ca
        have ca := unhide HA2
        rcases hnx with ⟨hx, rfl⟩ | ⟨hx, rfl⟩ | ⟨m, hx, rfl⟩
        · rw [unhide HTL] at hx
          have HRR := hide (unhide HR _ (.text (by rw [hz]; exact hlt) hx))
          clear hx HR
          have HX0 : Hid (∀ wz, wz.cell? ⟨ga, 0, none⟩ = some (.int .i64 (a : Int)) → Calls Tryd.prog 45 #[.iface tT vT, .pointer (some ⟨ga, 0, none⟩)] wz fun e w' => ∃ q, e = .returned (.tuple #[.slice none 0 0, .iface 61 (.pointer (some ⟨q, 0, none⟩))]) ∧ w'.cell? ⟨q, 0, none⟩ = some (.int .i64 (a : Int)) ∧ w'.cell? ⟨q, 1, none⟩ = some (.iface tT vT) ∧ wz.heap.size ≤ q ∧ Below wz.heap.size wz w') := fun wz h => readFault_any ga a tT vT wz h
          have hbz : Below w2.heap.size w2 (w2.alloc (.cells #[.string ⟨#[]⟩, .string ⟨#[]⟩] 70)) := (Below.refl _ _).alloc (Nat.le_refl _) _
          have HX := hide (unhide HX0 _ ((hbz.cell (p := ⟨ga, 0, none⟩) (show ga < _ by omega)).trans ca))
          have HB3 := hide ((unhide HB2).trans (hbz.mono (by omega)))
          have hgl3 : ga + 1 ≤ (w2.alloc (.cells #[.string ⟨#[]⟩, .string ⟨#[]⟩] 70)).heap.size := Nat.le_trans hgl2 hbz.size
          clear HX0 hbz HO2 HA2 HAf2 HB2 ca
          go_wp2_with fail
          refine (unhide HX).mono ?_; rintro e w3 ⟨q, rfl, q0, q1, q2, hb3⟩
          have HB4 := hide ((unhide HB3).trans (hb3.mono (by omega)))
          have HQ : Hid (RdOf s w3 ga (.iface tT vT) (.iface tS vS) (.returned (.tuple #[.slice none 0 0, .iface 61 (.pointer (some ⟨q, 0, none⟩))]))) := .inr ⟨unhide HY, _, unhide HRR, q, rfl, q0, q1, by omega⟩
          clear HX q0 q1 q2 hb3 HB3 HRR
          go_wp2
          go_ret2
          exact ⟨unhide HQ, unhide HB4⟩
        · rw [unhide HTL] at hx
          have HRR := hide (unhide HR _ (.sum (by rw [hz]; exact hlt) hx))
          clear hx HR
          have HX0 : Hid (∀ wz, wz.cell? ⟨ga, 0, none⟩ = some (.int .i64 (a : Int)) → Calls Tryd.prog 45 #[.iface tS vS, .pointer (some ⟨ga, 0, none⟩)] wz fun e w' => ∃ q, e = .returned (.tuple #[.slice none 0 0, .iface 61 (.pointer (some ⟨q, 0, none⟩))]) ∧ w'.cell? ⟨q, 0, none⟩ = some (.int .i64 (a : Int)) ∧ w'.cell? ⟨q, 1, none⟩ = some (.iface tS vS) ∧ wz.heap.size ≤ q ∧ Below wz.heap.size wz w') := fun wz h => readFault_any ga a tS vS wz h
          have hbz : Below w2.heap.size w2 (w2.alloc (.cells #[.string ⟨#[]⟩, .string ⟨#[]⟩] 70)) := (Below.refl _ _).alloc (Nat.le_refl _) _
          have HX := hide (unhide HX0 _ ((hbz.cell (p := ⟨ga, 0, none⟩) (show ga < _ by omega)).trans ca))
          have HB3 := hide ((unhide HB2).trans (hbz.mono (by omega)))
          have hgl3 : ga + 1 ≤ (w2.alloc (.cells #[.string ⟨#[]⟩, .string ⟨#[]⟩] 70)).heap.size := Nat.le_trans hgl2 hbz.size
          clear HX0 hbz HO2 HA2 HAf2 HB2 ca
          go_wp2_with fail
          refine (unhide HX).mono ?_; rintro e w3 ⟨q, rfl, q0, q1, q2, hb3⟩
          have HB4 := hide ((unhide HB3).trans (hb3.mono (by omega)))
          have HQ : Hid (RdOf s w3 ga (.iface tT vT) (.iface tS vS) (.returned (.tuple #[.slice none 0 0, .iface 61 (.pointer (some ⟨q, 0, none⟩))]))) := .inr ⟨unhide HY, _, unhide HRR, q, rfl, q0, q1, by omega⟩
          clear HX q0 q1 q2 hb3 HB3 HRR
          go_wp2
          go_ret2
          exact ⟨unhide HQ, unhide HB4⟩
        · have hxt := hx
          rw [unhide HTL] at hx
          obtain ⟨m1, m2, m3, m4⟩ := Ck.nx_ok hx
          rw [List.length_drop, hz] at m1
          obtain ⟨kb, hkb⟩ : ∃ k, k = t.extract 4 8 := ⟨_, rfl⟩
          obtain ⟨db, hdb⟩ : ∃ d, d = t.extract 8 (8 + m) := ⟨_, rfl⟩
          rw [← hkb, ← hdb]
          have ek : kb = ⟨(Ck.kd (s.data.toList.drop a)).toArray⟩ := by
            apply text_ext
            rw [hkb, ← unhide HTL, kd_ex t]
          have ed : db = ⟨(Ck.dt (s.data.toList.drop a) m).toArray⟩ := by
            apply text_ext
            rw [hdb, ← unhide HTL, dt_ex t m]
          have hdz : db.size = m := by
            have : db.data.toList.length = db.size := Array.length_toList
            rw [← this, ed]
            exact m3
          have HRR : Hid (∀ r, Ck.Rd s.data.toList (a + 12 + m) (cs ++ [(Ck.kd (s.data.toList.drop a), Ck.dt (s.data.toList.drop a) m)]) r → Ck.Rd s.data.toList 8 [] r) := fun r h => unhide HR r (.next (by rw [hz]; exact hlt) hx h)
          generalize hk1 : Ck.kd (s.data.toList.drop a) = kl at *
          generalize hd1 : Ck.dt (s.data.toList.drop a) m = dl at *
          have hbz : Below w2.heap.size w2 (w2.alloc (.cells #[.string kb, .string db] 70)) := (Below.refl _ _).alloc (Nat.le_refl _) _
          have hby : Below w2.heap.size w2 ((w2.alloc (.cells #[.string kb, .string db] 70)).alloc (.cells #[.string kb, .string db] 70)) := hbz.alloc (by simp) _
          have HO3 := hide (own_keep (unhide HO2) hby)
          have HIN := hide (own_in (unhide HO2))
          have k0 : ((w2.alloc (.cells #[.string kb, .string db] 70)).alloc (.cells #[.string kb, .string db] 70)).cell? ⟨w2.heap.size + 1, 0, none⟩ = some (.string ⟨kl.toArray⟩) := by rw [← ek]; simp [go_sem]
          have k1 : ((w2.alloc (.cells #[.string kb, .string db] 70)).alloc (.cells #[.string kb, .string db] 70)).cell? ⟨w2.heap.size + 1, 1, none⟩ = some (.string ⟨dl.toArray⟩) := by rw [← ed]; simp [go_sem]
          have k2 : ((w2.alloc (.cells #[.string kb, .string db] 70)).alloc (.cells #[.string kb, .string db] 70)).cell? ⟨w2.heap.size, 1, none⟩ = some (.string db) := by simp [go_sem]
          have k3 := (hby.cell (p := ⟨ga, 0, none⟩) (show ga < _ by omega)).trans ca
          have k4 := (World.frozen?_of_block (a := ⟨ga, 0, none⟩) (hby.block ga (by omega))).trans (unhide HAf2)
          have HB3 := hide ((unhide HB2).trans (hby.mono (by omega)))
          have hgl3 : ga + 1 ≤ ((w2.alloc (.cells #[.string kb, .string db] 70)).alloc (.cells #[.string kb, .string db] 70)).heap.size := Nat.le_trans hgl2 hby.size
          have hg7 : w2.heap.size < ((w2.alloc (.cells #[.string kb, .string db] 70)).alloc (.cells #[.string kb, .string db] 70)).heap.size := by simp; omega
          have K0 := hide k0
          have K1 := hide k1
          have K2 := hide k2
          have K3 := hide k3
          have K4 := hide k4
          have HCL := hide (show cs.length ≤ 1000000 by have := unhide Hn; omega)
          clear hxt hx hkb hdb ek ed hbz hby k0 k1 k2 k3 k4 HO2 HB2 HA2 HAf2 HR m2 m3 m4 hk1 hd1
          go_wp2_with (at_builtin; refine wpList_appChP _ rfl (.tmp 40) (.tmp 42) rfl (ga + 1) (w2.heap.size + 1) (.slice aL n cL) cs kl dl rfl rfl (unhide HO3) (unhide K0) (unhide K1) (unhide HCL) hgl3 ?_)
          intro v4 w4 ho4 hg4 _
          obtain ⟨a4, c4, rfl⟩ := own_slice ho4
          have c5 := hg4.cell (unhide K2) (fun e => by have := (unhide HIN _ e.symm).2; simp only at this; omega)
          have c6 := hg4.cell (unhide K3) (fun e => by have := (unhide HIN _ e.symm).1; simp only at this; omega)
          have c7 := (World.frozen?_of_block (a := ⟨ga, 0, none⟩) (hg4.block ga (by omega) (fun e => by have := (unhide HIN _ e.symm).1; omega))).trans (unhide K4)
          have HB5 := hide ((unhide HB3).grown hg4 (by omega) (fun k e => by have := (unhide HIN k e).1; omega))
          have hgl5 : ga + 1 ≤ w4.heap.size := Nat.le_trans hgl3 hg4.size
          obtain ⟨a2, ha2⟩ : ∃ q, q = a + 12 + m := ⟨_, rfl⟩
          obtain ⟨ml, hml⟩ : ∃ q, q = 12 + m := ⟨_, rfl⟩
          have zl : (12 : Int) + (db.size : Int) = (ml : Int) := by omega
          have zl2 : (12 : Int) + (m : Int) = (ml : Int) := by omega
          have za : (a : Int) + (ml : Int) = (a2 : Int) := by omega
          have HO4 : Hid ((w4.setCell ⟨ga, 0, none⟩ (.int .i64 (a2 : Int))).ownsRow (ga + 1) 70 2 (.slice a4 (cs.length + 1) c4) (cs ++ [(kl, dl)]).length (chV (cs ++ [(kl, dl)]))) := by
            have := own_set (p := ⟨ga, 0, none⟩) (y := .int .i64 (a2 : Int)) ho4 (by show ga < ga + 1; omega)
            show World.ownsRow _ _ _ _ _ _ _
            simpa using this
          have HA4 : Hid ((w4.setCell ⟨ga, 0, none⟩ (.int .i64 (a2 : Int))).cell? ⟨ga, 0, none⟩ = some (.int .i64 (a2 : Int))) := by
            show _ = _
            simp [go_sem, c6]
          have HF4 : Hid ((w4.setCell ⟨ga, 0, none⟩ (.int .i64 (a2 : Int))).frozen? ⟨ga, 0, none⟩ = false) := by
            show _ = _
            simp [go_sem, c7]
          have HB6 := hide ((unhide HB5).setCell (p := ⟨ga, 0, none⟩) (Nat.le_refl _) (.int .i64 (a2 : Int)))
          have hgl6 : ga + 1 ≤ (w4.setCell ⟨ga, 0, none⟩ (.int .i64 (a2 : Int))).heap.size := by simpa [World.setCell] using hgl5
          have ha2s : a2 ≤ s.size := by omega
          have haa : a < a2 := by omega
          have HA2 := hide ha2
          have hcl : Hid (atOf (w4.setCell ⟨ga, 0, none⟩ (.int .i64 (a2 : Int))) ga = a2) := by
            show atOf _ _ = _
            unfold atOf
            rw [unhide HA4]
            rfl
          have hcl0 : Hid (atOf wr ga = a) := by
            show atOf _ _ = _
            unfold atOf
            rw [unhide HA0]
            rfl
          have hcn : cs.length = n := (unhide Hn).symm
          have HCN := hide hcn
          clear ho4 hg4 HO3 HB3 HB5 K0 K1 K2 K3 K4 HIN hgl3 hg7 ha2 hml hcn
          go_wp2
          go_roundw
          case rel => exact ⟨a2, cs.length + 1, c4, cs ++ [(kl, dl)], a4, rfl, by show cs.length + 1 = _; rw [List.length_append]; rfl, ha2s, by have := unhide HCN; omega, HA4, HF4, by rw [unhide HA2]; exact HRR, HO4, HB6, hgl6⟩
          case measure =>
            rw [unhide hcl, unhide hcl0]
            omega
      · obtain rfl : a = s.size := by omega
        have d1 : decide ((s.size : Int) < (s.size : Int)) = false := by simp
        have HRR := hide (unhide HR _ (.done (by omega)))
        have HQ : Hid (RdOf s wr ga (.iface tT vT) (.iface tS vS) (.returned (.tuple #[.slice aL n cL, .nilIface]))) := .inr ⟨unhide HY, _, unhide HRR, aL, cL, by rw [unhide Hn], by
          have := own_less (b' := ga) (unhide HO) (by omega)
          rw [unhide Hn] at this
          exact this⟩
        clear HRR HR
        go_wp2
        go_ret2
        exact ⟨unhide HQ, unhide HB⟩
end Go.Proofs.YtlnglpphlcebdafDoor
