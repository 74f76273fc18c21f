/- Walks of the unpacker of codes: the word of a code. -/
import Derived.Test.YtjcoahahponabaaGreatDoorLzg
import Derived.Test.YtjcoahahponabaaGreatDoorMg7
import Derived.Test.YtjcoahahponabaaGreatDoorMg3
namespace Go.Proofs.YtjcoahahponabaaGreatDoor
open Go.RowKit Lz

section
variable {p r : Nat} {s : ByteArray} {W most : Nat} {vL : Value} {pcs : List (Nat × Nat)} {la ll : Nat} {vT : Value} {st : St}

theorem grow_any (w : World) (h : UN w p r s st.k W st.S (2 ^ W + 2 + pcs.length) most vL pcs la ll vT st.out) (hM : Means W st pcs la ll) (hg : Lz.Good W st) (ho : st.out.length ≤ 300000) :
    Calls Tryz.prog 188 #[.pointer (some ⟨p, 0, none⟩)] w fun e w' => e = .returned (.tuple #[]) ∧ ∃ vL', UN w' p r s st.k W st.S (2 ^ W + 2 + (grownP W st pcs la ll).length) most vL' (grownP W st pcs la ll) la ll vT st.out ∧ Below r w w' := by
  have hf := hg.full
  have hm := hM.many
  by_cases hmo : more W st = true
  · obtain ⟨h1, h2⟩ := (more_iff hM).1 hmo
    have hla : la + ll ≤ st.out.length := by
      rcases hM.last with ⟨_, q⟩ | ⟨_, q, _, _⟩
      · exact absurd q h1
      · omega
    refine (grow_yes w h h1 h2 (by generalize 2 ^ W = X at *; omega) (by omega)).mono ?_
    rintro e w' ⟨rfl, vL', hU, hb⟩
    refine ⟨rfl, vL', ?_, hb⟩
    have e1 : grownP W st pcs la ll = pcs ++ [(la, ll + 1)] := by unfold grownP; rw [if_pos hmo]
    rw [e1, List.length_append]
    exact hU
  · have h0 : ll = 0 ∨ 2 ^ W + 2 + pcs.length = 4096 := by
      by_cases q : ll = 0
      · exact .inl q
      · right
        have := mt (more_iff hM).2 hmo
        rcases Nat.lt_or_ge (2 ^ W + 2 + pcs.length) 4096 with c | c
        · exact absurd ⟨q, c⟩ this
        · omega
    refine (grow_no w h h0).mono ?_
    rintro e w' ⟨rfl, rfl⟩
    have e1 : grownP W st pcs la ll = pcs := by unfold grownP; rw [if_neg hmo]
    rw [e1]
    exact ⟨rfl, vL, h, Below.refl _ _⟩

theorem fitS_size (S c : Nat) : fitS S c = size' S c := by
  unfold fitS size'
  by_cases h : S < 12 ∧ c = 2 ^ S
  · rw [if_pos h, if_pos ⟨h.2, h.1⟩]
  · rw [if_neg h, if_neg (fun q => h ⟨q.2, q.1⟩)]

/-- What comes of a code. -/
def Out (W most : Nat) (p r : Nat) (s : ByteArray) (st : St) (pcs : List (Nat × Nat)) (la ll : Nat) (n : Nat) (eT eB : Value) (w' : World) (v : Value) : Prop :=
  (wordOf W st n = none ∧ v = eT) ∨ (∃ x, wordOf W st n = some x ∧ most < st.out.length + x.length ∧ v = eB) ∨
  (∃ x, wordOf W st n = some x ∧ st.out.length + x.length ≤ most ∧ v = .nilIface ∧ ∃ vL' vT', UN w' p r s st.k W (size' st.S (2 ^ W + 2 + (words' W st x).length)) (2 ^ W + 2 + (grownP W st pcs la ll).length) most vL' (grownP W st pcs la ll) st.out.length x.length vT' (st.out ++ x))

set_option maxHeartbeats 4000000 in
set_option maxRecDepth 100000 in
theorem word_any (n : Nat) (eT eB : Value) (w : World) (h : UN w p r s st.k W st.S (2 ^ W + 2 + pcs.length) most vL pcs la ll vT st.out) (hM : Means W st pcs la ll) (hg : Lz.Good W st) (hW : W ≤ 8) (hn : n < 4096) (hn1 : n ≠ 2 ^ W) (hn2 : n ≠ 2 ^ W + 1) (ho : st.out.length ≤ most) (hmo : most ≤ 300000)
    (hT : ∀ w', Below r w w' → w'.cell? ⟨1, 0, none⟩ = some eT) (hB : ∀ w', Below r w w' → w'.cell? ⟨0, 0, none⟩ = some eB) :
    Calls Tryz.prog 181 #[.pointer (some ⟨p, 0, none⟩), .int .i64 (n : Int)] w fun e w' => ∃ v, e = .returned v ∧ Out W most p r s st pcs la ll n eT eB w' v ∧ Below r w w' := by
  have HGR := hide (grow_any w h hM hg (by omega))
  have HET := hide hT
  have HEB := hide hB
  have HM := hide hM
  have HGD := hide hg
  have hfull := hg.full
  have hs12 := hg.s12
  have hgl : ∀ x, (grownP W st pcs la ll).length = (words' W st x).length := fun x => grownP_length hM x
  have HGL := hide hgl
  have hp2 := pow2 W hW
  have h12 : 2 ^ W + 2 + (grownP W st pcs la ll).length ≤ 4096 := by rw [hgl []]; exact words'_length W st [] hg
  have hrp := h.ltp
  obtain ⟨N1, hN1⟩ : ∃ N1, N1 = 2 ^ W + 2 + (grownP W st pcs la ll).length := ⟨_, rfl⟩
  obtain ⟨P1, hP1⟩ : ∃ P1, P1 = grownP W st pcs la ll := ⟨_, rfl⟩
  clear h hT hB hM hg hgl
  by_cases hnone : N1 ≤ n
  · have HWN : Hid (wordOf W st n = none) := wordOf_none (unhide HM) (by omega) (by omega)
    have hdn : decide ((n : Int) ≥ (N1 : Int)) = true := by simp; omega
    have hdn' : decide ((N1 : Int) ≤ (n : Int)) = true := hdn
    have hdnn : decide (N1 ≤ n) = true := by simp; omega
    rw [← hN1, ← hP1] at HGR
    clear hN1 hP1 h12
    go_enter Tryz.func181, Tryz.ntmps181
    go_wp2_with fail
    refine (unhide HGR).mono ?_; rintro e w1 ⟨rfl, vL', hU1, hb1⟩
    have hnx : w1.cell? ⟨p, 3, none⟩ = some (.int .i64 (N1 : Int)) := hU1.cd.next
    have hev := unhide HET w1 hb1
    have HB1 := hide hb1
    clear HGR hU1 hb1
    go_wp2
    go_ret
    exact ⟨_, rfl, .inl ⟨unhide HWN, rfl⟩, unhide HB1⟩
  · have hdn : decide ((n : Int) ≥ (N1 : Int)) = false := by simp; omega
    have hdn' : decide ((N1 : Int) ≤ (n : Int)) = false := hdn
    have hdnn : decide (N1 ≤ n) = false := by simp; omega
    by_cases hlow : n < 2 ^ W
    · have HWO : Hid (wordOf W st n = some [UInt8.ofNat n]) := wordOf_low hlow
      obtain ⟨x, hx⟩ : ∃ x, x = [UInt8.ofNat n] := ⟨_, rfl⟩
      rw [← hx] at HWO
      have hxl : x.length = 1 := by rw [hx]; rfl
      obtain ⟨b, hb⟩ : ∃ b, b = UInt8.ofNat n := ⟨_, rfl⟩
      rw [← hb] at hx
      have Hbn : Hid ((b.toNat : Int) = (n : Int)) := by show _ = _; rw [hb, toNat_len n (by omega)]
      have HCL : Hid (∀ w', CD w' p 1 W st.S N1 → Calls Tryz.prog 168 #[.pointer (some ⟨p, 1, none⟩)] w' fun e w'' => e = .returned (.int .i64 ((2 ^ W : Nat) : Int)) ∧ w'' = w') := fun w' hc => clearCode_any p 1 W st.S N1 w' hc (by omega)
      have HGX := hide (unhide HGL x)
      have HN1 := hide hN1
      have HP1 := hide hP1
      rw [← hN1, ← hP1] at HGR
      clear hN1 hP1 h12 hb hnone
      obtain ⟨out, hout⟩ : ∃ o, o = st.out := ⟨_, rfl⟩
      obtain ⟨X, hX⟩ : ∃ X, X = 2 ^ W := ⟨_, rfl⟩
      have HOUT := hide hout
      have HX := hide hX
      rw [← hout] at HGR ho
      rw [← hX] at hn1 hn2 hfull hp2 hlow HN1 HCL
      clear hout hX
      have glow : decide ((n : Int) < (X : Int)) = true := by simp; omega
      have glown : decide (n < X) = true := by simp; omega
      go_enter Tryz.func181, Tryz.ntmps181
      go_wp2_with fail
      refine (unhide HGR).mono ?_; rintro e w1 ⟨rfl, vL', hU1, hb1⟩
      have hnx : w1.cell? ⟨p, 3, none⟩ = some (.int .i64 (N1 : Int)) := hU1.cd.next
      have HU1 := hide hU1
      have HB1 := hide hb1
      have htx := hU1.tx
      have hown1 := hU1.oT
      obtain ⟨a1, c1, rfl, _⟩ := shape2 hown1
      have HC := hide (unhide HCL w1 hU1.cd)
      have HO1 := hide hown1
      have f7 := hU1.free 7
      have hpl := hU1.lt
      clear HGR hU1 hb1 HCL hown1
      go_wp2_with fail
      refine (unhide HC).mono ?_; rintro e w2 ⟨rfl, rfl⟩
      go_wp2_with (at_builtin; refine wpList_appB _ rfl (.tmp 31) (.tmp 34) rfl (p + 1) w2.heap.size (.slice a1 out.length c1) out b rfl rfl ((unhide HO1).alloc _) (by rw [unhide Hbn]; exact one_new0 w2 _ _) (by omega) (by simp; omega) ?_)
      intro v3 w3 hown3 hgr3 hat3
      obtain ⟨a3, c3, rfl, _⟩ := shape2 hown3
      have hbP := grown_far p hgr3 (by simp; omega) (fun g q => by have := ((unhide HO1).lt g q).1; omega)
      have cP3 : w3.cell? ⟨p, 7, none⟩ = some (.slice a1 out.length c1) := (World.cell?_of_block hbP).trans (((Below.refl w2.heap.size w2).alloc (Nat.le_refl _) _).cell (p := ⟨p, 7, none⟩) hpl |>.trans htx)
      have fP3 : w3.frozen? ⟨p, 7, none⟩ = false := (World.frozen?_of_block hbP).trans (((Below.refl w2.heap.size w2).alloc (Nat.le_refl _) _).frozen (p := ⟨p, 7, none⟩) hpl |>.trans f7)
      have hfin := (unhide HU1).pushT (b := b) (v' := .slice a3 (out.length + 1) c3) ((Below.refl w2.heap.size w2).alloc (Nat.le_refl _) _) (by rw [List.length_append]; exact hown3) hgr3
      have HU5 := hide hfin.1
      have HB5 := hide ((unhide HB1).trans hfin.2.1)
      rw [← hx] at HU5
      clear hfin hown3 hgr3 hat3 hbP HO1 HU1 HB1 HC hnx htx f7 hpl
      go_wp2_with fail
      generalize w3.setCell ⟨p, 7, none⟩ (.slice a3 (out.length + 1) c3) = w5 at *
      clear cP3 fP3
      have cv5 := (unhide HU5).tx
      have cm5 := (unhide HU5).ms
      by_cases hbd : most < (out.length + 1)
      · have g8 : decide ((out.length : Int) + 1 > (most : Int)) = true := by simp; omega
        have g8' : decide ((most : Int) < (out.length : Int) + 1) = true := g8
        have g8n : decide (most < (out.length + 1)) = true := by simp; omega
        have hev := unhide HEB w5 (unhide HB5)
        go_quiet (fail)
        go_wp2
        go_ret
        exact ⟨_, rfl, .inr (.inl ⟨x, unhide HWO, by rw [← unhide HOUT]; omega, rfl⟩), below_drewN (unhide HB5) _⟩
      · have g8 : decide ((out.length : Int) + 1 > (most : Int)) = false := by simp; omega
        have g8' : decide ((most : Int) < (out.length : Int) + 1) = false := g8
        have g8n : decide (most < (out.length + 1)) = false := by simp; omega
        go_quiet (fail)
        obtain ⟨w6, hw6⟩ : ∃ w6, w6 = w5.drewN nq := ⟨_, rfl⟩
        have bq : Below w5.heap.size w5 (w5.drewN nq) := below_drewN (Below.refl _ _) nq
        have HU6 := hide ((unhide HU5).below bq)
        have HB6 := hide (below_drewN (unhide HB5) nq)
        rw [← hw6] at HU6 HB6 ⊢
        clear bq cv5 cm5 HU5 HB5 hw6
        have hlast := (unhide HU6).setLast out.length x.length
        have HU7 := hide hlast.1
        have HB7 := hide ((unhide HB6).trans hlast.2)
        have l05 := (unhide HU6).l0
        have l15 := (unhide HU6).l1
        have f5 := (unhide HU6).free 5
        have f6 := (unhide HU6).free 6
        have cv6 := (unhide HU6).tx
        clear hlast HU6 HB6
        have zs : (out.length : Int) + 1 - (out.length : Int) = 1 := by omega
        rw [hxl, show ((1 : Nat) : Int) = 1 from rfl] at HU7 HB7
        go_wp2_with fail
        generalize (w6.setCell ⟨p, 5, none⟩ (.int .i64 (out.length : Int))).setCell ⟨p, 6, none⟩ (.int .i64 1) = w7 at *
        have hd7 : w7.drew.cell? ⟨p, 3, none⟩ = some (.int .i64 (N1 : Int)) := (unhide HU7).cd.next
        have HU7d := hide ((unhide HU7).below (w' := w7.drew) (Below.refl _ _).drew)
        have HB7d := hide ((unhide HB7).drew)
        have HFT : Hid (Calls Tryz.prog 170 #[.pointer (some ⟨p, 1, none⟩), .int .i64 (N1 : Int)] w7.drew fun e w'' => e = .returned (.tuple #[]) ∧ CD w'' p 1 W (fitS st.S N1) N1 ∧ KC p 1 w7.drew w'') := fit_any p 1 W st.S N1 N1 w7.drew (unhide HU7d).cd hs12
        have entF : ∀ args w, (callFunc 170 args).run Tryz.prog w = .ok (.enter 170 args) w := enters_of Tryz.func170 (by kernel_rfl) rfl
        have HD7 := hide hd7
        clear HU7 HB7 hd7 l05 l15 f5 f6 cv6
        refine wp_region_held_drew (S := fun w' => w'.cell? ⟨p, 3, none⟩ = some (.int .i64 (N1 : Int))) (by kernel_rfl) (unhide HD7) (fun hHeld => ?_)
        refine wpAnyH_take (i := 0) (v := .pointer (some ⟨p, 0, none⟩)) rfl (by kernel_rfl) (by kernel_rfl) (by kernel_rfl) (fun _ _ _ h => h) (Or.inl ⟨by rfl, ?_⟩) hHeld ?_
        · intro w' hSw
          go_simp
        simp only [Act.put, List.setIfInBounds_toArray]
        refine wpAnyH_take (i := 1) (v := .pointer (some ⟨p, 0, none⟩)) rfl (by kernel_rfl) (by kernel_rfl) (by kernel_rfl) (fun _ _ _ h => h) (Or.inl ⟨by rfl, ?_⟩) hHeld ?_
        · intro w' hSw
          go_simp
        simp only [Act.put]
        refine wpAnyH_take (i := 2) (v := .pointer (some ⟨p, 1, none⟩)) rfl (by kernel_rfl) (by kernel_rfl) (by kernel_rfl) (fun _ _ _ h => h) (Or.inl ⟨by rfl, ?_⟩) hHeld ?_
        · intro w' hSw
          go_simp
        simp only [Act.put]
        refine wpAnyH_take (i := 3) (v := .pointer (some ⟨p, 0, none⟩)) rfl (by kernel_rfl) (by kernel_rfl) (by kernel_rfl) (fun _ _ _ h => h) (Or.inl ⟨by rfl, ?_⟩) hHeld ?_
        · intro w' hSw
          go_simp
        simp only [Act.put]
        refine wpAnyH_take (i := 4) (v := .pointer (some ⟨p, 0, none⟩)) rfl (by kernel_rfl) (by kernel_rfl) (by kernel_rfl) (fun _ _ _ h => h) (Or.inl ⟨by rfl, ?_⟩) hHeld ?_
        · intro w' hSw
          go_simp
        simp only [Act.put]
        refine wpAnyH_take (i := 5) (v := .pointer (some ⟨p, 1, none⟩)) rfl (by kernel_rfl) (by kernel_rfl) (by kernel_rfl) (fun _ _ _ h => h) (Or.inl ⟨by rfl, ?_⟩) hHeld ?_
        · intro w' hSw
          go_simp
        simp only [Act.put]
        refine wpAnyH_take (i := 6) (v := .pointer (some ⟨p, 3, none⟩)) rfl (by kernel_rfl) (by kernel_rfl) (by kernel_rfl) (fun _ _ _ h => h) (Or.inl ⟨by rfl, ?_⟩) hHeld ?_
        · intro w' hSw
          go_simp
        simp only [Act.put]
        refine wpAnyH_take (i := 7) (v := .int .i64 (N1 : Int)) rfl (by kernel_rfl) (by kernel_rfl) (by kernel_rfl) (fun _ _ _ h => h) (Or.inl ⟨by rfl, ?_⟩) hHeld ?_
        · intro w' hSw
          go_simp
        simp only [Act.put]
        refine wpAnyH_ready (rs := [8]) (by kernel_rfl) (by simp) ?_
        refine AllReadyH.cons rfl (fun K hK => ?_) AllReadyH.nil
        refine step_calls rfl 170 [.tmp 77, .tmp 82] #[220, 3] rfl [.pointer (some ⟨p, 1, none⟩), .int .i64 (N1 : Int)] (by simp [Act.eval]) entF ?_
        refine (unhide HFT).mono ?_
        rintro e w8 ⟨rfl, hC8, hk8⟩
        refine .inl ⟨_, rfl, ?_⟩
        have HU8 := hide ((unhide HU7d).kc hk8 hC8)
        have HB8 := hide ((unhide HB7d).trans (hk8.below.mono (by omega)))
        refine hK.out _ _ (unhide HU8).cd.next (fun hHeld => ?_)
        clear hK K HFT hC8 hk8 HU7d HB7d
        simp only [Act.put]
        refine wpAnyH_done (by kernel_rfl) ?_ _
        go_wp2
        go_ret
        refine ⟨_, rfl, .inr (.inr ⟨x, unhide HWO, by rw [← unhide HOUT]; omega, rfl, vL', .slice a3 (out.length + 1) c3, ?_⟩), unhide HB8⟩
        have := unhide HU8
        rw [fitS_size] at this
        rw [← unhide HOUT, ← unhide HX, ← unhide HGX, ← unhide HN1, ← unhide HP1]
        rw [hxl]; exact this
    · obtain ⟨j, hj⟩ : ∃ j, j = n - (2 ^ W + 2) := ⟨_, rfl⟩
      have hnj : n = 2 ^ W + 2 + j := by generalize 2 ^ W = X at *; omega
      have hjl : j < P1.length := by rw [hP1]; generalize 2 ^ W = X at *; omega
      obtain ⟨x, hwo, hag, hal, hxl, hsum⟩ := wordOf_some (unhide HGD) (unhide HM) hnj (by rw [← hP1]; exact hjl)
      rw [← hP1] at hag hal hxl hsum
      have hx0 : 0 < x.length := List.length_pos_iff.2 (wordOf_ne (unhide HGD) hwo)
      have HWO := hide hwo
      obtain ⟨qa, hqa⟩ : ∃ q, q = (P1.getD j (0, 0)).1 := ⟨_, rfl⟩
      obtain ⟨ql, hql⟩ : ∃ q, q = (P1.getD j (0, 0)).2 := ⟨_, rfl⟩
      rw [← hqa, ← hql] at hag hsum
      rw [← hqa] at hal
      rw [← hql] at hxl
      have HCL : Hid (∀ w', CD w' p 1 W st.S N1 → Calls Tryz.prog 168 #[.pointer (some ⟨p, 1, none⟩)] w' fun e w'' => e = .returned (.int .i64 ((2 ^ W : Nat) : Int)) ∧ w'' = w') := fun w' hc => clearCode_any p 1 W st.S N1 w' hc (by omega)
      have HFL : Hid (∀ w', CD w' p 1 W st.S N1 → Calls Tryz.prog 177 #[.pointer (some ⟨p, 1, none⟩)] w' fun e w'' => e = .returned (.int .i64 ((2 ^ W + 2 : Nat) : Int)) ∧ w'' = w') := fun w' hc => firstLonger_any p 1 W st.S N1 w' hc (by omega)
      have HGX := hide (unhide HGL x)
      have HN1 := hide hN1
      have HP1 := hide hP1
      have HQA := hide hqa
      have HQL := hide hql
      rw [← hN1, ← hP1] at HGR
      obtain ⟨out, hout⟩ : ∃ o, o = st.out := ⟨_, rfl⟩
      obtain ⟨X, hX⟩ : ∃ X, X = 2 ^ W := ⟨_, rfl⟩
      have HOUT := hide hout
      have HX := hide hX
      rw [← hout] at HGR ho hag hal hsum
      rw [← hX] at hn1 hn2 hfull hp2 hlow HN1 HCL HFL hnj
      have HAG := hide hag
      clear hout hX hN1 hP1 h12 hnone hqa hql hj hwo hag
      have glow : decide ((n : Int) < (X : Int)) = false := by simp; omega
      have glown : decide (n < X) = false := by simp; omega
      have zj : (n : Int) - ((X + 2 : Nat) : Int) = (j : Int) := by omega
      have zj2 : (n : Int) - ((X : Int) + 2) = (j : Int) := by omega
      have hj4 : j < 4096 := by omega
      clear hnj
      go_enter Tryz.func181, Tryz.ntmps181
      go_wp2_with fail
      refine (unhide HGR).mono ?_; rintro e w1 ⟨rfl, vL', hU1, hb1⟩
      have hnx : w1.cell? ⟨p, 3, none⟩ = some (.int .i64 (N1 : Int)) := hU1.cd.next
      have HU1 := hide hU1
      have HB1 := hide hb1
      have htx := hU1.tx
      have hown1 := hU1.oT
      obtain ⟨a1, c1, rfl, _⟩ := shape2 hown1
      have HC := hide (unhide HCL w1 hU1.cd)
      clear HGR hU1 hb1 HCL hown1
      go_wp2_with fail
      refine (unhide HC).mono ?_; rintro e w2 ⟨rfl, rfl⟩
      clear HC hnx htx
      have hownL := (unhide HU1).oL
      obtain ⟨aL, cL, rfl, hgL⟩ := shape2 hownL
      obtain ⟨gL, rfl, hgLp⟩ := hgL (by omega)
      have SF : Hid (∀ (w' : World) (vT' : Value) (o' : List UInt8), UN w' p r s st.k W st.S N1 most (.slice (some ⟨gL, 0, none⟩) P1.length cL) P1 la ll vT' o' → w'.cell? ⟨p, 4, none⟩ = some (.slice (some ⟨gL, 0, none⟩) P1.length cL) ∧ w'.cell? ⟨gL, 2 * j, none⟩ = some (.int .i64 (qa : Int)) ∧ w'.cell? ⟨gL, 2 * j + 1, none⟩ = some (.int .i64 (ql : Int))) := fun w' vT' o' hU => by
        have hat := pcVals_at P1 j hjl
        rw [← unhide HQA, ← unhide HQL] at hat
        exact ⟨hU.lg, (hU.oL.cellAt (2 * j) (by omega)).trans hat.1, (hU.oL.cellAt (2 * j + 1) (by omega)).trans hat.2⟩
      have HU2 := hide ((unhide HU1).below (w' := w2.drew) (Below.refl _ _).drew)
      have HB2 := hide ((unhide HB1).drew)
      have HF := hide (unhide HFL w2.drew (unhide HU2).cd)
      obtain ⟨m2, hm2⟩ : ∃ m, m = (out ++ x).length := ⟨_, rfl⟩
      have hm2x : m2 = out.length + x.length := by rw [hm2, List.length_append]
      have HA : Hid (Calls Tryz.prog 189 #[.pointer (some ⟨p, 0, none⟩), .agg #[.int .i64 (qa : Int), .int .i64 (ql : Int)]] w2.drew fun e w' => e = .returned (.tuple #[]) ∧ ∃ a5 c5, UN w' p r s st.k W st.S N1 most (.slice (some ⟨gL, 0, none⟩) P1.length cL) P1 la ll (.slice a5 m2 c5) (out ++ x) ∧ Below r w2.drew w') := by
        refine (again_any qa ql w2.drew (unhide HU2) hal hsum (by omega)).mono ?_
        rintro e w' ⟨rfl, vT', hU, hb⟩
        rw [unhide HAG] at hU
        obtain ⟨a5, c5, e5, _⟩ := shape2 hU.oT
        rw [← hm2] at e5
        rw [e5] at hU
        exact ⟨rfl, a5, c5, hU, hb⟩
      clear hm2
      have entA : ∀ args w, (callFunc 189 args).run Tryz.prog w = .ok (.enter 189 args) w := enters_of Tryz.func189 (by kernel_rfl) rfl
      have entL : ∀ args w, (callFunc 177 args).run Tryz.prog w = .ok (.enter 177 args) w := enters_of Tryz.func177 (by kernel_rfl) rfl
      have hwj : IntKind.i64.wrap (j : Int) = (j : Int) := by rw [IntKind.wrap_i64]; omega
      have hji : (j : Int) < (P1.length : Int) := by omega
      have HS2 := hide (unhide SF _ _ _ (unhide HU2))
      clear HFL HU1 HB1 hownL hgL
      go_wp2_with fail
      refine wp_region_held_drew (S := fun w' => w'.cell? ⟨p, 4, none⟩ = some (.slice (some ⟨gL, 0, none⟩) P1.length cL) ∧ w'.cell? ⟨gL, 2 * j, none⟩ = some (.int .i64 (qa : Int)) ∧ w'.cell? ⟨gL, 2 * j + 1, none⟩ = some (.int .i64 (ql : Int))) (by kernel_rfl) (unhide HS2) (fun hHeld => ?_)
      refine wpAnyH_take (i := 0) (v := .pointer (some ⟨p, 0, none⟩)) rfl (by kernel_rfl) (by kernel_rfl) (by kernel_rfl) (fun _ _ _ h => h) (Or.inl ⟨by rfl, ?_⟩) hHeld ?_
      · intro w' hSw
        obtain ⟨s1, s2, s3⟩ := hSw
        go_simp
      simp only [Act.put, List.setIfInBounds_toArray]
      refine wpAnyH_take (i := 1) (v := .pointer (some ⟨p, 0, none⟩)) rfl (by kernel_rfl) (by kernel_rfl) (by kernel_rfl) (fun _ _ _ h => h) (Or.inl ⟨by rfl, ?_⟩) hHeld ?_
      · intro w' hSw
        obtain ⟨s1, s2, s3⟩ := hSw
        go_simp
      simp only [Act.put]
      refine wpAnyH_take (i := 2) (v := .pointer (some ⟨p, 0, none⟩)) rfl (by kernel_rfl) (by kernel_rfl) (by kernel_rfl) (fun _ _ _ h => h) (Or.inl ⟨by rfl, ?_⟩) hHeld ?_
      · intro w' hSw
        obtain ⟨s1, s2, s3⟩ := hSw
        go_simp
      simp only [Act.put]
      refine wpAnyH_take (i := 3) (v := .pointer (some ⟨p, 4, none⟩)) rfl (by kernel_rfl) (by kernel_rfl) (by kernel_rfl) (fun _ _ _ h => h) (Or.inl ⟨by rfl, ?_⟩) hHeld ?_
      · intro w' hSw
        obtain ⟨s1, s2, s3⟩ := hSw
        go_simp
      simp only [Act.put]
      refine wpAnyH_take (i := 4) (v := .slice (some ⟨gL, 0, none⟩) P1.length cL) rfl (by kernel_rfl) (by kernel_rfl) (by kernel_rfl) (fun _ _ _ h => h) (Or.inl ⟨by rfl, ?_⟩) hHeld ?_
      · intro w' hSw
        obtain ⟨s1, s2, s3⟩ := hSw
        go_simp
      simp only [Act.put]
      refine wpAnyH_take (i := 5) (v := .int .i64 (n : Int)) rfl (by kernel_rfl) (by kernel_rfl) (by kernel_rfl) (fun _ _ _ h => h) (Or.inl ⟨by rfl, ?_⟩) hHeld ?_
      · intro w' hSw
        obtain ⟨s1, s2, s3⟩ := hSw
        go_simp
      simp only [Act.put]
      refine wpAnyH_take (i := 6) (v := .pointer (some ⟨p, 0, none⟩)) rfl (by kernel_rfl) (by kernel_rfl) (by kernel_rfl) (fun _ _ _ h => h) (Or.inl ⟨by rfl, ?_⟩) hHeld ?_
      · intro w' hSw
        obtain ⟨s1, s2, s3⟩ := hSw
        go_simp
      simp only [Act.put]
      refine wpAnyH_take (i := 7) (v := .pointer (some ⟨p, 0, none⟩)) rfl (by kernel_rfl) (by kernel_rfl) (by kernel_rfl) (fun _ _ _ h => h) (Or.inl ⟨by rfl, ?_⟩) hHeld ?_
      · intro w' hSw
        obtain ⟨s1, s2, s3⟩ := hSw
        go_simp
      simp only [Act.put]
      refine wpAnyH_take (i := 8) (v := .pointer (some ⟨p, 1, none⟩)) rfl (by kernel_rfl) (by kernel_rfl) (by kernel_rfl) (fun _ _ _ h => h) (Or.inl ⟨by rfl, ?_⟩) hHeld ?_
      · intro w' hSw
        obtain ⟨s1, s2, s3⟩ := hSw
        go_simp
      simp only [Act.put]
      refine wpAnyH_ready (rs := [9]) (by kernel_rfl) (by simp) ?_
      refine AllReadyH.cons rfl (fun K hK => ?_) AllReadyH.nil
      refine step_calls rfl 177 [.tmp 46] #[220] rfl [.pointer (some ⟨p, 1, none⟩)] (by simp [Act.eval]) entL ?_
      refine (unhide HF).mono ?_
      rintro e w3 ⟨rfl, rfl⟩
      refine .inl ⟨_, rfl, ?_⟩
      refine hK.out _ _ (unhide HS2) (fun hHeld => ?_)
      clear hK K HF
      simp only [Act.put]
      refine wpAnyH_take (i := 10) (v := .int .i64 (j : Int)) rfl (by kernel_rfl) (by kernel_rfl) (by kernel_rfl) (fun _ _ _ h => h) (Or.inl ⟨by rfl, ?_⟩) hHeld ?_
      · intro w' hSw
        obtain ⟨s1, s2, s3⟩ := hSw
        go_simp
      simp only [Act.put, List.getElem_toArray, List.getElem_cons_succ, List.getElem_cons_zero]
      refine wpAnyH_take (i := 11) (v := .pointer (some ⟨gL, 2 * j, none⟩)) rfl (by kernel_rfl) (by kernel_rfl) (by kernel_rfl) (fun _ _ _ h => h) (Or.inl ⟨by rfl, ?_⟩) hHeld ?_
      · intro w' hSw
        obtain ⟨s1, s2, s3⟩ := hSw
        go_simp
      simp only [Act.put, List.getElem_toArray, List.getElem_cons_succ, List.getElem_cons_zero]
      refine wpAnyH_take (i := 12) (v := .agg #[.int .i64 (qa : Int), .int .i64 (ql : Int)]) rfl (by kernel_rfl) (by kernel_rfl) (by kernel_rfl) (fun _ _ _ h => h) (Or.inl ⟨by rfl, ?_⟩) hHeld ?_
      · intro w' hSw
        obtain ⟨s1, s2, s3⟩ := hSw
        go_simp
      simp only [Act.put, List.getElem_toArray, List.getElem_cons_succ, List.getElem_cons_zero]
      refine wpAnyH_ready (rs := [13]) (by kernel_rfl) (by simp) ?_
      refine AllReadyH.cons rfl (fun K hK => ?_) AllReadyH.nil
      refine step_calls rfl 189 [.tmp 38, .tmp 50] #[246, 251] rfl [.pointer (some ⟨p, 0, none⟩), .agg #[.int .i64 (qa : Int), .int .i64 (ql : Int)]] (by simp [Act.eval]) entA ?_
      refine (unhide HA).mono ?_
      rintro e w5 ⟨rfl, a5, c5, hU5, hb5⟩
      refine .inl ⟨_, rfl, ?_⟩
      refine hK.out _ _ (unhide SF _ _ _ hU5) (fun hHeld => ?_)
      have HU5 := hide hU5
      have HB5 := hide ((unhide HB2).trans hb5)
      clear hK K HA hU5 hb5 HU2 HB2 HS2 SF
      simp only [Act.put, List.getElem_toArray, List.getElem_cons_succ, List.getElem_cons_zero, List.setIfInBounds_toArray, List.set_cons_succ, List.set_cons_zero]
      refine wpAnyH_done (by kernel_rfl) ?_ _
      have zs : (m2 : Int) - (out.length : Int) = (x.length : Int) := by omega
      have HM2 := hide hm2x
      clear hm2x hxl
      go_wp2_with fail
      have cv5 := (unhide HU5).tx
      have cm5 := (unhide HU5).ms
      by_cases hbd : most < (m2)
      · have g8 : decide ((m2 : Int) > (most : Int)) = true := by simp; omega
        have g8' : decide ((most : Int) < (m2 : Int)) = true := g8
        have g8n : decide (most < (m2)) = true := by simp; omega
        have hev := unhide HEB w5 (unhide HB5)
        go_quiet (fail)
        go_wp2
        go_ret
        exact ⟨_, rfl, .inr (.inl ⟨x, unhide HWO, by rw [← unhide HOUT]; have := unhide HM2; omega, rfl⟩), below_drewN (unhide HB5) _⟩
      · have g8 : decide ((m2 : Int) > (most : Int)) = false := by simp; omega
        have g8' : decide ((most : Int) < (m2 : Int)) = false := g8
        have g8n : decide (most < (m2)) = false := by simp; omega
        go_quiet (fail)
        obtain ⟨w6, hw6⟩ : ∃ w6, w6 = w5.drewN nq := ⟨_, rfl⟩
        have bq : Below w5.heap.size w5 (w5.drewN nq) := below_drewN (Below.refl _ _) nq
        have HU6 := hide ((unhide HU5).below bq)
        have HB6 := hide (below_drewN (unhide HB5) nq)
        rw [← hw6] at HU6 HB6 ⊢
        clear bq cv5 cm5 HU5 HB5 hw6
        have hlast := (unhide HU6).setLast out.length x.length
        have HU7 := hide hlast.1
        have HB7 := hide ((unhide HB6).trans hlast.2)
        have l05 := (unhide HU6).l0
        have l15 := (unhide HU6).l1
        have f5 := (unhide HU6).free 5
        have f6 := (unhide HU6).free 6
        have cv6 := (unhide HU6).tx
        clear hlast HU6 HB6
        go_wp2_with fail
        generalize (w6.setCell ⟨p, 5, none⟩ (.int .i64 (out.length : Int))).setCell ⟨p, 6, none⟩ (.int .i64 (x.length : Int)) = w7 at *
        have hd7 : w7.drew.cell? ⟨p, 3, none⟩ = some (.int .i64 (N1 : Int)) := (unhide HU7).cd.next
        have HU7d := hide ((unhide HU7).below (w' := w7.drew) (Below.refl _ _).drew)
        have HB7d := hide ((unhide HB7).drew)
        have HFT : Hid (Calls Tryz.prog 170 #[.pointer (some ⟨p, 1, none⟩), .int .i64 (N1 : Int)] w7.drew fun e w'' => e = .returned (.tuple #[]) ∧ CD w'' p 1 W (fitS st.S N1) N1 ∧ KC p 1 w7.drew w'') := fit_any p 1 W st.S N1 N1 w7.drew (unhide HU7d).cd hs12
        have entF : ∀ args w, (callFunc 170 args).run Tryz.prog w = .ok (.enter 170 args) w := enters_of Tryz.func170 (by kernel_rfl) rfl
        have HD7 := hide hd7
        clear HU7 HB7 hd7 l05 l15 f5 f6 cv6
        refine wp_region_held_drew (S := fun w' => w'.cell? ⟨p, 3, none⟩ = some (.int .i64 (N1 : Int))) (by kernel_rfl) (unhide HD7) (fun hHeld => ?_)
        refine wpAnyH_take (i := 0) (v := .pointer (some ⟨p, 0, none⟩)) rfl (by kernel_rfl) (by kernel_rfl) (by kernel_rfl) (fun _ _ _ h => h) (Or.inl ⟨by rfl, ?_⟩) hHeld ?_
        · intro w' hSw
          go_simp
        simp only [Act.put, List.setIfInBounds_toArray]
        refine wpAnyH_take (i := 1) (v := .pointer (some ⟨p, 0, none⟩)) rfl (by kernel_rfl) (by kernel_rfl) (by kernel_rfl) (fun _ _ _ h => h) (Or.inl ⟨by rfl, ?_⟩) hHeld ?_
        · intro w' hSw
          go_simp
        simp only [Act.put]
        refine wpAnyH_take (i := 2) (v := .pointer (some ⟨p, 1, none⟩)) rfl (by kernel_rfl) (by kernel_rfl) (by kernel_rfl) (fun _ _ _ h => h) (Or.inl ⟨by rfl, ?_⟩) hHeld ?_
        · intro w' hSw
          go_simp
        simp only [Act.put]
        refine wpAnyH_take (i := 3) (v := .pointer (some ⟨p, 0, none⟩)) rfl (by kernel_rfl) (by kernel_rfl) (by kernel_rfl) (fun _ _ _ h => h) (Or.inl ⟨by rfl, ?_⟩) hHeld ?_
        · intro w' hSw
          go_simp
        simp only [Act.put]
        refine wpAnyH_take (i := 4) (v := .pointer (some ⟨p, 0, none⟩)) rfl (by kernel_rfl) (by kernel_rfl) (by kernel_rfl) (fun _ _ _ h => h) (Or.inl ⟨by rfl, ?_⟩) hHeld ?_
        · intro w' hSw
          go_simp
        simp only [Act.put]
        refine wpAnyH_take (i := 5) (v := .pointer (some ⟨p, 1, none⟩)) rfl (by kernel_rfl) (by kernel_rfl) (by kernel_rfl) (fun _ _ _ h => h) (Or.inl ⟨by rfl, ?_⟩) hHeld ?_
        · intro w' hSw
          go_simp
        simp only [Act.put]
        refine wpAnyH_take (i := 6) (v := .pointer (some ⟨p, 3, none⟩)) rfl (by kernel_rfl) (by kernel_rfl) (by kernel_rfl) (fun _ _ _ h => h) (Or.inl ⟨by rfl, ?_⟩) hHeld ?_
        · intro w' hSw
          go_simp
        simp only [Act.put]
        refine wpAnyH_take (i := 7) (v := .int .i64 (N1 : Int)) rfl (by kernel_rfl) (by kernel_rfl) (by kernel_rfl) (fun _ _ _ h => h) (Or.inl ⟨by rfl, ?_⟩) hHeld ?_
        · intro w' hSw
          go_simp
        simp only [Act.put]
        refine wpAnyH_ready (rs := [8]) (by kernel_rfl) (by simp) ?_
        refine AllReadyH.cons rfl (fun K hK => ?_) AllReadyH.nil
        refine step_calls rfl 170 [.tmp 77, .tmp 82] #[220, 3] rfl [.pointer (some ⟨p, 1, none⟩), .int .i64 (N1 : Int)] (by simp [Act.eval]) entF ?_
        refine (unhide HFT).mono ?_
        rintro e w8 ⟨rfl, hC8, hk8⟩
        refine .inl ⟨_, rfl, ?_⟩
        have HU8 := hide ((unhide HU7d).kc hk8 hC8)
        have HB8 := hide ((unhide HB7d).trans (hk8.below.mono (by omega)))
        refine hK.out _ _ (unhide HU8).cd.next (fun hHeld => ?_)
        clear hK K HFT hC8 hk8 HU7d HB7d
        simp only [Act.put]
        refine wpAnyH_done (by kernel_rfl) ?_ _
        go_wp2
        go_ret
        refine ⟨_, rfl, .inr (.inr ⟨x, unhide HWO, by rw [← unhide HOUT]; have := unhide HM2; omega, rfl, .slice (some ⟨gL, 0, none⟩) P1.length cL, .slice a5 m2 c5, ?_⟩), unhide HB8⟩
        have := unhide HU8
        rw [fitS_size] at this
        rw [← unhide HOUT, ← unhide HX, ← unhide HGX, ← unhide HN1, ← unhide HP1]
        exact this
end
end Go.Proofs.YtjcoahahponabaaGreatDoor
