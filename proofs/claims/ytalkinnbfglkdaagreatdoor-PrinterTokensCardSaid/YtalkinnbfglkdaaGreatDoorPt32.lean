/-
  Layer 8: the scanner's method that reads a token. (Written by wip/gen/token-tok.py.)
-/
import Derived.Test.YtalkinnbfglkdaaGreatDoorPt28
import Derived.Test.YtalkinnbfglkdaaGreatDoorPt23
set_option maxHeartbeats 16000000
namespace Go.Proofs.YtalkinnbfglkdaaGreatDoor.Tok
open Go.RowKit
set_option linter.unusedVariables false
set_option linter.unusedSimpArgs false
def tokenS (s:ByteArray) (i:Nat):Tk :=
 if inB s i 95 95=true then numS s i (i+1) else if isDig s i=true then numS s i (i+1) else if isLet s i=true then wordS s i (i+1)
 else if inB s i 39 39=true then clitS s i (i+1) else if inB s i 34 34=true then strS s i (i+1)
 else if (inB s i 10 10 || inB s i 59 59)=true then .tok 6 0 ⟨#[]⟩ (i+1) else symS s i
theorem Tk.form (r:Tk):∃ vk vn vt ve va,r.val=.tuple #[.agg #[.int .i64 vk,.int .i64 0,.int .i64 0,.int .i64 vn,.string vt],.agg #[.int .i64 ve,.int .i64 va,.slice none 0 0,.slice none 0 0,.string ⟨#[]⟩]]:=by
 cases r
 ·exact ⟨_,_,_,_,_,rfl⟩
 ·exact ⟨_,_,_,_,_,rfl⟩
set_option maxRecDepth 100000 in
theorem tokenQ (s:ByteArray) (hs:s.size<=65536) (HE:EscOK s) (w:World) (b i:Nat) (hi':i<s.size) (hb2:6<b) (hT:Tabs w) (h:Sc w b s i) :
  Calls Tryz.prog 13 #[.pointer (some ⟨b,0,none⟩)] w (Toks s b w (tokenS s i)):=by
 obtain ⟨r,hr⟩:∃ r,Hid (tokenS s i=r):=⟨_,rfl⟩
 rw [hr.out]
 have hlt:=h.lt
 obtain ⟨d0,d1,g0,g1⟩:=h.cells
 have h0:=h.start (.cells #[.int .i64 0,.int .i64 0,.int .i64 0,.int .i64 0,.string ⟨#[]⟩] 37) (.cells #[.int .i64 0,.int .i64 0,.slice none 0 0,.slice none 0 0,.string ⟨#[]⟩] 31)
 have r0:=Res.new w
 have B0:=But.start b w (.cells #[.int .i64 0,.int .i64 0,.int .i64 0,.int .i64 0,.string ⟨#[]⟩] 37) (.cells #[.int .i64 0,.int .i64 0,.slice none 0 0,.slice none 0 0,.string ⟨#[]⟩] 31)
 have T0:=hT.but B0 hb2
 have cA:=fun w (h:Sc w b s i)=>nextQ s hs 95 (by decide) w b i (Nat.le_of_lt hi') h
 cases hA:inB s i 95 95
 ·simp only [hA,adv_f] at cA
  have cB:=fun w (h:Sc w b s i)=>digitQ s hs w b i (Nat.le_of_lt hi') h
  simp only [one] at cB
  cases hB:isDig s i
  ·simp only [hB,adv_f] at cB
   have cC:=fun w (h:Sc w b s i)=>letterQ s hs w b i (Nat.le_of_lt hi') h
   simp only [one] at cC
   cases hC:isLet s i
   ·simp only [hC,adv_f] at cC
    have cD:=fun w (h:Sc w b s i)=>nextQ s hs 39 (by decide) w b i (Nat.le_of_lt hi') h
    cases hD:inB s i 39 39
    ·simp only [hD,adv_f] at cD
     have cE:=fun w (h:Sc w b s i)=>nextQ s hs 34 (by decide) w b i (Nat.le_of_lt hi') h
     cases hE:inB s i 34 34
     ·simp only [hE,adv_f] at cE
      have cG:=fun w (h:Sc w b s i)=>nextQ s hs 10 (by decide) w b i (Nat.le_of_lt hi') h
      cases hG:inB s i 10 10
      ·simp only [hG,adv_f] at cG
       have cH:=fun w (h:Sc w b s i)=>nextQ s hs 59 (by decide) w b i (Nat.le_of_lt hi') h
       cases hH:inB s i 59 59
       ·simp only [hH,adv_f] at cH
        have hr2:symS s i=r:=by rw [<- hr.out,tokenS,if_neg (by rw [hA];decide),if_neg (by rw [hB];decide),if_neg (by rw [hC];decide),if_neg (by rw [hD];decide),if_neg (by rw [hE];decide),if_neg (by rw [hG,hH];decide)]
        clear hr
        obtain ⟨vk,vn,vt,ve,va,hv⟩:=Tk.form r
        have cX:∀ w,Tabs w->Sc w b s (i)->Calls Tryz.prog 30 #[.pointer (some ⟨b,0,none⟩)] w fun e' w'=>e'=.returned (.tuple #[.agg #[.int .i64 vk,.int .i64 0,.int .i64 0,.int .i64 vn,.string vt],.agg #[.int .i64 ve,.int .i64 va,.slice none 0 0,.slice none 0 0,.string ⟨#[]⟩]])/\(∃ j,j<=s.size/\Sc w' b s j/\r.at' j)/\But b w w':=fun w hT h=>by
         rw [<- hv,<- hr2]
         exact symbolQ s hs w b i hi' h
        go_enter Tryz.func13,Tryz.ntmps13
        go_wp2_with (first
         |(go_at_call 22;with_reducible refine (cA _ h0).mono ?_;rintro e1 w1 ⟨rfl,h1,b1⟩;have r1:=r0.but b1 hlt;have B1:=B0.trans b1;have T1:=T0.but b1 hb2)
         |(go_at_call 24;with_reducible refine (cB _ h1).mono ?_;rintro e2 w2 ⟨rfl,h2,b2⟩;have r2:=r1.but b2 hlt;have B2:=B1.trans b2;have T2:=T1.but b2 hb2)
         |(go_at_call 26;with_reducible refine (cC _ h2).mono ?_;rintro e3 w3 ⟨rfl,h3,b3⟩;have r3:=r2.but b3 hlt;have B3:=B2.trans b3;have T3:=T2.but b3 hb2)
         |(go_at_call 22;with_reducible refine (cD _ h3).mono ?_;rintro e4 w4 ⟨rfl,h4,b4⟩;have r4:=r3.but b4 hlt;have B4:=B3.trans b4;have T4:=T3.but b4 hb2)
         |(go_at_call 22;with_reducible refine (cE _ h4).mono ?_;rintro e5 w5 ⟨rfl,h5,b5⟩;have r5:=r4.but b5 hlt;have B5:=B4.trans b5;have T5:=T4.but b5 hb2)
         |(go_at_call 22;with_reducible refine (cG _ h5).mono ?_;rintro e6 w6 ⟨rfl,h6,b6⟩;have r6:=r5.but b6 hlt;have B6:=B5.trans b6;have T6:=T5.but b6 hb2)
         |(go_at_call 22;with_reducible refine (cH _ h6).mono ?_;rintro e7 w7 ⟨rfl,h7,b7⟩;have r7:=r6.but b7 hlt;have B7:=B6.trans b7;have T7:=T6.but b7 hb2)
         |(go_at_call 30;with_reducible refine (cX _ T7 h7).mono ?_;rintro e8 w8 ⟨rfl,⟨j,hj,h8,ha⟩,b8⟩;have r8:=r7.but b8 hlt;have B8:=B7.trans b8;obtain ⟨p0,p1,p2,p3,p4,p5,p6,p7,p8,p9⟩:=r8.tok;obtain ⟨q0,q1,q2,q3,q4,q5,q6,q7,q8,q9⟩:=r8.flt))
        refine bodyPost_ret (by simp [results,Tryz.results13,go_sem,p0,p1,p2,p3,p4,q0,q1,q2,q3,q4];try rfl) rfl ?_
        obtain ⟨k1,k2⟩:=stored hlt h8 B8 (.int .i64 vk) (.int .i64 0) (.int .i64 0) (.int .i64 vn) (.string vt) (.int .i64 ve) (.int .i64 va) (.slice none 0 0) (.slice none 0 0) (.string ⟨#[]⟩)
        exact ⟨by rw [hv],⟨j,hj,k1,ha⟩,k2⟩
       ·simp only [hH,adv_t] at cH
        have hr2:r=.tok 6 0 ⟨#[]⟩ (i+1):=by rw [<- hr.out,tokenS,if_neg (by rw [hA];decide),if_neg (by rw [hB];decide),if_neg (by rw [hC];decide),if_neg (by rw [hD];decide),if_neg (by rw [hE];decide),if_pos (by rw [hH];simp)]
        subst hr2
        clear hr
        go_enter Tryz.func13,Tryz.ntmps13
        go_wp2_with (first
         |(go_at_call 22;with_reducible refine (cA _ h0).mono ?_;rintro e1 w1 ⟨rfl,h1,b1⟩;have r1:=r0.but b1 hlt;have B1:=B0.trans b1;have T1:=T0.but b1 hb2)
         |(go_at_call 24;with_reducible refine (cB _ h1).mono ?_;rintro e2 w2 ⟨rfl,h2,b2⟩;have r2:=r1.but b2 hlt;have B2:=B1.trans b2;have T2:=T1.but b2 hb2)
         |(go_at_call 26;with_reducible refine (cC _ h2).mono ?_;rintro e3 w3 ⟨rfl,h3,b3⟩;have r3:=r2.but b3 hlt;have B3:=B2.trans b3;have T3:=T2.but b3 hb2)
         |(go_at_call 22;with_reducible refine (cD _ h3).mono ?_;rintro e4 w4 ⟨rfl,h4,b4⟩;have r4:=r3.but b4 hlt;have B4:=B3.trans b4;have T4:=T3.but b4 hb2)
         |(go_at_call 22;with_reducible refine (cE _ h4).mono ?_;rintro e5 w5 ⟨rfl,h5,b5⟩;have r5:=r4.but b5 hlt;have B5:=B4.trans b5;have T5:=T4.but b5 hb2)
         |(go_at_call 22;with_reducible refine (cG _ h5).mono ?_;rintro e6 w6 ⟨rfl,h6,b6⟩;have r6:=r5.but b6 hlt;have B6:=B5.trans b6;have T6:=T5.but b6 hb2)
         |(go_at_call 22;with_reducible refine (cH _ h6).mono ?_;rintro e7 w7 ⟨rfl,h7,b7⟩;have r7:=r6.but b7 hlt;have B7:=B6.trans b7;have T7:=T6.but b7 hb2;obtain ⟨p0,p1,p2,p3,p4,p5,p6,p7,p8,p9⟩:=r7.tok;obtain ⟨q0,q1,q2,q3,q4,q5,q6,q7,q8,q9⟩:=r7.flt))
        refine bodyPost_ret (by simp [results,Tryz.results13,go_sem,p0,p1,p2,p3,p4,q0,q1,q2,q3,q4];try rfl) rfl ?_
        (obtain ⟨k1,k2⟩:=stored hlt h7 B7 (.int .i64 6) (.int .i64 0) (.int .i64 0) (.int .i64 0) (.string ⟨#[]⟩) (.int .i64 0) (.int .i64 0) (.slice none 0 0) (.slice none 0 0) (.string ⟨#[]⟩);exact ⟨rfl,⟨i+1,hi',k1,rfl⟩,k2⟩)
      ·simp only [hG,adv_t] at cG
       have hr2:r=.tok 6 0 ⟨#[]⟩ (i+1):=by rw [<- hr.out,tokenS,if_neg (by rw [hA];decide),if_neg (by rw [hB];decide),if_neg (by rw [hC];decide),if_neg (by rw [hD];decide),if_neg (by rw [hE];decide),if_pos (by rw [hG];simp)]
       subst hr2
       clear hr
       go_enter Tryz.func13,Tryz.ntmps13
       go_wp2_with (first
        |(go_at_call 22;with_reducible refine (cA _ h0).mono ?_;rintro e1 w1 ⟨rfl,h1,b1⟩;have r1:=r0.but b1 hlt;have B1:=B0.trans b1;have T1:=T0.but b1 hb2)
        |(go_at_call 24;with_reducible refine (cB _ h1).mono ?_;rintro e2 w2 ⟨rfl,h2,b2⟩;have r2:=r1.but b2 hlt;have B2:=B1.trans b2;have T2:=T1.but b2 hb2)
        |(go_at_call 26;with_reducible refine (cC _ h2).mono ?_;rintro e3 w3 ⟨rfl,h3,b3⟩;have r3:=r2.but b3 hlt;have B3:=B2.trans b3;have T3:=T2.but b3 hb2)
        |(go_at_call 22;with_reducible refine (cD _ h3).mono ?_;rintro e4 w4 ⟨rfl,h4,b4⟩;have r4:=r3.but b4 hlt;have B4:=B3.trans b4;have T4:=T3.but b4 hb2)
        |(go_at_call 22;with_reducible refine (cE _ h4).mono ?_;rintro e5 w5 ⟨rfl,h5,b5⟩;have r5:=r4.but b5 hlt;have B5:=B4.trans b5;have T5:=T4.but b5 hb2)
        |(go_at_call 22;with_reducible refine (cG _ h5).mono ?_;rintro e6 w6 ⟨rfl,h6,b6⟩;have r6:=r5.but b6 hlt;have B6:=B5.trans b6;have T6:=T5.but b6 hb2;obtain ⟨p0,p1,p2,p3,p4,p5,p6,p7,p8,p9⟩:=r6.tok;obtain ⟨q0,q1,q2,q3,q4,q5,q6,q7,q8,q9⟩:=r6.flt))
       refine bodyPost_ret (by simp [results,Tryz.results13,go_sem,p0,p1,p2,p3,p4,q0,q1,q2,q3,q4];try rfl) rfl ?_
       (obtain ⟨k1,k2⟩:=stored hlt h6 B6 (.int .i64 6) (.int .i64 0) (.int .i64 0) (.int .i64 0) (.string ⟨#[]⟩) (.int .i64 0) (.int .i64 0) (.slice none 0 0) (.slice none 0 0) (.string ⟨#[]⟩);exact ⟨rfl,⟨i+1,hi',k1,rfl⟩,k2⟩)
     ·simp only [hE,adv_t] at cE
      have hr2:strS s i (i+1)=r:=by rw [<- hr.out,tokenS,if_neg (by rw [hA];decide),if_neg (by rw [hB];decide),if_neg (by rw [hC];decide),if_neg (by rw [hD];decide),if_pos hE]
      clear hr
      obtain ⟨vk,vn,vt,ve,va,hv⟩:=Tk.form r
      have cX:∀ w,Tabs w->Sc w b s (i+1)->Calls Tryz.prog 29 #[.pointer (some ⟨b,0,none⟩),.int .i64 (i:Int)] w fun e' w'=>e'=.returned (.tuple #[.agg #[.int .i64 vk,.int .i64 0,.int .i64 0,.int .i64 vn,.string vt],.agg #[.int .i64 ve,.int .i64 va,.slice none 0 0,.slice none 0 0,.string ⟨#[]⟩]])/\(∃ j,j<=s.size/\Sc w' b s j/\r.at' j)/\But b w w':=fun w hT h=>by
       rw [<- hv,<- hr2]
       exact stringLiteralQ s hs HE w b i (i+1) hi' hb2 hT h
      go_enter Tryz.func13,Tryz.ntmps13
      go_wp2_with (first
       |(go_at_call 22;with_reducible refine (cA _ h0).mono ?_;rintro e1 w1 ⟨rfl,h1,b1⟩;have r1:=r0.but b1 hlt;have B1:=B0.trans b1;have T1:=T0.but b1 hb2)
       |(go_at_call 24;with_reducible refine (cB _ h1).mono ?_;rintro e2 w2 ⟨rfl,h2,b2⟩;have r2:=r1.but b2 hlt;have B2:=B1.trans b2;have T2:=T1.but b2 hb2)
       |(go_at_call 26;with_reducible refine (cC _ h2).mono ?_;rintro e3 w3 ⟨rfl,h3,b3⟩;have r3:=r2.but b3 hlt;have B3:=B2.trans b3;have T3:=T2.but b3 hb2)
       |(go_at_call 22;with_reducible refine (cD _ h3).mono ?_;rintro e4 w4 ⟨rfl,h4,b4⟩;have r4:=r3.but b4 hlt;have B4:=B3.trans b4;have T4:=T3.but b4 hb2)
       |(go_at_call 22;with_reducible refine (cE _ h4).mono ?_;rintro e5 w5 ⟨rfl,h5,b5⟩;have r5:=r4.but b5 hlt;have B5:=B4.trans b5;have T5:=T4.but b5 hb2)
       |(go_at_call 29;with_reducible refine (cX _ T5 h5).mono ?_;rintro e6 w6 ⟨rfl,⟨j,hj,h6,ha⟩,b6⟩;have r6:=r5.but b6 hlt;have B6:=B5.trans b6;obtain ⟨p0,p1,p2,p3,p4,p5,p6,p7,p8,p9⟩:=r6.tok;obtain ⟨q0,q1,q2,q3,q4,q5,q6,q7,q8,q9⟩:=r6.flt))
      refine bodyPost_ret (by simp [results,Tryz.results13,go_sem,p0,p1,p2,p3,p4,q0,q1,q2,q3,q4];try rfl) rfl ?_
      obtain ⟨k1,k2⟩:=stored hlt h6 B6 (.int .i64 vk) (.int .i64 0) (.int .i64 0) (.int .i64 vn) (.string vt) (.int .i64 ve) (.int .i64 va) (.slice none 0 0) (.slice none 0 0) (.string ⟨#[]⟩)
      exact ⟨by rw [hv],⟨j,hj,k1,ha⟩,k2⟩
    ·simp only [hD,adv_t] at cD
     have hr2:clitS s i (i+1)=r:=by rw [<- hr.out,tokenS,if_neg (by rw [hA];decide),if_neg (by rw [hB];decide),if_neg (by rw [hC];decide),if_pos hD]
     clear hr
     obtain ⟨vk,vn,vt,ve,va,hv⟩:=Tk.form r
     have cX:∀ w,Tabs w->Sc w b s (i+1)->Calls Tryz.prog 28 #[.pointer (some ⟨b,0,none⟩),.int .i64 (i:Int)] w fun e' w'=>e'=.returned (.tuple #[.agg #[.int .i64 vk,.int .i64 0,.int .i64 0,.int .i64 vn,.string vt],.agg #[.int .i64 ve,.int .i64 va,.slice none 0 0,.slice none 0 0,.string ⟨#[]⟩]])/\(∃ j,j<=s.size/\Sc w' b s j/\r.at' j)/\But b w w':=fun w hT h=>by
      rw [<- hv,<- hr2]
      exact charLiteralQ s hs HE w b i (i+1) hi' hb2 hT h
     go_enter Tryz.func13,Tryz.ntmps13
     go_wp2_with (first
      |(go_at_call 22;with_reducible refine (cA _ h0).mono ?_;rintro e1 w1 ⟨rfl,h1,b1⟩;have r1:=r0.but b1 hlt;have B1:=B0.trans b1;have T1:=T0.but b1 hb2)
      |(go_at_call 24;with_reducible refine (cB _ h1).mono ?_;rintro e2 w2 ⟨rfl,h2,b2⟩;have r2:=r1.but b2 hlt;have B2:=B1.trans b2;have T2:=T1.but b2 hb2)
      |(go_at_call 26;with_reducible refine (cC _ h2).mono ?_;rintro e3 w3 ⟨rfl,h3,b3⟩;have r3:=r2.but b3 hlt;have B3:=B2.trans b3;have T3:=T2.but b3 hb2)
      |(go_at_call 22;with_reducible refine (cD _ h3).mono ?_;rintro e4 w4 ⟨rfl,h4,b4⟩;have r4:=r3.but b4 hlt;have B4:=B3.trans b4;have T4:=T3.but b4 hb2)
      |(go_at_call 28;with_reducible refine (cX _ T4 h4).mono ?_;rintro e5 w5 ⟨rfl,⟨j,hj,h5,ha⟩,b5⟩;have r5:=r4.but b5 hlt;have B5:=B4.trans b5;obtain ⟨p0,p1,p2,p3,p4,p5,p6,p7,p8,p9⟩:=r5.tok;obtain ⟨q0,q1,q2,q3,q4,q5,q6,q7,q8,q9⟩:=r5.flt))
     refine bodyPost_ret (by simp [results,Tryz.results13,go_sem,p0,p1,p2,p3,p4,q0,q1,q2,q3,q4];try rfl) rfl ?_
     obtain ⟨k1,k2⟩:=stored hlt h5 B5 (.int .i64 vk) (.int .i64 0) (.int .i64 0) (.int .i64 vn) (.string vt) (.int .i64 ve) (.int .i64 va) (.slice none 0 0) (.slice none 0 0) (.string ⟨#[]⟩)
     exact ⟨by rw [hv],⟨j,hj,k1,ha⟩,k2⟩
   ·simp only [hC,adv_t] at cC
    have hr2:wordS s i (i+1)=r:=by rw [<- hr.out,tokenS,if_neg (by rw [hA];decide),if_neg (by rw [hB];decide),if_pos hC]
    clear hr
    obtain ⟨vk,vn,vt,ve,va,hv⟩:=Tk.form r
    have cX:∀ w,Tabs w->Sc w b s (i+1)->Calls Tryz.prog 27 #[.pointer (some ⟨b,0,none⟩),.int .i64 (i:Int)] w fun e' w'=>e'=.returned (.tuple #[.agg #[.int .i64 vk,.int .i64 0,.int .i64 0,.int .i64 vn,.string vt],.agg #[.int .i64 ve,.int .i64 va,.slice none 0 0,.slice none 0 0,.string ⟨#[]⟩]])/\(∃ j,j<=s.size/\Sc w' b s j/\r.at' j)/\But b w w':=fun w hT h=>by
     rw [<- hv,<- hr2]
     exact wordQ s hs w b i (i+1) (by omega) hi' (fun k k1 k2=>by have e:k=i:=(by omega);rw [e,isLD,hC];rfl) h
    go_enter Tryz.func13,Tryz.ntmps13
    go_wp2_with (first
     |(go_at_call 22;with_reducible refine (cA _ h0).mono ?_;rintro e1 w1 ⟨rfl,h1,b1⟩;have r1:=r0.but b1 hlt;have B1:=B0.trans b1;have T1:=T0.but b1 hb2)
     |(go_at_call 24;with_reducible refine (cB _ h1).mono ?_;rintro e2 w2 ⟨rfl,h2,b2⟩;have r2:=r1.but b2 hlt;have B2:=B1.trans b2;have T2:=T1.but b2 hb2)
     |(go_at_call 26;with_reducible refine (cC _ h2).mono ?_;rintro e3 w3 ⟨rfl,h3,b3⟩;have r3:=r2.but b3 hlt;have B3:=B2.trans b3;have T3:=T2.but b3 hb2)
     |(go_at_call 27;with_reducible refine (cX _ T3 h3).mono ?_;rintro e4 w4 ⟨rfl,⟨j,hj,h4,ha⟩,b4⟩;have r4:=r3.but b4 hlt;have B4:=B3.trans b4;obtain ⟨p0,p1,p2,p3,p4,p5,p6,p7,p8,p9⟩:=r4.tok;obtain ⟨q0,q1,q2,q3,q4,q5,q6,q7,q8,q9⟩:=r4.flt))
    refine bodyPost_ret (by simp [results,Tryz.results13,go_sem,p0,p1,p2,p3,p4,q0,q1,q2,q3,q4];try rfl) rfl ?_
    obtain ⟨k1,k2⟩:=stored hlt h4 B4 (.int .i64 vk) (.int .i64 0) (.int .i64 0) (.int .i64 vn) (.string vt) (.int .i64 ve) (.int .i64 va) (.slice none 0 0) (.slice none 0 0) (.string ⟨#[]⟩)
    exact ⟨by rw [hv],⟨j,hj,k1,ha⟩,k2⟩
  ·simp only [hB,adv_t] at cB
   have hr2:numS s i (i+1)=r:=by rw [<- hr.out,tokenS,if_neg (by rw [hA];decide),if_pos hB]
   clear hr
   obtain ⟨vk,vn,vt,ve,va,hv⟩:=Tk.form r
   have cX:∀ w,Tabs w->Sc w b s (i+1)->Calls Tryz.prog 25 #[.pointer (some ⟨b,0,none⟩),.int .i64 (i:Int)] w fun e' w'=>e'=.returned (.tuple #[.agg #[.int .i64 vk,.int .i64 0,.int .i64 0,.int .i64 vn,.string vt],.agg #[.int .i64 ve,.int .i64 va,.slice none 0 0,.slice none 0 0,.string ⟨#[]⟩]])/\(∃ j,j<=s.size/\Sc w' b s j/\r.at' j)/\But b w w':=fun w hT h=>by
    rw [<- hv,<- hr2]
    exact numberQ s hs w b i (i+1) (by omega) hi' h
   go_enter Tryz.func13,Tryz.ntmps13
   go_wp2_with (first
    |(go_at_call 22;with_reducible refine (cA _ h0).mono ?_;rintro e1 w1 ⟨rfl,h1,b1⟩;have r1:=r0.but b1 hlt;have B1:=B0.trans b1;have T1:=T0.but b1 hb2)
    |(go_at_call 24;with_reducible refine (cB _ h1).mono ?_;rintro e2 w2 ⟨rfl,h2,b2⟩;have r2:=r1.but b2 hlt;have B2:=B1.trans b2;have T2:=T1.but b2 hb2)
    |(go_at_call 25;with_reducible refine (cX _ T2 h2).mono ?_;rintro e3 w3 ⟨rfl,⟨j,hj,h3,ha⟩,b3⟩;have r3:=r2.but b3 hlt;have B3:=B2.trans b3;obtain ⟨p0,p1,p2,p3,p4,p5,p6,p7,p8,p9⟩:=r3.tok;obtain ⟨q0,q1,q2,q3,q4,q5,q6,q7,q8,q9⟩:=r3.flt))
   refine bodyPost_ret (by simp [results,Tryz.results13,go_sem,p0,p1,p2,p3,p4,q0,q1,q2,q3,q4];try rfl) rfl ?_
   obtain ⟨k1,k2⟩:=stored hlt h3 B3 (.int .i64 vk) (.int .i64 0) (.int .i64 0) (.int .i64 vn) (.string vt) (.int .i64 ve) (.int .i64 va) (.slice none 0 0) (.slice none 0 0) (.string ⟨#[]⟩)
   exact ⟨by rw [hv],⟨j,hj,k1,ha⟩,k2⟩
 ·simp only [hA,adv_t] at cA
  have hr2:numS s i (i+1)=r:=by rw [<- hr.out,tokenS,if_pos hA]
  clear hr
  obtain ⟨vk,vn,vt,ve,va,hv⟩:=Tk.form r
  have cX:∀ w,Tabs w->Sc w b s (i+1)->Calls Tryz.prog 25 #[.pointer (some ⟨b,0,none⟩),.int .i64 (i:Int)] w fun e' w'=>e'=.returned (.tuple #[.agg #[.int .i64 vk,.int .i64 0,.int .i64 0,.int .i64 vn,.string vt],.agg #[.int .i64 ve,.int .i64 va,.slice none 0 0,.slice none 0 0,.string ⟨#[]⟩]])/\(∃ j,j<=s.size/\Sc w' b s j/\r.at' j)/\But b w w':=fun w hT h=>by
   rw [<- hv,<- hr2]
   exact numberQ s hs w b i (i+1) (by omega) hi' h
  go_enter Tryz.func13,Tryz.ntmps13
  go_wp2_with (first
   |(go_at_call 22;with_reducible refine (cA _ h0).mono ?_;rintro e1 w1 ⟨rfl,h1,b1⟩;have r1:=r0.but b1 hlt;have B1:=B0.trans b1;have T1:=T0.but b1 hb2)
   |(go_at_call 25;with_reducible refine (cX _ T1 h1).mono ?_;rintro e2 w2 ⟨rfl,⟨j,hj,h2,ha⟩,b2⟩;have r2:=r1.but b2 hlt;have B2:=B1.trans b2;obtain ⟨p0,p1,p2,p3,p4,p5,p6,p7,p8,p9⟩:=r2.tok;obtain ⟨q0,q1,q2,q3,q4,q5,q6,q7,q8,q9⟩:=r2.flt))
  refine bodyPost_ret (by simp [results,Tryz.results13,go_sem,p0,p1,p2,p3,p4,q0,q1,q2,q3,q4];try rfl) rfl ?_
  obtain ⟨k1,k2⟩:=stored hlt h2 B2 (.int .i64 vk) (.int .i64 0) (.int .i64 0) (.int .i64 vn) (.string vt) (.int .i64 ve) (.int .i64 va) (.slice none 0 0) (.slice none 0 0) (.string ⟨#[]⟩)
  exact ⟨by rw [hv],⟨j,hj,k1,ha⟩,k2⟩
end Go.Proofs.YtalkinnbfglkdaaGreatDoor.Tok
